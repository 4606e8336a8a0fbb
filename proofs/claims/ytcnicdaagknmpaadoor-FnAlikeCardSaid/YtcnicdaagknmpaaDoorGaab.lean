/- It is proved what l1None, l1With and the model's FamilyMeet return; conditions: those of each statement. -/
import Derived.Maps.AppendAt
import Derived.Deep.AppendLies
import Derived.OwnWalk
import Derived.Test.YtcnicdaagknmpaaDoorRows
import Derived.WalkKit
import Derived.WalkSpells
import Derived.ProofKit
import Derived.OpenShut
import Derived.ShutString
import Derived.ChangeOld
import Derived.Below
import Derived.Deep.RegionHeld3
import Derived.Deep.QuietTactic
import Derived.BigQuiet
import Derived.Lib.Hide
import Derived.Lib.SmallJoins
import Derived.Outline
import Derived.Laws.MakeOwn
import Derived.Laws.OwnMore
import Derived.IntWalk
import Derived.Test.YtcnicdaagknmpaaDoorGaaa
import Derived.RangeFuncNested
import Derived.RangeFuncBound
import Derived.RangeFuncCalls
import Derived.RangeFuncLeaves
import Derived.RangeFuncBox
import Derived.Shelf.Abstract
import Derived.Shelf.RegionOpen
import Derived.OwnWalkIn
import Derived.TacticsInMore
import Derived.LoopNIn
import Derived.LoopIn
import Derived.Shelf.Spec.TrailingZeros
import Derived.RowKit
import Derived.Laws.CopyRow
import Derived.Lib.SlBuf
import Derived.RangeFuncWrites
import Derived.StillTailTactics
import Derived.Maps.OwnIn
import Derived.Maps.Ext
import Derived.DeepKeys4
import Derived.MapKept
import Derived.Lib.AppendZeros
import Derived.Lib.SlicesCompact
import Derived.Lib.OwnBridge
import Derived.OrdersIn
import Derived.TacticsIn
import Derived.Shelf.Sort.Plain
import Derived.Shelf.Slices.In.SortNone
import Derived.Shelf.Slices.CompactI
import Derived.Ground.Names2Prog
import Derived.Lib.SliceRun
import Derived.StillTail
import Derived.StillTactics
import Derived.Deep.RegionLaw
namespace Go.Proofs.YtcnicdaagknmpaaDoor
open Go.RowKit

theorem alloc2_0 (w : World) (o p : Obj) : ((w.alloc o).alloc p).heap[w.heap.size]? = some o := by rw [alloc_old _ _ _ (by simp), alloc_new]
theorem alloc2_1 (w : World) (o p : Obj) : ((w.alloc o).alloc p).heap[w.heap.size + 1]? = some p := by
  rw [show w.heap.size + 1 = (w.alloc o).heap.size from by simp, alloc_new]

/-- A new empty row. -/
theorem own_empty {w : World} {B g : Nat} (h : w.heap[g]? = some (.cells #[] 3 (0, 0))) (hB : B ≤ g) : OwnI w B (.slice (some ⟨g, 0, none⟩) 0 0) [] :=
  ⟨by simp, .inr ⟨g, 0, #[], rfl, hB, h, Nat.le_refl _, by simp [maxLen], by simp, by simp⟩⟩

set_option maxRecDepth 100000 in
set_option maxHeartbeats 400000 in
theorem l1None_any (w : World) : Calls Tryd.prog 28 #[] w (RetFB w 0 [] false) := by
  go_enter Tryd.func28, Tryd.ntmps28
  go_wp2
  refine bodyPost_ret (v := .tuple #[.agg #[.int .i64 0, .slice (some ⟨w.heap.size + 1, 0, none⟩) 0 0], .bool false]) (by simp [results, Tryd.results28, go_sem]) rfl ?_
  exact ⟨_, _, rfl, own_empty (alloc2_1 w _ _) (by omega), below2 _ _ _⟩

set_option maxRecDepth 100000 in
set_option maxHeartbeats 400000 in
theorem l1With_any (m : Int) (a b : Option Addr) (n c k d : Nat) (w : World) :
    Calls Tryd.prog 49 #[.agg #[.int .i64 m, .slice a n c], .slice b k d] w fun e w' => e = .returned (.agg #[.int .i64 m, .slice b k d]) ∧ Below w.heap.size w w' := by
  go_enter Tryd.func49, Tryd.ntmps49
  go_wp2
  refine bodyPost_ret (v := .agg #[.int .i64 m, .slice b k d]) (by simp [results, Tryd.results49, go_sem]) rfl ?_
  exact ⟨rfl, below2 _ _ _⟩

theorem map_at (f : Int → Int) (zs : List Int) (k : Nat) (h : k < zs.length) : (zs.take (k + 1)).map f = (zs.take k).map f ++ [f (zs[k]?.getD 0)] := by
  rw [List.take_succ_eq_append_getElem h, List.map_append]; simp [h]

theorem OwnI.form {w : World} {B : Nat} {v : Value} {zs : List Int} (h : OwnI w B v zs) (hn : 0 < zs.length) : ∃ g cap, v = .slice (some ⟨g, 0, none⟩) zs.length cap ∧ B ≤ g ∧ g < w.heap.size := World.ownsRow.form h hn
end Go.Proofs.YtcnicdaagknmpaaDoor

/- It is proved what with returns, what a dual is, and what FamilyDual of the program returns where there is none; conditions: those of each statement. -/
namespace Go.Proofs.YtcnicdaagknmpaaDoor
open Go.RowKit Go.Shelf

set_option maxRecDepth 100000 in
theorem or_fin : ∀ x : Fin 256, ∀ p : Fin 8, bits BinOp.or IntKind.i64 (x.val : Int) (2 ^ p.val) = ((x.val ||| 2 ^ p.val : Nat) : Int) := by decide +kernel

theorem or_at (x p : Nat) (hx : x < 256) (hp : p < 8) : bits BinOp.or IntKind.i64 (x : Int) (2 ^ p) = ((x ||| 2 ^ p : Nat) : Int) := or_fin ⟨x, hx⟩ ⟨p, hp⟩
theorem p2_small (p : Nat) (hp : p < 8) : (2 : Int) ^ p ≤ 128 ∧ 1 ≤ (2 : Int) ^ p := by
  obtain rfl | rfl | rfl | rfl | rfl | rfl | rfl | rfl : p = 0 ∨ p = 1 ∨ p = 2 ∨ p = 3 ∨ p = 4 ∨ p = 5 ∨ p = 6 ∨ p = 7 := by omega
  all_goals decide

theorem with_any (x p : Nat) (hx : x < 256) (hp : p < 8) (w : World) :
    Calls Tryd.prog 65 #[.int .i64 (x : Int), .int .i64 (p : Int)] w fun e w' => e = .returned (.int .i64 ((x ||| 2 ^ p : Nat) : Int)) ∧ w = w' := by
  have hp8 : (p : Int) < 8 := by omega
  obtain ⟨h1, h2⟩ := p2_small p hp
  have HO := Lib.hid (or_at x p hx hp)
  go_enter Tryd.func65, Tryd.ntmps65
  go_wp2
  go_ret
  exact ⟨by rw [HO.out]; rfl, rfl⟩

theorem own_nil (w : World) (B : Nat) : OwnI w B (.slice none 0 0) [] := World.ownsRow_nil w B 3 1
end Go.Proofs.YtcnicdaagknmpaaDoor

/- It is proved that reducing a family leads to one family only, in whatever order it is done; conditions: those of each statement. -/
namespace Go.Proofs.YtcnicdaagknmpaaDoor
open Go.RowKit

def Bt (v : Nat) (z : Int) : Bool := z.toNat.testBit v
/-- A member that just one set has. -/
def D1 (v : Nat) (G : List Int) : Prop := ∃ x ∈ G, Bt v x = true ∧ ∀ y ∈ G, Bt v y = true → y = x

end Go.Proofs.YtcnicdaagknmpaaDoor

/- It is proved that the drawn clubs are a list of the call's own; conditions: those of each statement. -/
namespace Go.Proofs.YtcnicdaagknmpaaDoor
open Go.RowKit

/-- A draw is under way: the reader's block alone has turned since w. -/
structure DS (w : World) (R : Nat) (b : Option Addr) (n cap P : Nat) (W : World) : Prop where
  rd : ∃ p, p ≤ P ∧ Rd W R b n cap p
  gr : w.grownBy W (some R)

theorem grow_drew {w W : World} {row : Option Nat} (h : w.grownBy W row) : w.grownBy W.drew row := ⟨h.os, h.tape, h.output, h.size, h.block⟩
theorem DS.drew {w : World} {R : Nat} {b : Option Addr} {n cap P : Nat} {W : World} (h : DS w R b n cap P W) : DS w R b n cap P W.drew := ⟨h.rd, grow_drew h.gr⟩
theorem DS.mono {w : World} {R : Nat} {b : Option Addr} {n cap P Q : Nat} {W : World} (h : DS w R b n cap P W) (hP : P ≤ Q) : DS w R b n cap Q W := by
  obtain ⟨p, hp, hr⟩ := h.rd
  exact ⟨⟨p, by omega, hr⟩, h.gr⟩

theorem DS.step {w : World} {R : Nat} {b : Option Addr} {n cap P : Nat} {W W' : World} (h : DS w R b n cap P W) {row : Option Nat} (hg : W.grownBy W' row) (hr : ∀ g, row = some g → w.heap.size ≤ g) (hR : R < w.heap.size) : DS w R b n cap P W' := by
  obtain ⟨p, hp, hrd⟩ := h.rd
  refine ⟨⟨p, hp, HasBlk.kept hrd hg (fun e => by have := hr R e; omega)⟩, ⟨hg.os.trans h.gr.os, hg.tape.trans h.gr.tape, hg.output.trans h.gr.output, Nat.le_trans h.gr.size hg.size, fun i hi hne => ?_⟩⟩
  exact (hg.block i (Nat.lt_of_lt_of_le hi h.gr.size) (fun e => by have := hr i e.symm; omega)).trans (h.gr.block i hi hne)

theorem DS.alloc {w : World} {R : Nat} {b : Option Addr} {n cap P : Nat} {W : World} (h : DS w R b n cap P W) (o : Obj) (hR : R < w.heap.size) : DS w R b n cap P (W.alloc o) :=
  h.step (World.grownBy_alloc W o none) (fun g e => by cases e) hR

theorem Bys.kept {w W : World} {R : Nat} {b : Option Addr} {n : Nat} (h : Bys w R b n) (hR : R < w.heap.size) (hg : w.grownBy W (some R)) : Bys W R b n := by
  rcases h with h | ⟨g, off, e, hgR, hc⟩
  · exact .inl h
  · refine .inr ⟨g, off, e, hgR, fun j hj => ?_⟩
    obtain ⟨z, hz, hcz⟩ := hc j hj
    exact ⟨z, hz, (World.cell?_of_block (a := ⟨g, off + j, none⟩) (hg.block g (by omega) (fun e => by injection e; omega))).trans hcz⟩

theorem own_grown {W W' : World} {B : Nat} {v : Value} {k : Nat} {xs : List Value} {R : Nat} (h : W.ownsRow B 3 1 v k xs) (hg : W.grownBy W' (some R)) (hR : R < B) : W'.ownsRow B 3 1 v k xs := by
  refine World.ownsRow.kept h hg ?_
  cases ho : v.ownBlock with
  | none => exact .inl rfl
  | some g =>
    right
    intro e
    have := (World.ownsRow.lt h g ho).1
    injection e with e
    omega

def PickedD (w : World) (R : Nat) (b : Option Addr) (n cap P : Nat) (x : Int) (W : World) (e : Ending) (W' : World) : Prop :=
  ∃ r : Nat, e = .returned (.int .i64 (r : Int)) ∧ (1 ≤ x → (r : Int) < x) ∧ DS w R b n cap (P + 1) W' ∧ W.grownBy W' (some R)

theorem pickX {w : World} {R : Nat} {b : Option Addr} {n cap P : Nat} {W : World} (hD : DS w R b n cap P W) (hB : Bys w R b n) (hR : R < w.heap.size) (hn : n ≤ 1048576) (hP : P ≤ 1000000) (x : Int) :
    Calls Tryd.prog 16 #[.pointer (some ⟨R, 0, none⟩), .int .i64 x] W (PickedD w R b n cap P x W) := by
  obtain ⟨p, hp, hr⟩ := hD.rd
  refine (pick_any R b n cap p x W hr (hB.kept hR hD.gr) hn (by omega)).mono fun e W' h => ?_
  obtain ⟨r, rfl, h0, h1, h2, h3⟩ := h
  refine ⟨r.toNat, by rw [Int.toNat_of_nonneg h0], fun h => by rw [Int.toNat_of_nonneg h0]; exact h1 h, ⟨⟨p + 1, by omega, h2⟩, only_trans hD.gr h3⟩, h3⟩

theorem pickD {w : World} {R : Nat} {b : Option Addr} {n cap P : Nat} {W : World} (hD : DS w R b n cap P W) (hB : Bys w R b n) (hR : R < w.heap.size) (hn : n ≤ 1048576) (hP : P ≤ 1000000) (x : Int) (_hx : x ≤ 1000000) (_hx0 : -1000000 ≤ x) :
    Calls Tryd.prog 16 #[.pointer (some ⟨R, 0, none⟩), .int .i64 x] W (PickedD w R b n cap P x W) := pickX hD hB hR hn hP x

theorem own_more {W : World} {B : Nat} {a : Option Addr} {k c : Nat} {zs : List Int} {x : Int} (h : W.ownsRow B 3 1 (.slice a k c) k (zs.map (Value.int .i64) ++ [.int .i64 x])) : OwnN W B a k c (zs ++ [x]) := by
  unfold OwnN; rw [List.map_append]; exact h

def DrawnL (w : World) (R : Nat) (b : Option Addr) (n cap P most : Nat) (e : Ending) (W : World) : Prop :=
  ∃ (a : Option Addr) (zs : List Int) (c : Nat), e = .returned (.slice a zs.length c) ∧ zs.length ≤ most ∧ OwnI W w.heap.size (.slice a zs.length c) zs ∧ DS w R b n cap (P + 100) W

set_option maxRecDepth 100000 in
set_option maxHeartbeats 4000000 in
theorem clubsD_any (R : Nat) (b : Option Addr) (n cap P k most : Nat) (w : World) (hD : DS w R b n cap P w) (hB : Bys w R b n) (hR : R < w.heap.size) (hn : n ≤ 1048576) (hP : P ≤ 100000) (hk1 : 1 ≤ k) (hk : k ≤ 6) (hm : most ≤ 9) :
    Calls Tryd.prog 17 #[.pointer (some ⟨R, 0, none⟩), .int .i64 (k : Int), .int .i64 (most : Int)] w (DrawnL w R b n cap P most) := by
  obtain ⟨i0, hi0, hz0, hz1, hz2⟩ := info_parts Tryd.info3
  have HD0 := Lib.hid (hD.alloc (.cells #[] 3) hR)
  have HB := Lib.hid hB
  obtain ⟨hp1, hp2⟩ := p2_small k (by omega)
  clear hD hB
  go_enter Tryd.func17, Tryd.ntmps17
  go_wp2_with fail
  refine (pickD HD0.out HB.out hR hn (by omega) _ (by omega) (by omega)).mono ?_
  rintro e w1 ⟨kk, rfl, hkk, D1, g1⟩
  have hkk2 : (kk : Int) < (most : Int) + 1 := hkk (by omega)
  have HD1 := Lib.hid D1
  have HE1 : Hid (OwnN w1 w.heap.size (some ⟨w.heap.size, 0, none⟩) 0 0 []) := Lib.hid (own_grown (own_empty (alloc_new w _) (Nat.le_refl _)) g1 hR)
  clear D1 g1 hkk
  go_wp2_with fail
  refine (pickD HD1.out HB.out hR hn (by omega) _ (by omega) (by omega)).mono ?_
  rintro e w2 ⟨kd, rfl, hkd, D2, g2⟩
  have hkd2 : kd < 4 := by have := hkd (by omega); omega
  have HD2 := Lib.hid D2
  have HE2 : Hid (OwnN w2 w.heap.size (some ⟨w.heap.size, 0, none⟩) 0 0 []) := Lib.hid (own_grown HE1.out g2 hR)
  clear D2 g2 hkd HD1 HE1 HD0
  go_wp2
  go_loopw [7, 10] (fun v i wr => ∃ (j : Nat) (a' : Option Addr) (c' : Nat) (zs : List Int), j ≤ kk ∧ i = .int .i64 (j : Int) ∧ v = .slice a' j c' ∧ OwnN wr w.heap.size a' j c' zs ∧ DS w R b n cap (P + 2 + 3 * j) wr) (fun _ i _ => kk - (intOf i).toNat)
  case atStart => exact ⟨0, _, _, [], Nat.zero_le _, rfl, rfl, HE2.out, HD2.out⟩
  case round =>
    obtain ⟨j, a', c', zs, hj, rfl, rfl, ho, hd⟩ := hrel
    obtain ⟨wo, hwo⟩ : ∃ wo, wo = wr := ⟨wr, rfl⟩
    subst hwo
    have HO := Lib.hid ho
    have HD := Lib.hid hd
    clear ho hd
    by_cases hlt : j < kk
    · go_wp2_with fail
      refine (pickD HD.out HB.out hR hn (by omega) _ (by omega) (by omega)).mono ?_
      rintro e w3 ⟨r3, rfl, -, D3, g3⟩
      have HD3 := Lib.hid D3
      have HO3 := Lib.hid (own_grown HO.out g3 hR)
      clear D3 g3 HD HO
      have hkds : (kd : Int) < 1 ∨ (0 < (kd : Int) ∧ (kd : Int) < 2) ∨ (1 < (kd : Int) ∧ (kd : Int) < 3) ∨ 2 < (kd : Int) := by omega
      rcases hkds with hka | ⟨hka, hkb⟩ | ⟨hka, hkb⟩ | hka
      · go_wp2
        go_region_with (first
          | (go_at_call 16; refine (pickD HD3.out.drew HB.out hR hn (by omega) _ (by omega) (by omega)).mono ?_; rintro e w4 ⟨r4, rfl, h4, D4, g4⟩)
          | (go_at_call 16; refine (pickD D4 HB.out hR hn (by omega) _ (by omega) (by omega)).mono ?_; rintro e w5 ⟨r5, rfl, h5, D5, g5⟩))
        have HD5 := Lib.hid D5
        have HO5 := Lib.hid (own_grown (own_grown (W := w3.drew) HO3.out g4 hR) g5 hR)
        clear D4 D5 g4 g5 HD3 HO3 h4 h5
        have hsz5 := HD5.out.gr.size
        go_wp2_with (at_builtin; refine wpList_append_own _ rfl _ _ 23 rfl w.heap.size 3 i0 (.int .i64 0) 1 8 Tryd.underlying23 hi0 hz0 hz1 hz2 rfl (by decide) _ _ _ rfl (HO5.out.alloc _) ⟨w5.heap.size, 0, none⟩ 1 1 [.int .i64 _] rfl rfl (cell_one_new _ _ _) (by simp [Value.oneCell']) (by simp only [maxLen]; omega) (by omega) (by simp; omega) ?_; intro v' w9 hown hgrow _; obtain ⟨g', cap', rfl, _, _⟩ := World.ownsRow.form hown (by omega))
        go_roundw
        case rel => exact ⟨j + 1, _, _, _, by omega, by go_num, rfl, own_more hown, ((HD5.out.alloc _ hR).step hgrow (fun g e => (World.ownsRow.lt HO5.out g e).1) hR).mono (by omega)⟩
        case measure => simp [intOf]; omega
      · go_wp2_with fail
        refine (pickD HD3.out HB.out hR hn (by omega) _ (by omega) (by omega)).mono ?_
        rintro e w4 ⟨r4, rfl, h4, D4, g4⟩
        have h4k := h4 (by omega)
        have HD4 := Lib.hid D4
        have HO4 := Lib.hid (own_grown HO3.out g4 hR)
        clear D4 g4 HD3 HO3 h4
        go_wp2_with fail
        refine (pickD HD4.out HB.out hR hn (by omega) _ (by omega) (by omega)).mono ?_
        rintro e w5 ⟨r5, rfl, h5, D5, g5⟩
        have h5k := h5 (by omega)
        have HD5 := Lib.hid D5
        have HO5 := Lib.hid (own_grown HO4.out g5 hR)
        clear D5 g5 HD4 HO4 h5
        have hsz5 := HD5.out.gr.size
        go_wp2_with (at_builtin; refine wpList_append_own _ rfl _ _ 23 rfl w.heap.size 3 i0 (.int .i64 0) 1 8 Tryd.underlying23 hi0 hz0 hz1 hz2 rfl (by decide) _ _ _ rfl (HO5.out.alloc _) ⟨w5.heap.size, 0, none⟩ 1 1 [.int .i64 _] rfl rfl (cell_one_new _ _ _) (by simp [Value.oneCell']) (by simp only [maxLen]; omega) (by omega) (by simp; omega) ?_; intro v' w9 hown hgrow _; obtain ⟨g', cap', rfl, _, _⟩ := World.ownsRow.form hown (by omega))
        go_roundw
        case rel => exact ⟨j + 1, _, _, _, by omega, by go_num, rfl, own_more hown, ((HD5.out.alloc _ hR).step hgrow (fun g e => (World.ownsRow.lt HO5.out g e).1) hR).mono (by omega)⟩
        case measure => simp [intOf]; omega
      · go_wp2
        go_region_with (first
          | (go_at_call 16; refine (pickD HD3.out.drew HB.out hR hn (by omega) _ (by omega) (by omega)).mono ?_; rintro e w4 ⟨r4, rfl, h4, D4, g4⟩)
          | (go_at_call 16; refine (pickD D4 HB.out hR hn (by omega) _ (by omega) (by omega)).mono ?_; rintro e w5 ⟨r5, rfl, h5, D5, g5⟩))
        have HD5 := Lib.hid D5
        have HO5 := Lib.hid (own_grown (own_grown (W := w3.drew) HO3.out g4 hR) g5 hR)
        clear D4 D5 g4 g5 HD3 HO3 h4 h5
        have hsz5 := HD5.out.gr.size
        go_wp2_with (at_builtin; refine wpList_append_own _ rfl _ _ 23 rfl w.heap.size 3 i0 (.int .i64 0) 1 8 Tryd.underlying23 hi0 hz0 hz1 hz2 rfl (by decide) _ _ _ rfl (HO5.out.alloc _) ⟨w5.heap.size, 0, none⟩ 1 1 [.int .i64 _] rfl rfl (cell_one_new _ _ _) (by simp [Value.oneCell']) (by simp only [maxLen]; omega) (by omega) (by simp; omega) ?_; intro v' w9 hown hgrow _; obtain ⟨g', cap', rfl, _, _⟩ := World.ownsRow.form hown (by omega))
        go_roundw
        case rel => exact ⟨j + 1, _, _, _, by omega, by go_num, rfl, own_more hown, ((HD5.out.alloc _ hR).step hgrow (fun g e => (World.ownsRow.lt HO5.out g e).1) hR).mono (by omega)⟩
        case measure => simp [intOf]; omega
      · have hsz3 := HD3.out.gr.size
        go_wp2_with (at_builtin; refine wpList_append_own _ rfl _ _ 23 rfl w.heap.size 3 i0 (.int .i64 0) 1 8 Tryd.underlying23 hi0 hz0 hz1 hz2 rfl (by decide) _ _ _ rfl (HO3.out.alloc _) ⟨w3.heap.size, 0, none⟩ 1 1 [.int .i64 (r3 : Int)] rfl rfl (cell_one_new _ _ _) (by simp [Value.oneCell']) (by simp only [maxLen]; omega) (by omega) (by simp; omega) ?_; intro v' w9 hown hgrow _; obtain ⟨g', cap', rfl, _, _⟩ := World.ownsRow.form hown (by omega))
        go_roundw
        case rel => exact ⟨j + 1, _, _, _, by omega, by go_num, rfl, own_more hown, ((HD3.out.alloc _ hR).step hgrow (fun g e => (World.ownsRow.lt HO3.out g e).1) hR).mono (by omega)⟩
        case measure => simp [intOf]; omega
    · obtain rfl : j = kk := by omega
      have hlen : zs.length = j := by have := HO.out.1; simpa using this
      have HR : Hid (DrawnL w R b n cap P most (.returned (.slice a' j c')) wo) := Lib.hid ⟨a', zs, c', by rw [hlen], by omega, by unfold OwnI; rw [hlen]; exact HO.out, HD.out.mono (by omega)⟩
      go_wp2
      go_ret
      exact HR.out

end Go.Proofs.YtcnicdaagknmpaaDoor

/- It is proved that a family drawn from bytes is one of the call's own; conditions: those of each statement. -/
namespace Go.Proofs.YtcnicdaagknmpaaDoor
open Go.RowKit

theorem openD_any (a : Option Addr) (n cap : Nat) (w : World) (hn : n ≤ 1048576) (hc : n ≤ cap) (hc2 : cap ≤ 9223372036854775807) (ha : n ≠ 0 → ∃ g off, a = some ⟨g, off, none⟩) :
    Calls Tryd.prog 12 #[.slice a n cap] w fun e w' => ∃ k, k ≤ n ∧ e = .returned (.pointer (some ⟨w.heap.size, 0, none⟩)) ∧ w' = w.alloc (.cells #[.slice a k cap, .int .i64 0] 61) := by
  by_cases h : n ≤ 2000
  · go_enter Tryd.func12, Tryd.ntmps12
    go_wp2
    go_ret
    exact ⟨n, Nat.le_refl _, rfl, rfl⟩
  · obtain ⟨g, off, rfl⟩ := ha (by omega)
    have hc3 : (2000 : Int) ≤ (cap : Int) := by omega
    go_enter Tryd.func12, Tryd.ntmps12
    go_wp2
    go_ret
    exact ⟨2000, by omega, rfl, rfl⟩

theorem Bys.below {w W : World} {B : Nat} {b : Option Addr} {n : Nat} (h : Bys w B b n) (hb : Below B w W) : Bys W B b n := by
  rcases h with h | ⟨g, off, e, hgR, hc⟩
  · exact .inl h
  · refine .inr ⟨g, off, e, hgR, fun j hj => ?_⟩
    obtain ⟨z, hz, hcz⟩ := hc j hj
    exact ⟨z, hz, (hb.cell (p := ⟨g, off + j, none⟩) hgR).trans hcz⟩

theorem Bys.fewer {w : World} {B B' : Nat} {b : Option Addr} {n k : Nat} (h : Bys w B b n) (hB : B ≤ B') (hk : k ≤ n) : Bys w B' b k := by
  rcases h with h | ⟨g, off, e, hgR, hc⟩
  · exact .inl (by omega)
  · exact .inr ⟨g, off, e, by omega, fun j hj => hc j (by omega)⟩

end Go.Proofs.YtcnicdaagknmpaaDoor

/- It is proved how a slice of bytes among a law's arguments reads; conditions: none but that the argument can be read. -/
namespace Go.Proofs.YtcnicdaagknmpaaDoor
open Go.ChangeShapes Go.WideShapes Go.ChangeAt Go.RowKit Go.Joins
open Go.ChangeMaps (open_string shut_string)

theorem u8_min : IntKind.u8.min = 0 := by decide
theorem u8_max : IntKind.u8.max = 255 := by decide
theorem byte_in {z : Int} (h : (Lit.int .u8 z).wf = true) : 0 ≤ z ∧ z ≤ 255 := by
  simp [Lit.wf, u8_min, u8_max] at h; exact h

theorem byte_small {z : Int} (h : (Lit.int .u8 z).wf = true) : z.toNat < 256 := by have := byte_in h; omega
theorem byte_nat {z : Int} (h : (Lit.int .u8 z).wf = true) : Value.int .u8 z = .int .u8 ((z.toNat : Nat) : Int) := by
  rw [Int.toNat_of_nonneg (byte_in h).1]

theorem Tryd.cells5 : Tryd.prog.cellsOf 5 = 1 := by kernel_rfl
set_option maxRecDepth 100000 in
theorem open_code {H : Type} {enc : TypeId × Value → H} {W : World} {base : Nat} {v : Value} {d : DataW H} {p : List MemPlace}
    (hv : Value.okWide Tryd.prog W .any base 22 v) (h : DataW.Trod enc Tryd.prog W 0 (fun _ => true) true 22 v d p) :
    ∃ a n cap, v = .slice a n cap ∧ n ≤ cap ∧ cap ≤ maxLen ∧ Bys W W.heap.size a n := by
  obtain ⟨a, n, cap, rfl⟩ := okWide_slice Tryd.underlying22 hv
  obtain ⟨fuel, hf⟩ := h
  rcases open_ints Tryd.underlying22 Tryd.underlying5 Tryd.cells5 hf with ⟨hcs, _⟩ | ⟨x, l, c, zs, hcs, _, hl, hm, hz, hx, hcell, hwz⟩
  · simp [Value.cells] at hcs
    obtain ⟨rfl, rfl, rfl⟩ := hcs
    exact ⟨none, 0, 0, rfl, by omega, by simp [maxLen], .inl rfl⟩
  · simp [Value.cells] at hcs
    obtain ⟨rfl, rfl, rfl⟩ := hcs
    refine ⟨some x, n, cap, rfl, hl, hm, ?_⟩
    by_cases h0 : n = 0
    · exact .inl h0
    · obtain ⟨b, off, spot⟩ := x
      simp at hz
      have hc := hcell 0 (by omega)
      have hspot : spot = none := by simpa [Addr.add] using World.cell?_spot hc
      subst hspot
      refine .inr ⟨b, off, rfl, by simpa [Addr.add] using World.block_lt_of_cell? W _ hc, fun j hj => ?_⟩
      have h1 := hcell j (by omega)
      rw [show (⟨b, off, none⟩ : Addr).add j = ⟨b, off + j, none⟩ from by unfold Addr.add; split <;> simp_all] at h1
      have h2 := hwz (zs.getD j 0) (by
        have : j < zs.length := by omega
        simp [List.getD, this])
      refine ⟨(zs.getD j 0).toNat, ?_, ?_⟩
      · exact byte_small h2
      · rw [h1, byte_nat h2]

end Go.Proofs.YtcnicdaagknmpaaDoor

/- It is proved how a Family among a law's arguments reads as a number and a list of ints; conditions: none but that the argument can be read. -/
namespace Go.Proofs.YtcnicdaagknmpaaDoor
open Go.ChangeShapes Go.WideShapes Go.ChangeAt Go.RowKit Go.Joins
open Go.ChangeMaps (open_string shut_string)

theorem Tryd.own : ownKnob Tryd.prog.godebug = none := by kernel_rfl
theorem Tryd.laidOut : laidOutB Tryd.prog = true := by kernel_rfl
theorem Tryd.cells3 : Tryd.prog.cellsOf 3 = 1 := by kernel_rfl
theorem Tryd.cells23 : Tryd.prog.cellsOf 23 = 1 := by kernel_rfl
theorem ints_of_row {W : World} {x : Addr} {l c : Nat} {zs : List Int} (hl : l ≤ c) (hz : zs.length = c)
    (hcell : ∀ i, i < zs.length → W.cell? (x.add i) = some (.int .i64 (zs.getD i 0))) : Ints W W.heap.size (some x) (zs.take l) := by
  by_cases h0 : l = 0
  · subst h0; exact .inl (by simp)
  · obtain ⟨b, off, spot⟩ := x
    have hc := hcell 0 (by omega)
    have hspot : spot = none := by simpa [Addr.add] using World.cell?_spot hc
    subst hspot
    refine .inr ⟨b, off, rfl, by simpa [Addr.add] using World.block_lt_of_cell? W _ hc, fun j hj => ?_⟩
    have hj' : j < l := by simp at hj; omega
    have := hcell j (by omega)
    rw [show (⟨b, off, none⟩ : Addr).add j = ⟨b, off + j, none⟩ from by unfold Addr.add; split <;> simp_all] at this
    rw [this]
    simp [List.getD, hj']

end Go.Proofs.YtcnicdaagknmpaaDoor

/- It is proved how all names of members are listed in order, by choosing the first name and by going on from the front; conditions: those of each statement. -/
namespace Go.Proofs.YtcnicdaagknmpaaDoor
open Go.RowKit

/-- All orders of these members, as lists are compared. -/
def permsL : Nat → List Nat → List (List Nat)
  | 0, _ => [[]]
  | k + 1, us => us.flatMap fun v => (permsL k (us.erase v)).map (v :: ·)

/-- Each list, with each member below n that it has not, behind it. -/
def nextL (n : Nat) (L : List (List Nat)) : List (List Nat) := L.flatMap fun l => ((List.range n).filter fun v => !l.contains v).map fun v => l ++ [v]

def fromL (n : Nat) : Nat → List (List Nat) → List (List Nat)
  | 0, L => L
  | k + 1, L => fromL n k (nextL n L)

def lvlL (n : Nat) : Nat → List (List Nat)
  | 0 => [[]]
  | k + 1 => nextL n (lvlL n k)

theorem fromL_succ (n : Nat) : ∀ (k : Nat) (L : List (List Nat)), fromL n (k + 1) L = nextL n (fromL n k L)
  | 0, _ => rfl
  | k + 1, L => by rw [fromL, fromL_succ n k]; rfl

theorem lvlL_from (n : Nat) : ∀ k, lvlL n k = fromL n k [[]]
  | 0 => rfl
  | k + 1 => by rw [fromL_succ, lvlL, lvlL_from n k]

theorem nextL_flat {α : Type} (n : Nat) (xs : List α) (f : α → List (List Nat)) : nextL n (xs.flatMap f) = xs.flatMap fun x => nextL n (f x) := by
  unfold nextL; rw [List.flatMap_assoc]

theorem fromL_flat {α : Type} (n : Nat) : ∀ (k : Nat) (xs : List α) (f : α → List (List Nat)), fromL n k (xs.flatMap f) = xs.flatMap fun x => fromL n k (f x)
  | 0, _, _ => rfl
  | k + 1, xs, f => by rw [fromL, nextL_flat, fromL_flat n k]; rfl

theorem erase_filter (n : Nat) (l : List Nat) (v : Nat) : ((List.range n).filter fun u => !l.contains u).erase v = (List.range n).filter fun u => !(l ++ [v]).contains u := by
  rw [List.Nodup.erase_eq_filter (List.Pairwise.filter _ List.nodup_range), List.filter_filter]
  apply List.filter_congr
  intro x _
  rw [Bool.eq_iff_iff]
  simp [and_comm]

theorem fromL_perms (n : Nat) : ∀ (k : Nat) (l : List Nat), fromL n k [l] = (permsL k ((List.range n).filter fun u => !l.contains u)).map (l ++ ·)
  | 0, l => by simp [fromL, permsL]
  | k + 1, l => by
    rw [fromL, show nextL n [l] = ((List.range n).filter fun u => !l.contains u).flatMap fun v => [l ++ [v]] from by simp [nextL, List.map_eq_flatMap], fromL_flat, permsL, List.map_flatMap]
    congr 1
    funext v
    rw [fromL_perms n k, erase_filter, List.map_map]
    apply List.map_congr_left
    intro x _
    simp

theorem lvlL_perms (n k : Nat) : lvlL n k = permsL k (List.range n) := by
  rw [lvlL_from, fromL_perms, show ((List.range n).filter fun u => !([] : List Nat).contains u) = List.range n from by simp]
  simp

theorem permsL_len : ∀ (k : Nat) (us : List Nat) (p : List Nat), p ∈ permsL k us → p.length = k
  | 0, us, p, h => by simp [permsL] at h; simp [h]
  | k + 1, us, p, h => by
    simp only [permsL, List.mem_flatMap, List.mem_map] at h
    obtain ⟨v, _, q, hq, rfl⟩ := h
    simp [permsL_len k _ q hq]

theorem permsL_perm : ∀ (k : Nat) (us : List Nat) (p : List Nat), us.length = k → p ∈ permsL k us → p.Perm us
  | 0, us, p, hl, h => by simp [permsL] at h; simp [h, List.eq_nil_of_length_eq_zero hl]
  | k + 1, us, p, hl, h => by
    simp only [permsL, List.mem_flatMap, List.mem_map] at h
    obtain ⟨v, hv, q, hq, rfl⟩ := h
    have := permsL_perm k _ q (by rw [List.length_erase_of_mem hv]; omega) hq
    exact (this.cons v).trans (List.perm_cons_erase hv).symm

theorem flat_len {α β : Type} (f : α → List β) (c : Nat) : ∀ xs : List α, (∀ x ∈ xs, (f x).length ≤ c) → (xs.flatMap f).length ≤ xs.length * c
  | [], _ => by simp
  | x :: xs, h => by
    rw [List.flatMap_cons, List.length_append, List.length_cons, Nat.succ_mul]
    have h1 := h x (by simp)
    have h2 := flat_len f c xs (fun y hy => h y (by simp [hy]))
    omega

theorem lvlL_len (n : Nat) : ∀ k, (lvlL n k).length ≤ n ^ k
  | 0 => by simp [lvlL]
  | k + 1 => by
    rw [lvlL, nextL, Nat.pow_succ]
    refine Nat.le_trans (flat_len _ n _ (fun l _ => ?_)) (Nat.mul_le_mul_right _ (lvlL_len n k))
    rw [List.length_map]
    exact Nat.le_trans (List.length_filter_le _ _) (by simp)

theorem lvlL_small {n : Nat} (hn : n ≤ 6) {k : Nat} (hk : k ≤ n) : (lvlL n k).length ≤ 46656 :=
  Nat.le_trans (lvlL_len n k) (Nat.le_trans (Nat.pow_le_pow_left hn k) (Nat.le_trans (Nat.pow_le_pow_right (by decide) (by omega)) (by decide : 6 ^ 6 ≤ 46656)))

theorem lvlL_in {n k : Nat} {p : List Nat} (h : p ∈ lvlL n k) : p.length = k := by rw [lvlL_perms] at h; exact permsL_len _ _ _ h
theorem lvlL_lt {n : Nat} : ∀ {k : Nat} {p : List Nat}, p ∈ lvlL n k → ∀ v ∈ p, v < n
  | 0, p, h => by simp [lvlL] at h; simp [h]
  | k + 1, p, h => by
    simp only [lvlL, nextL, List.mem_flatMap, List.mem_map, List.mem_filter, List.mem_range] at h
    obtain ⟨l, hl, v, ⟨hv, _⟩, rfl⟩ := h
    intro u hu
    rcases List.mem_append.1 hu with h1 | h1
    · exact lvlL_lt hl u h1
    · simp at h1; omega

end Go.Proofs.YtcnicdaagknmpaaDoor

/- It is proved that a region that draws its order inside a round may be walked once where all its operations but the last ones leave the world alone; conditions: those of each statement. -/
namespace Go
section
variable {F : Fence} {n : Nat} {P : Program} {ops : Array Oper} {md : Region.Mode} {Q' : Exit → Act → World → Prop}

/-- A fence that shuts nothing out. -/
structure Fence.Open (F : Fence) : Prop where
  fns : ∀ f, F.fn f
  deep : F.depth.isSome = false
  calls : ∀ (P : Program) (f : FuncId) (args : Array Value) (w : World) (R : Ending → World → Prop) (m : Nat), Calls P f args w R → CallsIn F m P f args w R

theorem Fence.Open.wide : Fence.Open Fence.wide := ⟨fun _ => trivial, rfl, fun _ _ _ _ _ _ h => callsIn_wide.2 h⟩
theorem Fence.Open.inRound {F : Fence} (h : F.Open) (l : Nat) : (F.inRound l).Open := ⟨h.fns, h.deep, fun P f args w R m hc => CallsIn.inRound l (h.calls P f args w R m hc)⟩
theorem wpIn_of_still_o (hF : F.Open) {o : Oper} {a : Act} {w : World} {K : Act → Prop} {K' : Act → World → Prop} (hd : ∀ c, o.op ≠ .defer c) (h : ∀ a, K a → K' a w) (hh : o.still P a w K) : o.wpIn F n P a w K' Q' := by
  unfold Oper.still at hh
  unfold Oper.wpIn
  refine ⟨fun f _ => hF.fns f, ?_⟩
  rw [Oper.semAt_eq _ _ _ hd]
  generalize (execOp a.eval o).run P w = r at *
  cases r with
  | ok nx w' =>
    cases nx <;> simp only [Oper.stillUpon] at hh <;> simp only [Oper.uponIn]
    case enter f args =>
      obtain ⟨rfl, v, hc, hn⟩ := hh
      refine ⟨fun h1 => absurd h1 (by rw [hF.deep]; decide), (hF.calls _ _ _ _ _ _ hc).mono fun e w'' ⟨he, hw⟩ => ?_⟩
      subst he; subst hw; exact h _ hn
    all_goals (obtain ⟨rfl, h2⟩ := hh; exact h _ h2)
  | halt x w' => simp only [Oper.stillUpon] at hh

theorem wpOpIn_of_stOp_o (hF : F.Open) {i : Nat} {a : Act} {w : World} {K : Act → Prop} {K' : Act → World → Prop} (hd : ∀ o, ops[i]? = some o → ∀ c, o.op ≠ .defer c) (h : ∀ a, K a → K' a w) (hh : stOp P ops w i K a) : wpOpIn F n P ops Q' i K' a w := by
  unfold stOp at hh
  unfold wpOpIn
  split
  · rename_i ho; simp only [ho] at hh; exact h _ hh
  · rename_i o ho
    simp only [ho] at hh
    split
    · rename_i hw; simp only [hw, if_true] at hh; exact wpIn_of_still_o hF (hd o ho) h hh
    · rename_i hw; simp only [hw] at hh; exact ⟨fun f _ => hF.fns f, h _ hh⟩

theorem wpAnyIn_of_head_o (hF : F.Open) {m g : Nat} {w : World} {L : Array Bool → Act → Prop} (hd : ∀ (i : Nat) (o : Oper), ops[i]? = some o → ∀ c, o.op ≠ .defer c) (hL : ∀ listed a, L listed a → wpAnyIn F n P md ops Q' g listed a w) :
    ∀ (f : Nat) (listed : Array Bool) (a : Act), wpAnyL P md ops w m L f listed a → wpAnyIn F n P md ops Q' (f + g) listed a w
  | 0, listed, a, h => by rw [Nat.zero_add]; exact hL _ _ h
  | f + 1, listed, a, h => by
    rw [show f + 1 + g = (f + g) + 1 by omega]
    exact ⟨fun h0 => absurd h0 h.1, fun i hi => wpOpIn_of_stOp_o hF (hd i) (fun a' h' => wpAnyIn_of_head_o hF hd hL f _ a' h') (h.2 i hi).2⟩

theorem wpAnyIn_of_seq_o : ∀ (l : List Oper) (k : Nat) (listed : Array Bool) (a : Act) (w : World), (∀ j, l[j]? = ops[k + j]?) →
    Region.seqB md ops l.length k listed = true → wpListIn F n P ops Q' l a w → wpAnyIn F n P md ops Q' l.length listed a w
  | [], _, _, _, _, _, hB, h => ⟨by simpa [Region.seqB] using hB, h⟩
  | o :: l, k, listed, a, w, hl, hB, h => by
    have h0 : ops[k]? = some o := by simpa using (hl 0).symm
    simp only [List.length_cons, Region.seqB, Bool.and_eq_true, decide_eq_true_eq] at hB
    refine ⟨fun h1 => (by rw [hB.1] at h1; cases h1), fun i hi => ?_⟩
    rw [hB.1] at hi
    have hik : i = k := by simpa using hi
    subst hik
    have hw : wpOpIn F n P ops Q' i (wpListIn F n P ops Q' l) a w := by unfold wpOpIn; simp only [h0]; exact h
    exact wpOpIn_mono (fun a' w' h' => wpAnyIn_of_seq_o l (i + 1) _ a' w' (fun j => by have := hl (j + 1); simpa [Nat.add_assoc, Nat.add_comm 1 j] using this) hB.2 h') hw

def noDefer (l : List Oper) : Bool := l.all fun o => match o.op with | .defer _ => false | _ => true
theorem noDefer_spec {l : List Oper} (h : noDefer l = true) (i : Nat) (o : Oper) (hi : l.toArray[i]? = some o) : ∀ c, o.op ≠ .defer c := by
  have h1 := List.all_eq_true.1 h o (List.mem_of_getElem? (by simpa using hi))
  intro c e
  rw [e] at h1
  cases h1

theorem wpIn_region_still_tail_o (hF : F.Open) {id : Nat} {Q : Exit → Act → World → Prop} {a : Act} {w : World} {l : List Oper} (m : Nat) (hm : P.follows .mixedOrders = true) (hdf : noDefer l = true) (hB : Region.lexTailB .any l.toArray m = true)
    (h : wpStill P l.toArray { w with drawn := w.drawn + 1 } (fun a' => wpListIn F n P l.toArray Q (l.drop m) a' { w with drawn := w.drawn + 1 }) (l.take m) a) : (Code.region id l.toArray true).wpIn F n P Q a w := by
  simp only [Region.lexTailB, Bool.and_eq_true, decide_eq_true_eq] at hB
  obtain ⟨⟨⟨⟨hsel, hn⟩, hs⟩, hc⟩, hlex⟩ := hB
  have htl : (l.take m).length = m := by have : m < l.length := by simpa using hn
                                         simp; omega
  have hdl : (l.drop m).length = l.toArray.size - m := by simp
  have inv0 : HeadInv .any l.toArray m (Array.replicate l.toArray.size false) :=
    ⟨by simp, fun j oj _ hl => (by rw [getD_replicate_false] at hl; cases hl), fun t _ ht => getD_in (by simpa using ht) (getD_replicate_false _ _)⟩
  have H := wpAnyL_lex (md := .any) (g := l.toArray.size - m) hsel hs hc hn (l.take m) 0 _ a (fun j hj => by
    have hj' : j < m := by rw [htl] at hj; exact hj
    simp [hj']) (by simpa using htl) inv0 (by rw [htl]; exact hlex) h
  refine wpIn_region_any hm ?_
  have := wpAnyIn_of_head_o (n := n) (Q' := Q) (g := l.toArray.size - m) hF (noDefer_spec hdf) (fun listed a' hL => by
    have := wpAnyIn_of_seq_o (F := F) (n := n) (md := .any) (Q' := Q) (l.drop m) m listed a' { w with drawn := w.drawn + 1 } (fun j => by simp [List.getElem?_drop]) (by rw [hdl]; exact hL.1) hL.2
    rwa [hdl] at this) _ _ _ H
  rw [htl, show m + (l.toArray.size - m) = l.toArray.size by omega] at this
  exact this

end
end Go
