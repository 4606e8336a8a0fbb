/- It is proved that the drawn clubs are a list of the call's own; conditions: those of each statement. -/
import Derived.Test.YtckbhhaigpajpaaDoorRows
import Derived.WalkKit
import Derived.WalkSpells
import Derived.ProofKit
import Derived.OpenShut
import Derived.ShutString
import Derived.ChangeOld
import Derived.Below
import Derived.Deep.RegionHeld3
import Derived.Deep.QuietTactic
import Derived.BigQuiet
import Derived.Lib.Hide
import Derived.Lib.SmallJoins
import Derived.Outline
import Derived.Laws.MakeOwn
import Derived.Laws.OwnMore
import Derived.IntWalk
import Derived.RangeFuncNested
import Derived.RangeFuncBound
import Derived.RangeFuncCalls
import Derived.RangeFuncLeaves
import Derived.RangeFuncBox
import Derived.Shelf.Abstract
import Derived.Shelf.RegionOpen
import Derived.OwnWalkIn
import Derived.TacticsInMore
import Derived.LoopNIn
import Derived.LoopIn
import Derived.Maps.AppendAt
import Derived.Deep.AppendLies
import Derived.OwnWalk
import Derived.Shelf.Spec.TrailingZeros
import Derived.Test.YtckbhhaigpajpaaDoorRaaa
import Derived.Test.YtckbhhaigpajpaaDoorRaab
import Derived.Test.YtckbhhaigpajpaaDoorDa
import Derived.Test.YtckbhhaigpajpaaDoorRaac
import Derived.Test.YtckbhhaigpajpaaDoorRaag
import Derived.Test.YtckbhhaigpajpaaDoorRaad
import Derived.Test.YtckbhhaigpajpaaDoorRaal
import Derived.Test.YtckbhhaigpajpaaDoorRaai
namespace Go.Proofs.YtckbhhaigpajpaaDoor
open Go.RowKit

/-- A draw is under way: the reader's block alone has turned since w. -/
structure DS (w : World) (R : Nat) (b : Option Addr) (n cap P : Nat) (W : World) : Prop where
  rd : ∃ p, p ≤ P ∧ Rd W R b n cap p
  gr : w.grownBy W (some R)

theorem grow_drew {w W : World} {row : Option Nat} (h : w.grownBy W row) : w.grownBy W.drew row := ⟨h.os, h.tape, h.output, h.size, h.block⟩
theorem DS.drew {w : World} {R : Nat} {b : Option Addr} {n cap P : Nat} {W : World} (h : DS w R b n cap P W) : DS w R b n cap P W.drew := ⟨h.rd, grow_drew h.gr⟩
theorem DS.mono {w : World} {R : Nat} {b : Option Addr} {n cap P Q : Nat} {W : World} (h : DS w R b n cap P W) (hP : P ≤ Q) : DS w R b n cap Q W := by
  obtain ⟨p, hp, hr⟩ := h.rd
  exact ⟨⟨p, by omega, hr⟩, h.gr⟩

theorem DS.step {w : World} {R : Nat} {b : Option Addr} {n cap P : Nat} {W W' : World} (h : DS w R b n cap P W) {row : Option Nat} (hg : W.grownBy W' row) (hr : ∀ g, row = some g → w.heap.size ≤ g) (hR : R < w.heap.size) : DS w R b n cap P W' := by
  obtain ⟨p, hp, hrd⟩ := h.rd
  refine ⟨⟨p, hp, HasBlk.kept hrd hg (fun e => by have := hr R e; omega)⟩, ⟨hg.os.trans h.gr.os, hg.tape.trans h.gr.tape, hg.output.trans h.gr.output, Nat.le_trans h.gr.size hg.size, fun i hi hne => ?_⟩⟩
  exact (hg.block i (Nat.lt_of_lt_of_le hi h.gr.size) (fun e => by have := hr i e.symm; omega)).trans (h.gr.block i hi hne)

theorem DS.alloc {w : World} {R : Nat} {b : Option Addr} {n cap P : Nat} {W : World} (h : DS w R b n cap P W) (o : Obj) (hR : R < w.heap.size) : DS w R b n cap P (W.alloc o) :=
  h.step (World.grownBy_alloc W o none) (fun g e => by cases e) hR

theorem Bys.kept {w W : World} {R : Nat} {b : Option Addr} {n : Nat} (h : Bys w R b n) (hR : R < w.heap.size) (hg : w.grownBy W (some R)) : Bys W R b n := by
  rcases h with h | ⟨g, off, e, hgR, hc⟩
  · exact .inl h
  · refine .inr ⟨g, off, e, hgR, fun j hj => ?_⟩
    obtain ⟨z, hz, hcz⟩ := hc j hj
    exact ⟨z, hz, (World.cell?_of_block (a := ⟨g, off + j, none⟩) (hg.block g (by omega) (fun e => by injection e; omega))).trans hcz⟩

theorem own_grown {W W' : World} {B : Nat} {v : Value} {k : Nat} {xs : List Value} {R : Nat} (h : W.ownsRow B 3 1 v k xs) (hg : W.grownBy W' (some R)) (hR : R < B) : W'.ownsRow B 3 1 v k xs := by
  refine World.ownsRow.kept h hg ?_
  cases ho : v.ownBlock with
  | none => exact .inl rfl
  | some g =>
    right
    intro e
    have := (World.ownsRow.lt h g ho).1
    injection e with e
    omega

def PickedD (w : World) (R : Nat) (b : Option Addr) (n cap P : Nat) (x : Int) (W : World) (e : Ending) (W' : World) : Prop :=
  ∃ r : Nat, e = .returned (.int .i64 (r : Int)) ∧ (1 ≤ x → (r : Int) < x) ∧ DS w R b n cap (P + 1) W' ∧ W.grownBy W' (some R)

theorem pickX {w : World} {R : Nat} {b : Option Addr} {n cap P : Nat} {W : World} (hD : DS w R b n cap P W) (hB : Bys w R b n) (hR : R < w.heap.size) (hn : n ≤ 1048576) (hP : P ≤ 1000000) (x : Int) :
    Calls Tryd.prog 58 #[.pointer (some ⟨R, 0, none⟩), .int .i64 x] W (PickedD w R b n cap P x W) := by
  obtain ⟨p, hp, hr⟩ := hD.rd
  refine (pick_any R b n cap p x W hr (hB.kept hR hD.gr) hn (by omega)).mono fun e W' h => ?_
  obtain ⟨r, rfl, h0, h1, h2, h3⟩ := h
  refine ⟨r.toNat, by rw [Int.toNat_of_nonneg h0], fun h => by rw [Int.toNat_of_nonneg h0]; exact h1 h, ⟨⟨p + 1, by omega, h2⟩, only_trans hD.gr h3⟩, h3⟩

theorem pickD {w : World} {R : Nat} {b : Option Addr} {n cap P : Nat} {W : World} (hD : DS w R b n cap P W) (hB : Bys w R b n) (hR : R < w.heap.size) (hn : n ≤ 1048576) (hP : P ≤ 1000000) (x : Int) (_hx : x ≤ 1000000) (_hx0 : -1000000 ≤ x) :
    Calls Tryd.prog 58 #[.pointer (some ⟨R, 0, none⟩), .int .i64 x] W (PickedD w R b n cap P x W) := pickX hD hB hR hn hP x

theorem own_more {W : World} {B : Nat} {a : Option Addr} {k c : Nat} {zs : List Int} {x : Int} (h : W.ownsRow B 3 1 (.slice a k c) k (zs.map (Value.int .i64) ++ [.int .i64 x])) : OwnN W B a k c (zs ++ [x]) := by
  unfold OwnN; rw [List.map_append]; exact h

def DrawnL (w : World) (R : Nat) (b : Option Addr) (n cap P most : Nat) (e : Ending) (W : World) : Prop :=
  ∃ (a : Option Addr) (zs : List Int) (c : Nat), e = .returned (.slice a zs.length c) ∧ zs.length ≤ most ∧ OwnI W w.heap.size (.slice a zs.length c) zs ∧ DS w R b n cap (P + 100) W

set_option maxRecDepth 100000 in
set_option maxHeartbeats 4000000 in
theorem clubsD_any (R : Nat) (b : Option Addr) (n cap P k most : Nat) (w : World) (hD : DS w R b n cap P w) (hB : Bys w R b n) (hR : R < w.heap.size) (hn : n ≤ 1048576) (hP : P ≤ 100000) (hk1 : 1 ≤ k) (hk : k ≤ 6) (hm : most ≤ 9) :
    Calls Tryd.prog 102 #[.pointer (some ⟨R, 0, none⟩), .int .i64 (k : Int), .int .i64 (most : Int)] w (DrawnL w R b n cap P most) := by
  obtain ⟨i0, hi0, hz0, hz1, hz2⟩ := info_parts Tryd.info3
  have HD0 := Lib.hid (hD.alloc (.cells #[] 3) hR)
  have HB := Lib.hid hB
  obtain ⟨hp1, hp2⟩ := p2_small k (by omega)
  clear hD hB
  go_enter Tryd.func102, Tryd.ntmps102
  go_wp2_with fail
  refine (pickD HD0.out HB.out hR hn (by omega) _ (by omega) (by omega)).mono ?_
  rintro e w1 ⟨kk, rfl, hkk, D1, g1⟩
  have hkk2 : (kk : Int) < (most : Int) + 1 := hkk (by omega)
  have HD1 := Lib.hid D1
  have HE1 : Hid (OwnN w1 w.heap.size (some ⟨w.heap.size, 0, none⟩) 0 0 []) := Lib.hid (own_grown (own_empty (alloc_new w _) (Nat.le_refl _)) g1 hR)
  clear D1 g1 hkk
  go_wp2_with fail
  refine (pickD HD1.out HB.out hR hn (by omega) _ (by omega) (by omega)).mono ?_
  rintro e w2 ⟨kd, rfl, hkd, D2, g2⟩
  have hkd2 : kd < 4 := by have := hkd (by omega); omega
  have HD2 := Lib.hid D2
  have HE2 : Hid (OwnN w2 w.heap.size (some ⟨w.heap.size, 0, none⟩) 0 0 []) := Lib.hid (own_grown HE1.out g2 hR)
  clear D2 g2 hkd HD1 HE1 HD0
  go_wp2
  go_loopw [7, 10] (fun v i wr => ∃ (j : Nat) (a' : Option Addr) (c' : Nat) (zs : List Int), j ≤ kk ∧ i = .int .i64 (j : Int) ∧ v = .slice a' j c' ∧ OwnN wr w.heap.size a' j c' zs ∧ DS w R b n cap (P + 2 + 3 * j) wr) (fun _ i _ => kk - (intOf i).toNat)
  case atStart => exact ⟨0, _, _, [], Nat.zero_le _, rfl, rfl, HE2.out, HD2.out⟩
  case round =>
    obtain ⟨j, a', c', zs, hj, rfl, rfl, ho, hd⟩ := hrel
    obtain ⟨wo, hwo⟩ : ∃ wo, wo = wr := ⟨wr, rfl⟩
    subst hwo
    have HO := Lib.hid ho
    have HD := Lib.hid hd
    clear ho hd
    by_cases hlt : j < kk
    · go_wp2_with fail
      refine (pickD HD.out HB.out hR hn (by omega) _ (by omega) (by omega)).mono ?_
      rintro e w3 ⟨r3, rfl, -, D3, g3⟩
      have HD3 := Lib.hid D3
      have HO3 := Lib.hid (own_grown HO.out g3 hR)
      clear D3 g3 HD HO
      have hkds : (kd : Int) < 1 ∨ (0 < (kd : Int) ∧ (kd : Int) < 2) ∨ (1 < (kd : Int) ∧ (kd : Int) < 3) ∨ 2 < (kd : Int) := by omega
      rcases hkds with hka | ⟨hka, hkb⟩ | ⟨hka, hkb⟩ | hka
      · go_wp2
        go_region_with (first
          | (go_at_call 58; refine (pickD HD3.out.drew HB.out hR hn (by omega) _ (by omega) (by omega)).mono ?_; rintro e w4 ⟨r4, rfl, h4, D4, g4⟩)
          | (go_at_call 58; refine (pickD D4 HB.out hR hn (by omega) _ (by omega) (by omega)).mono ?_; rintro e w5 ⟨r5, rfl, h5, D5, g5⟩))
        have HD5 := Lib.hid D5
        have HO5 := Lib.hid (own_grown (own_grown (W := w3.drew) HO3.out g4 hR) g5 hR)
        clear D4 D5 g4 g5 HD3 HO3 h4 h5
        have hsz5 := HD5.out.gr.size
        go_wp2_with (at_builtin; refine wpList_append_own _ rfl _ _ 23 rfl w.heap.size 3 i0 (.int .i64 0) 1 8 Tryd.underlying23 hi0 hz0 hz1 hz2 rfl (by decide) _ _ _ rfl (HO5.out.alloc _) ⟨w5.heap.size, 0, none⟩ 1 1 [.int .i64 _] rfl rfl (cell_one_new _ _ _) (by simp [Value.oneCell']) (by simp only [maxLen]; omega) (by omega) (by simp; omega) ?_; intro v' w9 hown hgrow _; obtain ⟨g', cap', rfl, _, _⟩ := World.ownsRow.form hown (by omega))
        go_roundw
        case rel => exact ⟨j + 1, _, _, _, by omega, by go_num, rfl, own_more hown, ((HD5.out.alloc _ hR).step hgrow (fun g e => (World.ownsRow.lt HO5.out g e).1) hR).mono (by omega)⟩
        case measure => simp [intOf]; omega
      · go_wp2_with fail
        refine (pickD HD3.out HB.out hR hn (by omega) _ (by omega) (by omega)).mono ?_
        rintro e w4 ⟨r4, rfl, h4, D4, g4⟩
        have h4k := h4 (by omega)
        have HD4 := Lib.hid D4
        have HO4 := Lib.hid (own_grown HO3.out g4 hR)
        clear D4 g4 HD3 HO3 h4
        go_wp2_with fail
        refine (pickD HD4.out HB.out hR hn (by omega) _ (by omega) (by omega)).mono ?_
        rintro e w5 ⟨r5, rfl, h5, D5, g5⟩
        have h5k := h5 (by omega)
        have HD5 := Lib.hid D5
        have HO5 := Lib.hid (own_grown HO4.out g5 hR)
        clear D5 g5 HD4 HO4 h5
        have hsz5 := HD5.out.gr.size
        go_wp2_with (at_builtin; refine wpList_append_own _ rfl _ _ 23 rfl w.heap.size 3 i0 (.int .i64 0) 1 8 Tryd.underlying23 hi0 hz0 hz1 hz2 rfl (by decide) _ _ _ rfl (HO5.out.alloc _) ⟨w5.heap.size, 0, none⟩ 1 1 [.int .i64 _] rfl rfl (cell_one_new _ _ _) (by simp [Value.oneCell']) (by simp only [maxLen]; omega) (by omega) (by simp; omega) ?_; intro v' w9 hown hgrow _; obtain ⟨g', cap', rfl, _, _⟩ := World.ownsRow.form hown (by omega))
        go_roundw
        case rel => exact ⟨j + 1, _, _, _, by omega, by go_num, rfl, own_more hown, ((HD5.out.alloc _ hR).step hgrow (fun g e => (World.ownsRow.lt HO5.out g e).1) hR).mono (by omega)⟩
        case measure => simp [intOf]; omega
      · go_wp2
        go_region_with (first
          | (go_at_call 58; refine (pickD HD3.out.drew HB.out hR hn (by omega) _ (by omega) (by omega)).mono ?_; rintro e w4 ⟨r4, rfl, h4, D4, g4⟩)
          | (go_at_call 58; refine (pickD D4 HB.out hR hn (by omega) _ (by omega) (by omega)).mono ?_; rintro e w5 ⟨r5, rfl, h5, D5, g5⟩))
        have HD5 := Lib.hid D5
        have HO5 := Lib.hid (own_grown (own_grown (W := w3.drew) HO3.out g4 hR) g5 hR)
        clear D4 D5 g4 g5 HD3 HO3 h4 h5
        have hsz5 := HD5.out.gr.size
        go_wp2_with (at_builtin; refine wpList_append_own _ rfl _ _ 23 rfl w.heap.size 3 i0 (.int .i64 0) 1 8 Tryd.underlying23 hi0 hz0 hz1 hz2 rfl (by decide) _ _ _ rfl (HO5.out.alloc _) ⟨w5.heap.size, 0, none⟩ 1 1 [.int .i64 _] rfl rfl (cell_one_new _ _ _) (by simp [Value.oneCell']) (by simp only [maxLen]; omega) (by omega) (by simp; omega) ?_; intro v' w9 hown hgrow _; obtain ⟨g', cap', rfl, _, _⟩ := World.ownsRow.form hown (by omega))
        go_roundw
        case rel => exact ⟨j + 1, _, _, _, by omega, by go_num, rfl, own_more hown, ((HD5.out.alloc _ hR).step hgrow (fun g e => (World.ownsRow.lt HO5.out g e).1) hR).mono (by omega)⟩
        case measure => simp [intOf]; omega
      · have hsz3 := HD3.out.gr.size
        go_wp2_with (at_builtin; refine wpList_append_own _ rfl _ _ 23 rfl w.heap.size 3 i0 (.int .i64 0) 1 8 Tryd.underlying23 hi0 hz0 hz1 hz2 rfl (by decide) _ _ _ rfl (HO3.out.alloc _) ⟨w3.heap.size, 0, none⟩ 1 1 [.int .i64 (r3 : Int)] rfl rfl (cell_one_new _ _ _) (by simp [Value.oneCell']) (by simp only [maxLen]; omega) (by omega) (by simp; omega) ?_; intro v' w9 hown hgrow _; obtain ⟨g', cap', rfl, _, _⟩ := World.ownsRow.form hown (by omega))
        go_roundw
        case rel => exact ⟨j + 1, _, _, _, by omega, by go_num, rfl, own_more hown, ((HD3.out.alloc _ hR).step hgrow (fun g e => (World.ownsRow.lt HO3.out g e).1) hR).mono (by omega)⟩
        case measure => simp [intOf]; omega
    · obtain rfl : j = kk := by omega
      have hlen : zs.length = j := by have := HO.out.1; simpa using this
      have HR : Hid (DrawnL w R b n cap P most (.returned (.slice a' j c')) wo) := Lib.hid ⟨a', zs, c', by rw [hlen], by omega, by unfold OwnI; rw [hlen]; exact HO.out, HD.out.mono (by omega)⟩
      go_wp2
      go_ret
      exact HR.out

end Go.Proofs.YtckbhhaigpajpaaDoor
