/- It is proved what the FamilyIn of the model returns; conditions: the bounds in each statement. -/
import Derived.Test.YtijpgbkjgjpmmaaDoorRows
import Derived.WalkKit
import Derived.WalkSpells
import Derived.ProofKit
import Derived.OpenShut
import Derived.ShutString
import Derived.ChangeOld
import Derived.Below
import Derived.Deep.RegionHeld3
import Derived.Deep.QuietTactic
import Derived.BigQuiet
import Derived.Lib.Hide
import Derived.Lib.SmallJoins
import Derived.Outline
import Derived.Laws.MakeOwn
import Derived.Laws.OwnMore
import Derived.IntWalk
import Derived.Test.YtijpgbkjgjpmmaaDoorMraa
import Derived.RowKit
import Derived.Laws.CopyRow
import Derived.Lib.SlBuf
import Derived.RangeFuncNested
import Derived.RangeFuncBound
import Derived.RangeFuncCalls
import Derived.RangeFuncLeaves
import Derived.RangeFuncBox
import Derived.RangeFuncWrites
import Derived.StillTailTactics
import Derived.Maps.OwnIn
import Derived.Maps.Ext
import Derived.DeepKeys4
import Derived.MapKept
import Derived.Maps.AppendAt
import Derived.Lib.AppendZeros
import Derived.Deep.AppendLies
import Derived.OwnWalk
import Derived.Lib.SlicesCompact
import Derived.Lib.OwnBridge
import Derived.OrdersIn
import Derived.TacticsIn
import Derived.Shelf.Sort.Plain
import Derived.Shelf.Slices.In.SortNone
import Derived.Shelf.Slices.CompactI
import Derived.Ground.Names2Prog
import Derived.Shelf.Abstract
import Derived.Shelf.RegionOpen
import Derived.OwnWalkIn
import Derived.TacticsInMore
import Derived.LoopNIn
import Derived.LoopIn
import Derived.StillTail
import Derived.StillTactics
import Derived.Shelf.Spec.TrailingZeros
import Derived.Test.YtijpgbkjgjpmmaaDoorMrae
import Derived.Test.YtijpgbkjgjpmmaaDoorMrak
import Derived.Test.YtijpgbkjgjpmmaaDoorMram
import Derived.Test.YtijpgbkjgjpmmaaDoorMraf
import Derived.Deep.RegionLaw
import Derived.Test.YtijpgbkjgjpmmaaDoorMrab
namespace Go.Proofs.YtijpgbkjgjpmmaaDoor
open Go.RowKit

theorem l1All_b (m : Int) (a : Option Addr) (n cap : Nat) (w : World) (h1 : 1 ≤ m) (h2 : m ≤ 6) :
    Calls Tryd.prog 45 #[.agg #[.int .i64 m, .slice a n cap]] w fun e w' => e = .returned (.int .i64 (fullI m)) ∧ Below w.heap.size w w' :=
  (l1All_any m a n cap w h1 h2).mono fun e w' ⟨he, hw⟩ => ⟨he, by rw [← hw]; exact below1 _ _⟩

set_option maxRecDepth 100000 in
set_option maxHeartbeats 800000 in
theorem specFamilyIn_any (m : Int) (a : Option Addr) (c : Nat) (zs : List Int) (w : World) (ha : Ints w w.heap.size a zs) (hx : zs.length ≤ 1048576) :
    Calls Tryd.prog 25 #[.agg #[.int .i64 m, .slice a zs.length c]] w fun e w' => e = .returned (.bool (famIn m zs)) ∧ Below w.heap.size w w' := by
  obtain ⟨n, hn⟩ : ∃ n, n = zs.length := ⟨_, rfl⟩
  have HN : Hid (n = zs.length) := Lib.hid hn
  rw [← hn]
  rw [← hn] at hx
  have HB := Lib.hid (below1 w (.cells #[.int .i64 m, .slice a n c] 25))
  cases h1 : inB m 1 6
  · have HF : Hid (famIn m zs = false) := Lib.hid (famIn_m h1)
    have H1 := Lib.hid h1
    clear hn h1
    go_enter Tryd.func25, Tryd.ntmps25
    go_wp2_with (go_at_call 44; refine (l6In_any _ _ _ _).mono ?_; rintro e w' ⟨rfl, rfl⟩; rw [H1.out])
    go_ret
    exact ⟨by rw [HF.out]; rfl, HB.out⟩
  · have H1 := Lib.hid h1
    obtain ⟨hm1, hm6⟩ := inB_out h1
    by_cases h3 : n ≤ 8
    · clear hn h1
      go_enter Tryd.func25, Tryd.ntmps25
      go_wp2_with (go_at_call 44; refine (l6In_any _ _ _ _).mono ?_; rintro e w' ⟨rfl, rfl⟩; rw [H1.out])
      go_loopw [3] (fun i wr => ∃ k : Nat, k ≤ n ∧ i = .int .i64 k ∧ (∀ j, j < k → inB (zs[j]?.getD 0) 0 (fullI m) = true) ∧ Below (w.heap.size + 1) (w.alloc (.cells #[.int .i64 m, .slice a n c] 25)) wr) (fun i _ => n - (intOf i).toNat)
      case atStart => exact ⟨0, Nat.zero_le _, rfl, fun j hj => by omega, Below.refl _ _⟩
      case round =>
        obtain ⟨k, hk, rfl, he, hb⟩ := hrel
        have x0 : wr.cell? ⟨w.heap.size, 0, none⟩ = some (.int .i64 m) := (hb.cell (p := ⟨w.heap.size, 0, none⟩) (by simp)).trans (blk_cell (alloc_new w _) 0)
        have x1 : wr.cell? ⟨w.heap.size, 1, none⟩ = some (.slice a n c) := (hb.cell (p := ⟨w.heap.size, 1, none⟩) (by simp)).trans (blk_cell (alloc_new w _) 1)
        have HBW := Lib.hid hb
        by_cases hlt : k < n
        · obtain ⟨b1, o1, rfl, hb1, hc1⟩ := ha.at_ (k := k) (by rw [← HN.out]; exact hlt)
          have x2 := (hb.cell (p := ⟨b1, o1 + k, none⟩) (by simp; omega)).trans ((HB.out.cell (p := ⟨b1, o1 + k, none⟩) hb1).trans hc1)
          have HE := Lib.hid he
          have hk0 : (0 : Int) ≤ (k : Int) := by omega
          have hk1 : (k : Int) < (n : Int) := by omega
          have hs2 : w.heap.size + 1 ≤ wr.heap.size := by have := hb.size; simp at this; omega
          have hs0 : w.heap.size < wr.heap.size := by omega
          have hs1 : b1 < wr.heap.size := by omega
          clear he hc1 hb
          cases hs : inB (zs[k]?.getD 0) 0 (fullI m)
          · have HS := Lib.hid hs
            have HF : Hid (famIn m zs = false) := Lib.hid (famIn_z (by rw [← HN.out]; exact hlt) hs)
            clear hs
            go_wp2_with fail
            go_region_held3 (fun w' => w'.cell? ⟨w.heap.size, 0, none⟩ = some (.int .i64 m) ∧ w'.cell? ⟨w.heap.size, 1, none⟩ = some (.slice (some ⟨b1, o1, none⟩) n c) ∧ w'.cell? ⟨b1, o1 + k, none⟩ = some (.int .i64 (zs[k]?.getD 0)) ∧ Below (w.heap.size + 1) (w.alloc (.cells #[.int .i64 m, .slice (some ⟨b1, o1, none⟩) n c] 25)) w')
              (first
                | exact ⟨x0, x1, x2, HBW.out.drew⟩
                | exact ⟨(hb1'.cell (p := ⟨w.heap.size, 0, none⟩) hs0).trans x0, (hb1'.cell (p := ⟨w.heap.size, 1, none⟩) hs0).trans x1, (hb1'.cell (p := ⟨b1, o1 + k, none⟩) hs1).trans x2, HBW.out.drew.trans (hb1'.mono hs2)⟩)
              (first
                | (go_at_call 45; refine (l1All_b _ _ _ _ _ hm1 hm6).mono ?_; rintro e w1 ⟨rfl, hb1'⟩)
                | (go_at_call 44; refine (l6In_any _ _ _ _).mono ?_; rintro e w' ⟨rfl, rfl⟩; rw [HS.out]))
            rename_i hHeld
            have HW1 := Lib.hid hHeld.2.2.2
            clear hHeld hb1'
            go_wp2
            go_ret
            exact ⟨by rw [HF.out]; rfl, HB.out.trans (HW1.out.mono (by omega))⟩
          · have HS := Lib.hid hs
            clear hs
            go_wp2_with fail
            go_region_held3 (fun w' => w'.cell? ⟨w.heap.size, 0, none⟩ = some (.int .i64 m) ∧ w'.cell? ⟨w.heap.size, 1, none⟩ = some (.slice (some ⟨b1, o1, none⟩) n c) ∧ w'.cell? ⟨b1, o1 + k, none⟩ = some (.int .i64 (zs[k]?.getD 0)) ∧ Below (w.heap.size + 1) (w.alloc (.cells #[.int .i64 m, .slice (some ⟨b1, o1, none⟩) n c] 25)) w')
              (first
                | exact ⟨x0, x1, x2, HBW.out.drew⟩
                | exact ⟨(hb1'.cell (p := ⟨w.heap.size, 0, none⟩) hs0).trans x0, (hb1'.cell (p := ⟨w.heap.size, 1, none⟩) hs0).trans x1, (hb1'.cell (p := ⟨b1, o1 + k, none⟩) hs1).trans x2, HBW.out.drew.trans (hb1'.mono hs2)⟩)
              (first
                | (go_at_call 45; refine (l1All_b _ _ _ _ _ hm1 hm6).mono ?_; rintro e w1 ⟨rfl, hb1'⟩)
                | (go_at_call 44; refine (l6In_any _ _ _ _).mono ?_; rintro e w' ⟨rfl, rfl⟩; rw [HS.out]))
            rename_i hHeld
            have HW1 := Lib.hid hHeld.2.2.2
            clear hHeld hb1'
            go_wp2
            go_roundw
            case rel => exact ⟨k + 1, by omega, by go_num, fun j hj => by
              rcases Nat.lt_succ_iff_lt_or_eq.1 hj with h | rfl
              · exact HE.out j h
              · exact HS.out, HW1.out⟩
            case measure => simp [intOf]; omega
        · obtain rfl : k = n := by omega
          have HF : Hid (famIn m zs = true) := Lib.hid (famIn_y (inB_true hm1 hm6) (by rw [← HN.out]; exact h3) (by rw [← HN.out]; exact he))
          have HBB : Hid (Below w.heap.size w wr) := Lib.hid (HB.out.trans (hb.mono (by omega)))
          clear he hb
          go_wp2
          go_ret
          exact ⟨by rw [HF.out]; rfl, HBB.out⟩
    · have HF : Hid (famIn m zs = false) := Lib.hid (famIn_l (by omega))
      clear hn h1
      go_enter Tryd.func25, Tryd.ntmps25
      go_wp2_with (go_at_call 44; refine (l6In_any _ _ _ _).mono ?_; rintro e w' ⟨rfl, rfl⟩; rw [H1.out])
      go_ret
      exact ⟨by rw [HF.out]; rfl, HB.out⟩

end Go.Proofs.YtijpgbkjgjpmmaaDoor

/- It is proved what the reference model's AlikeSame returns; conditions: those of each statement. -/
namespace Go.Proofs.YtijpgbkjgjpmmaaDoor
open Go.RowKit Go.Shelf

set_option maxRecDepth 100000 in
set_option maxHeartbeats 2000000 in
theorem specSame_any (m : Int) (a : Option Addr) (c : Nat) (zs : List Int) (w : World) (ha : Ints w w.heap.size a zs) (hx : zs.length ≤ 1048576) :
    Calls Tryd.prog 15 #[.agg #[.int .i64 m, .slice a zs.length c]] w (RetIB w (sameZ m zs) (famIn m zs)) := by
  have hb1 := below1 w (.cells #[.int .i64 m, .slice a zs.length c] 25)
  have HA := Lib.hid ((ha.below hb1).mono (B' := (w.alloc (.cells #[.int .i64 m, .slice a zs.length c] 25)).heap.size) (by simp))
  cases hf : famIn m zs
  · have HF := Lib.hid hf
    have HR : Hid (sameZ m zs = 0) := Lib.hid (by simp [sameZ, hf])
    clear hf ha hb1
    go_enter Tryd.func15, Tryd.ntmps15
    go_wp2_with (go_at_call 25; refine (specFamilyIn_any _ _ _ zs _ HA.out hx).mono ?_; rintro e w1 ⟨rfl, hb⟩; rw [HF.out]; have HB := Lib.hid hb; clear hb)
    go_ret2
    exact ⟨by rw [HR.out]; rfl, (below1 _ _).trans (HB.out.mono (by simp))⟩
  · obtain ⟨hm1, hm6, -, -⟩ := famIn_out hf
    obtain ⟨k, rfl⟩ : ∃ k : Nat, m = (k : Int) := ⟨m.toNat, by omega⟩
    have hk6 : k ≤ 6 := by omega
    have HF := Lib.hid hf
    have HR : Hid (sameZ (k : Int) zs = (((ownL k zs).map nI).length : Int)) := Lib.hid (by simp [sameZ, hf])
    have q0 := alloc_new w (.cells #[.int .i64 (k : Int), .slice a zs.length c] 25)
    have hs1 : (w.alloc (.cells #[.int .i64 (k : Int), .slice a zs.length c] 25)).heap.size = w.heap.size + 1 := by simp
    have HB1 := Lib.hid hb1
    have HQ := Lib.hid q0
    have HS1 := Lib.hid hs1
    clear hf ha hb1 q0 hs1
    go_enter Tryd.func15, Tryd.ntmps15
    go_wp2_with fail
    refine (specFamilyIn_any _ _ _ zs _ HA.out hx).mono ?_
    rintro e w1 ⟨rfl, hb⟩
    rw [HF.out]
    have q1 : HasBlk w1 w.heap.size #[.int .i64 (k : Int), .slice a zs.length c] 25 := (hb.block _ (by have := HS1.out; omega)).trans HQ.out
    have x0 := (blk_cell q1 0).trans (cell2_0 _ _)
    have x1 := (blk_cell q1 1).trans (cell2_1 _ _)
    have hO := specOwn_any k hk6 a c zs w1 ((HA.out.below hb).mono hb.size) HF.out
    have HB := Lib.hid hb
    clear hb q1
    go_wp2_with fail
    refine hO.mono ?_
    rintro e w2 ⟨v, rfl, hR, hb2⟩
    obtain ⟨va, vc, rfl⟩ := hR.form
    have hl : ((ownL k zs).map nI).length ≤ 46656 := by rw [← ownF_all]; exact ownF_len k zs hk6 _
    obtain ⟨L, hL⟩ : ∃ L, L = ((ownL k zs).map nI).length := ⟨_, rfl⟩
    rw [← hL] at HR hl ⊢
    clear hR hL x0 x1 hO
    go_wp2
    go_ret2
    exact ⟨by rw [HR.out]; rfl, HB1.out.trans ((HB.out.mono (by rw [HS1.out]; omega)).trans (hb2.mono (by have := HB.out.size; have := HS1.out; omega)))⟩

end Go.Proofs.YtijpgbkjgjpmmaaDoor

/- It is proved how boxed families and lists are kept while the laws go on; conditions: those of each statement. -/
namespace Go.Proofs.YtijpgbkjgjpmmaaDoor
open Go.RowKit

/-- A family in a box. -/
structure FB (X : Nat) (m : Int) (a : Option Addr) (zs : List Int) (c : Nat) (W : World) : Prop where
  blk : HasBlk W X #[.int .i64 m, .slice a zs.length c] 25
  ints : Ints W W.heap.size a zs

theorem FB.step {X : Nat} {m : Int} {a : Option Addr} {zs : List Int} {c : Nat} {W W' : World} (h : FB X m a zs c W) (hb : Below W.heap.size W W') : FB X m a zs c W' :=
  ⟨(hb.block X (lt_of_some h.blk)).trans h.blk, (h.ints.below hb).mono hb.size⟩

theorem FB.start {w : World} {m : Int} {a : Option Addr} {zs : List Int} {c : Nat} (h : Ints w w.heap.size a zs) : FB w.heap.size m a zs c (w.alloc (.cells #[.int .i64 m, .slice a zs.length c] 25)) :=
  ⟨alloc_new w _, (h.below (below1 w _)).mono (by simp)⟩

theorem FB.x0 {X : Nat} {m : Int} {a : Option Addr} {zs : List Int} {c : Nat} {W : World} (h : FB X m a zs c W) : W.cell? ⟨X, 0, none⟩ = some (.int .i64 m) := (blk_cell h.blk 0).trans (cell2_0 _ _)
theorem FB.x1 {X : Nat} {m : Int} {a : Option Addr} {zs : List Int} {c : Nat} {W : World} (h : FB X m a zs c W) : W.cell? ⟨X, 1, none⟩ = some (.slice a zs.length c) := (blk_cell h.blk 1).trans (cell2_1 _ _)
theorem Ints.step {W W' : World} {a : Option Addr} {zs : List Int} (h : Ints W W.heap.size a zs) (hb : Below W.heap.size W W') : Ints W' W'.heap.size a zs := (h.below hb).mono hb.size
theorem sameB_refl (zs : List Int) : sameB zs zs = true := by simp [sameB]
end Go.Proofs.YtijpgbkjgjpmmaaDoor

/- It is proved that the drawn family is one of the call's own; conditions: those of each statement. -/
namespace Go.Proofs.YtijpgbkjgjpmmaaDoor
open Go.RowKit

theorem DS.rebase {w : World} {R : Nat} {b : Option Addr} {n cap P : Nat} {W : World} (h : DS w R b n cap P W) : DS W R b n cap P W := ⟨h.rd, World.grownBy.refl _ _⟩
theorem DS.over {w w1 W : World} {R : Nat} {b : Option Addr} {n cap P : Nat} (h : DS w1 R b n cap P W) (hg : w.grownBy w1 (some R)) : DS w R b n cap P W := ⟨h.rd, only_trans hg h.gr⟩
theorem blk_grown {R : Nat} {W W' : World} {g : Nat} {cs : Array Value} {t : TypeId} (h : HasBlk W g cs t) (hg : W.grownBy W' (some R)) (hR : R < g) : HasBlk W' g cs t := h.kept hg (fun e => by injection e; omega)
theorem own_drew {W : World} {B size n : Nat} {e : TypeId} {v : Value} {xs : List Value} (h : W.ownsRow B e size v n xs) : W.drew.ownsRow B e size v n xs := h
def DrawnF (w : World) (R : Nat) (b : Option Addr) (n cap P most : Nat) (e : Ending) (W : World) : Prop :=
  ∃ (m : Int) (a : Option Addr) (zs : List Int) (c : Nat), e = .returned (.agg #[.int .i64 m, .slice a zs.length c]) ∧ (zs.length ≤ most + 1 ∧ 1 ≤ m ∧ m ≤ 6) ∧ OwnI W w.heap.size (.slice a zs.length c) zs ∧ DS w R b n cap (P + 200) W

set_option maxRecDepth 100000 in
set_option maxHeartbeats 4000000 in
theorem someD_any (mm most : Nat) (Mm M : Int) (hMm : Mm = (mm : Int)) (hM : M = (most : Int)) (hmm1 : 1 ≤ mm) (hmm : mm ≤ 6) (hmo : most ≤ 9) (R : Nat) (b : Option Addr) (n cap P : Nat) (w : World) (hD : DS w R b n cap P w) (hB : Bys w R b n) (hR : R < w.heap.size) (hn : n ≤ 1048576) (hP : P ≤ 1000) :
    Calls Tryd.prog 18 #[.pointer (some ⟨R, 0, none⟩), .int .i64 Mm, .int .i64 M] w (DrawnF w R b n cap P most) := by
  subst hMm
  subst hM
  obtain ⟨i0, hi0, hz0, hz1, hz2⟩ := info_parts Tryd.info3
  have HD0 := Lib.hid (hD.alloc (.cells #[.int .i64 0, .slice none 0 0] 25) hR)
  have HB := Lib.hid hB
  have HX0 : Hid (HasBlk (w.alloc (.cells #[.int .i64 0, .slice none 0 0] 25)) w.heap.size #[.int .i64 0, .slice none 0 0] 25) := Lib.hid (alloc_new w _)
  clear hD hB
  go_enter Tryd.func18, Tryd.ntmps18
  go_wp2_with fail
  refine (pickD HD0.out HB.out hR hn (by omega) _ (by omega) (by omega)).mono ?_
  rintro e w1 ⟨r1, rfl, h1, D1, g1⟩
  have h16 : r1 < mm := by have := h1 (by omega); omega
  have HX1 : Hid (HasBlk w1 w.heap.size #[.int .i64 0, .slice none 0 0] 25) := Lib.hid (HX0.out.kept g1 (fun e => by injection e; omega))
  have hs1 : w.heap.size < w1.heap.size := lt_of_some HX1.out
  have HD1 := Lib.hid D1
  clear D1 g1 h1 HD0 HX0
  go_wp2_with fail
  rw [show (1 : Int) + (r1 : Int) = ((1 + r1 : Nat) : Int) from by omega]
  refine (clubsD_any R b n cap _ (1 + r1) most w1 HD1.out.rebase (HB.out.kept hR HD1.out.gr) (by omega) hn (by omega) (by omega) (by omega) (by omega)).mono ?_
  rintro e w2 ⟨a2, zs, c2, rfl, hl, ho, D2⟩
  have hs2 : w1.heap.size ≤ w2.heap.size := D2.gr.size
  have HX2 : Hid (HasBlk w2 w.heap.size #[.int .i64 0, .slice none 0 0] 25) := Lib.hid (HX1.out.kept D2.gr (fun e => by injection e; omega))
  have HD2 := Lib.hid (D2.over HD1.out.gr)
  have HO2 : Hid (OwnN w2 w1.heap.size a2 zs.length c2 zs) := Lib.hid ho
  have hgb : ∀ g, (Value.slice a2 zs.length c2).ownBlock = some g → w1.heap.size ≤ g ∧ g < w2.heap.size := fun g e => World.ownsRow.lt ho g e
  clear ho D2 HD1 HX1
  go_wp2_with fail
  refine (pickD (HD2.out.alloc _ hR) HB.out hR hn (by omega) _ (by omega) (by omega)).mono ?_
  rintro e w4 ⟨r4, rfl, -, D4, g4⟩
  have q0 := blk_grown (HasBlk.alloc HX2.out (.cells #[.int .i64 ((1 + r1 : Nat) : Int), .slice a2 zs.length c2] 25)) g4 hR
  have q1 := blk_grown (alloc_new w2 (.cells #[.int .i64 ((1 + r1 : Nat) : Int), .slice a2 zs.length c2] 25) : HasBlk _ _ _ _) g4 (by omega)
  have HO4 : Hid (OwnN w4 w1.heap.size a2 zs.length c2 zs) := Lib.hid (own_grown (World.ownsRow.alloc HO2.out _) g4 (by omega))
  have HD4 := Lib.hid D4
  have hs4 : w2.heap.size < w4.heap.size := lt_of_some q1
  have x0 := blk_cell q1 0
  have x1 := blk_cell q1 1
  have f1 := blk_frozen q1 1
  have d0 := blk_cell q0 0
  have d1 := blk_cell q0 1
  have e0 := blk_frozen q0 0
  have e1 := blk_frozen q0 1
  simp only [cell2_0, cell2_1] at x0 x1 d0 d1
  have HQ0 := Lib.hid q0
  have HQ1 := Lib.hid q1
  clear D4 g4 q0 q1 HD2 HO2 HX2
  by_cases h4 : r4 = 0
  · have hmx : Tryd.prog.follows .mixedOrders = true := by kernel_rfl
    have hrn : r1 < 6 := by omega
    go_wp2
    go_region_law (refine step_append_lies _ rfl (.tmp 23) (.tmp 26) 23 rfl w1.heap.size 3 i0 (.int .i64 0) 1 8 Tryd.underlying23 hi0 hz0 hz1 hz2 rfl (by decide) _ _ _ rfl (own_drew (World.ownsRow.alloc HO4.out _)) ⟨w4.heap.size, 0, none⟩ 1 1 [.int .i64 _] rfl rfl (World.news_of_block (cs := #[.int .i64 _]) (fr := (0, 0)) (t := 3) (alloc_new w4 _)) (by simp [Value.oneCell']) (by decide) (by simp only [maxLen]; omega) (by omega) (Nat.le_trans (Nat.le_trans hs2 (Nat.le_of_lt hs4)) (Nat.le_trans (Nat.le_succ _) (Nat.le_of_eq (World.size_alloc w4 _).symm))) (w4.heap.size + 1) (World.size_alloc w4 _) ?_; intro g9 c9 w9 hown hg9 hgg hgs; have q9 := HasBlk.kept (W := World.drew (World.alloc w4 _)) (HasBlk.alloc HQ1.out _) hg9 (fun e => by have := hgb _ e; omega); have p9 := HasBlk.kept (W := World.drew (World.alloc w4 _)) (HasBlk.alloc HQ0.out _) hg9 (fun e => by have := hgb _ e; omega); have y0 := (blk_cell q9 0).trans (cell2_0 _ _); have y1 := (blk_cell q9 1).trans (cell2_1 _ _); have yf := blk_frozen q9 1; have z0 := (blk_cell p9 0).trans (cell2_0 _ _); have z1 := (blk_cell p9 1).trans (cell2_1 _ _); have zf0 := blk_frozen p9 0; have zf1 := blk_frozen p9 1)
    all_goals
      have hg9' : (World.drew (World.alloc w4 (.cells #[.int .i64 (IntKind.i64.wrap (2 ^ (1 + (r1 : Int)).toNat))] 3))).grownBy w9 (Value.slice a2 zs.length c2).ownBlock := hg9
      have hgg' : (Value.slice a2 zs.length c2).ownBlock = some g9 ∨ g9 = w4.heap.size + 1 := hgg
      have hg9ne : g9 ≠ w2.heap.size := by
        rcases hgg' with h | h
        · have := hgb _ h; omega
        · omega
      have hg91 : w1.heap.size ≤ g9 := by
        rcases hgg' with h | h
        · have := hgb _ h; omega
        · omega
      have HD9 : Hid (DS w R b n cap (P + 150) w9) := Lib.hid ((((HD4.out.alloc _ hR).drew.step hg9' (fun g e => by have := hgb g e; omega) hR)).mono (by omega))
      have HO9 : Hid (OwnN w9 w1.heap.size (some ⟨g9, 0, none⟩) (zs.length + 1) c9 (zs ++ [IntKind.i64.wrap (2 ^ (1 + (r1 : Int)).toNat)])) := Lib.hid (own_more hown)
      have HQ9 := Lib.hid q9
      clear hg9 hg9' hgg hgg' hown x0 x1 d0 d1 e0 e1 f1 q9 p9
      go_wp2
      refine bodyPost_ret (v := .agg #[.int .i64 ((1 + r1 : Nat) : Int), .slice (some ⟨g9, 0, none⟩) (zs.length + 1) c9]) (by simp [results, Tryd.results18, go_sem, z0, z1]) rfl ?_
      refine ⟨_, some ⟨g9, 0, none⟩, zs ++ [IntKind.i64.wrap (2 ^ (1 + (r1 : Int)).toNat)], c9, by rw [List.length_append]; rfl, ⟨by simp; omega, by omega, by omega⟩, ?_, ?_⟩
      · have h1 := ownsRow_setCell_ne HO9.out (p := ⟨w2.heap.size, 1, none⟩) (by simp [Value.ownBlock]; omega) (.slice (some ⟨g9, 0, none⟩) (zs.length + 1) c9)
        have h2 := ownsRow_setCell_below h1 (a := ⟨w.heap.size, 0, none⟩) hs1 (.int .i64 (1 + (r1 : Int)))
        have h3 := ownsRow_setCell_below h2 (a := ⟨w.heap.size, 1, none⟩) hs1 (.slice (some ⟨g9, 0, none⟩) (zs.length + 1) c9)
        unfold OwnI
        rw [List.length_append]
        exact ownsRow_base h3 (by omega)
      · exact (((HD9.out.step (only_setCell (p := ⟨w2.heap.size, 1, none⟩) (World.grownBy.refl _ (some w2.heap.size)) rfl _) (fun g e => by injection e; omega) hR).step (only_setCell (p := ⟨w.heap.size, 0, none⟩) (World.grownBy.refl _ (some w.heap.size)) rfl _) (fun g e => by injection e; omega) hR).step (only_setCell (p := ⟨w.heap.size, 1, none⟩) (World.grownBy.refl _ (some w.heap.size)) rfl _) (fun g e => by injection e; omega) hR).mono (by omega)
  · go_wp2
    refine bodyPost_ret (v := .agg #[.int .i64 ((1 + r1 : Nat) : Int), .slice a2 zs.length c2]) (by simp [results, Tryd.results18, go_sem, d0, d1]) rfl ?_
    refine ⟨_, a2, zs, c2, rfl, ⟨by omega, by omega, by omega⟩, ?_, ?_⟩
    · exact own_mono (B' := w.heap.size) (ownsRow_setCell_below (ownsRow_setCell_below (show OwnI w4 w1.heap.size _ zs from HO4.out) (a := ⟨w.heap.size, 0, none⟩) hs1 _) (a := ⟨w.heap.size, 1, none⟩) hs1 _) (by omega)
    · exact (((HD4.out.step (only_setCell (p := ⟨w.heap.size, 0, none⟩) (World.grownBy.refl _ (some w.heap.size)) rfl _) (fun g e => by injection e; omega) hR).step (only_setCell (p := ⟨w.heap.size, 1, none⟩) (World.grownBy.refl _ (some w.heap.size)) rfl _) (fun g e => by injection e; omega) hR)).mono (by omega)

end Go.Proofs.YtijpgbkjgjpmmaaDoor

/- It is proved that a family drawn from bytes, of few members and clubs, is one of the call's own; conditions: those of each statement. -/
namespace Go.Proofs.YtijpgbkjgjpmmaaDoor
open Go.RowKit

set_option maxRecDepth 100000 in
set_option maxHeartbeats 2000000 in
theorem fewD_any (a : Option Addr) (n cap : Nat) (w : World) (hb : Bys w w.heap.size a n) (hn : n ≤ 1048576) (hc : n ≤ cap) (hc2 : cap ≤ 9223372036854775807) :
    Calls Tryd.prog 32 #[.slice a n cap] w (DrawnOne w) := by
  have ha : n ≠ 0 → ∃ g off, a = some ⟨g, off, none⟩ := fun h => by obtain ⟨g, off, e, _⟩ := hb.resolve_left h; exact ⟨g, off, e⟩
  have HB := Lib.hid hb
  clear hb
  go_enter Tryd.func32, Tryd.ntmps32
  go_wp2_with fail
  refine (openD_any a n cap _ hn hc hc2 ha).mono ?_
  rintro e w1 ⟨k, hk, rfl, rfl⟩
  have b1 := below2 w (.cells #[.int .i64 0, .slice none 0 0] 25) (.cells #[.slice a k cap, .int .i64 0] 71)
  have HD1 : Hid (DS ((w.alloc (.cells #[.int .i64 0, .slice none 0 0] 25)).alloc (.cells #[.slice a k cap, .int .i64 0] 71)) (w.heap.size + 1) a k cap 0 ((w.alloc (.cells #[.int .i64 0, .slice none 0 0] 25)).alloc (.cells #[.slice a k cap, .int .i64 0] 71))) := Lib.hid ⟨⟨0, Nat.le_refl _, alloc2_1 w _ _⟩, World.grownBy.refl _ _⟩
  have HB1 := Lib.hid ((HB.out.below b1).fewer (B' := w.heap.size + 1) (by omega) hk)
  have HX : Hid (HasBlk ((w.alloc (.cells #[.int .i64 0, .slice none 0 0] 25)).alloc (.cells #[.slice a k cap, .int .i64 0] 71)) w.heap.size #[.int .i64 0, .slice none 0 0] 25) := Lib.hid (alloc2_0 w _ _)
  have HBL := Lib.hid b1
  clear b1
  go_wp2_with fail
  refine (someD_any 5 5 5 5 rfl rfl (by decide) (by decide) (by decide) (w.heap.size + 1) a k cap 0 _ HD1.out HB1.out (by simp) (by omega) (by omega)).mono ?_
  rintro e w2 ⟨m, a2, zs, c2, rfl, ⟨hl, -, -⟩, ho, D2⟩
  have q0 := HX.out.kept D2.gr (by simp)
  have d0 := (blk_cell q0 0).trans (cell2_0 _ _)
  have d1 := (blk_cell q0 1).trans (cell2_1 _ _)
  have f0 := blk_frozen q0 0
  have f1 := blk_frozen q0 1
  have HO : Hid (OwnI w2 (w.heap.size + 2) (.slice a2 zs.length c2) zs) := Lib.hid (own_mono ho (by simp))
  have HBW := Lib.hid (HBL.out.trans ((Below.refl w.heap.size _).grown D2.gr (by simp; omega) (fun g e => by injection e; omega)))
  clear ho D2 q0
  go_wp2
  refine bodyPost_ret (v := .agg #[.int .i64 m, .slice a2 zs.length c2]) (by simp [results, Tryd.results32, go_sem, d0, d1]) rfl ?_
  refine ⟨m, a2, zs, c2, rfl, Nat.le_trans hl (by decide), ?_, ?_⟩
  · exact own_mono (ownsRow_setCell_below (ownsRow_setCell_below HO.out (a := ⟨w.heap.size, 0, none⟩) (show w.heap.size < w.heap.size + 2 by omega) _) (a := ⟨w.heap.size, 1, none⟩) (show w.heap.size < w.heap.size + 2 by omega) _) (by omega)
  · exact (HBW.out.setCell (p := ⟨w.heap.size, 0, none⟩) (Nat.le_refl _) _).setCell (p := ⟨w.heap.size, 1, none⟩) (Nat.le_refl _) _

set_option maxRecDepth 100000 in
set_option maxHeartbeats 2000000 in
theorem drawAlikeSame_any (a : Option Addr) (n cap : Nat) (w : World) (hb : Bys w w.heap.size a n) (hn : n ≤ 1048576) (hc : n ≤ cap) (hc2 : cap ≤ 9223372036854775807) :
    Calls Tryd.prog 13 #[.slice a n cap] w (DrawnOne w) := by
  have b1 := below1 w (.cells #[.int .i64 0, .slice none 0 0] 25)
  have HB := Lib.hid ((hb.below b1).fewer (B' := (w.alloc (.cells #[.int .i64 0, .slice none 0 0] 25)).heap.size) (by simp) (Nat.le_refl n))
  have HX : Hid (HasBlk (w.alloc (.cells #[.int .i64 0, .slice none 0 0] 25)) w.heap.size #[.int .i64 0, .slice none 0 0] 25) := Lib.hid (alloc_new w _)
  have HBL := Lib.hid b1
  clear hb b1
  go_enter Tryd.func13, Tryd.ntmps13
  go_wp2_with fail
  refine (fewD_any a n cap _ HB.out hn hc hc2).mono ?_
  rintro e w2 ⟨m, a2, zs, c2, rfl, hl, ho, D2⟩
  have q0 : HasBlk w2 w.heap.size #[.int .i64 0, .slice none 0 0] 25 := (D2.block _ (by simp)).trans HX.out
  have d0 := (blk_cell q0 0).trans (cell2_0 _ _)
  have d1 := (blk_cell q0 1).trans (cell2_1 _ _)
  have f0 := blk_frozen q0 0
  have f1 := blk_frozen q0 1
  have HO : Hid (OwnI w2 (w.heap.size + 1) (.slice a2 zs.length c2) zs) := Lib.hid (own_mono ho (by simp))
  have HBW := Lib.hid (HBL.out.trans (D2.mono (by simp)))
  clear ho D2 q0
  go_wp2
  refine bodyPost_ret (v := .agg #[.int .i64 m, .slice a2 zs.length c2]) (by simp [results, Tryd.results13, go_sem, d0, d1]) rfl ?_
  refine ⟨m, a2, zs, c2, rfl, hl, ?_, ?_⟩
  · exact own_mono (ownsRow_setCell_below (ownsRow_setCell_below HO.out (a := ⟨w.heap.size, 0, none⟩) (show w.heap.size < w.heap.size + 1 by omega) _) (a := ⟨w.heap.size, 1, none⟩) (show w.heap.size < w.heap.size + 1 by omega) _) (by omega)
  · exact (HBW.out.setCell (p := ⟨w.heap.size, 0, none⟩) (Nat.le_refl _) _).setCell (p := ⟨w.heap.size, 1, none⟩) (Nat.le_refl _) _

end Go.Proofs.YtijpgbkjgjpmmaaDoor
