/- It is proved what CoverOwn of the program and of the reference model returns; conditions: those of each statement. -/
import Derived.RowKit
import Derived.Laws.CopyRow
import Derived.Lib.SlBuf
import Derived.Deep.QuietTactic
import Derived.RangeFuncNested
import Derived.RangeFuncBound
import Derived.RangeFuncCalls
import Derived.RangeFuncLeaves
import Derived.RangeFuncBox
import Derived.RangeFuncWrites
import Derived.StillTailTactics
import Derived.Maps.OwnIn
import Derived.Maps.Ext
import Derived.DeepKeys4
import Derived.MapKept
import Derived.Test.YtcmpjegfikdofaaDoorRows
import Derived.WalkKit
import Derived.WalkSpells
import Derived.ProofKit
import Derived.OpenShut
import Derived.ShutString
import Derived.ChangeOld
import Derived.Below
import Derived.Deep.RegionHeld3
import Derived.BigQuiet
import Derived.Lib.Hide
import Derived.Lib.SmallJoins
import Derived.Outline
import Derived.Laws.MakeOwn
import Derived.Laws.OwnMore
import Derived.IntWalk
import Derived.Maps.AppendAt
import Derived.Deep.RegionLaw
import Derived.Deep.AppendLies
import Derived.Lib.AppendZeros
import Derived.OwnWalk
import Derived.Lib.SlicesCompact
import Derived.Lib.OwnBridge
import Derived.OrdersIn
import Derived.TacticsIn
import Derived.Shelf.Sort.Plain
import Derived.Shelf.Slices.In.SortNone
import Derived.Shelf.Slices.CompactI
import Derived.Ground.Names2Prog
import Derived.Lib.SliceRun
import Derived.Shelf.Abstract
import Derived.Shelf.RegionOpen
import Derived.OwnWalkIn
import Derived.TacticsInMore
import Derived.LoopNIn
import Derived.LoopIn
import Derived.StillTail
import Derived.StillTactics
import Derived.Shelf.Spec.TrailingZeros
import Derived.Test.YtcmpjegfikdofaaDoorMraa
import Derived.Test.YtcmpjegfikdofaaDoorBe
import Derived.Test.YtcmpjegfikdofaaDoorMrar
import Derived.Test.YtcmpjegfikdofaaDoorMrae
import Derived.Test.YtcmpjegfikdofaaDoorMraf
import Derived.Test.YtcmpjegfikdofaaDoorMrag
import Derived.Test.YtcmpjegfikdofaaDoorMraz
import Derived.Test.YtcmpjegfikdofaaDoorHd
import Derived.Test.YtcmpjegfikdofaaDoorMrak
import Derived.Test.YtcmpjegfikdofaaDoorMrao
import Derived.Test.YtcmpjegfikdofaaDoorMrbd
import Derived.Test.YtcmpjegfikdofaaDoorMrab
import Derived.Test.YtcmpjegfikdofaaDoorKa
import Derived.Test.YtcmpjegfikdofaaDoorKc
import Derived.Test.YtcmpjegfikdofaaDoorKh
import Derived.Test.YtcmpjegfikdofaaDoorKk
import Derived.Test.YtcmpjegfikdofaaDoorKn
import Derived.Test.YtcmpjegfikdofaaDoorMrah
namespace Go.Proofs.YtcmpjegfikdofaaDoor
open Go.RowKit

/-- A family is own. -/
def ownB (m : Int) (zs : List Int) : Bool := famIn m zs && decide (lcL m.toNat zs = unbeaten leG zs)

theorem sameB_dec (xs ys : List Int) : sameB xs ys = decide (xs = ys) := by
  rw [Bool.eq_iff_iff, sameB_iff, decide_eq_true_eq]

set_option maxRecDepth 100000 in
set_option maxHeartbeats 2000000 in
theorem implCoverOwn_any (m : Int) (a : Option Addr) (c : Nat) (zs : List Int) (w : World) (ha : Ints w w.heap.size a zs) (hx : zs.length ≤ 1048576) :
    Calls Tryd.prog 34 #[.agg #[.int .i64 m, .slice a zs.length c]] w fun e w' => e = .returned (.bool (ownB m zs)) ∧ Below w.heap.size w w' := by
  unfold ownB
  have HB0 := Lib.hid (below1 w (.cells #[.int .i64 m, .slice a zs.length c] 25))
  have hA := (ha.below HB0.out).mono (show w.heap.size ≤ (w.alloc (.cells #[.int .i64 m, .slice a zs.length c] 25)).heap.size by simp)
  have HC := Lib.hid (implCoverSets_any m a c zs _ hA hx)
  have HA := Lib.hid hA
  have hff := field_fam
  clear ha hA
  cases hf : famIn m zs
  · have HF := Lib.hid hf
    have HZ : Hid (lcZ m zs = []) := Lib.hid (by unfold lcZ; rw [hf]; rfl)
    clear hf
    go_enter Tryd.func34, Tryd.ntmps34
    go_wp2_with fail
    refine HC.out.mono ?_
    rintro e w1 ⟨a1, c1, rfl, -, hb⟩
    rw [HF.out]
    have HB := Lib.hid (HB0.out.trans (hb.mono (by simp)))
    clear hb
    go_wp2
    go_ret
    exact ⟨rfl, HB.out⟩
  · have HF := Lib.hid hf
    have HZ : Hid (lcZ m zs = lcL m.toNat zs) := Lib.hid (by unfold lcZ; rw [hf]; rfl)
    obtain ⟨k, rfl, hk1, hk6, hset, hl8⟩ := fam_nat hf
    have HL6 : Hid ((lcL ((k : Nat) : Int).toNat zs).length ≤ 64) := Lib.hid (by rw [Int.toNat_natCast]; exact lcL_len hk6 zs)
    clear hf
    go_enter Tryd.func34, Tryd.ntmps34
    go_wp2_with fail
    refine HC.out.mono ?_
    rintro e w1 ⟨a1, c1, rfl, ho, hb⟩
    rw [HF.out]
    have b0 : w1.heap[w.heap.size]? = some (.cells #[.int .i64 (k : Int), .slice a zs.length c] 25 (0, 0)) := (hb.block _ (by simp)).trans (alloc_new w _)
    have x0 := (blk_cell b0 0).trans (cell2_0 _ _)
    have x1 := (blk_cell b0 1).trans (cell2_1 _ _)
    have z1 : w.heap.size < w1.heap.size := lt_of_some b0
    have HLe := Lib.hid (leastFam_any (k : Int) a c zs w1 ((HA.out.below hb).mono (by simp; omega)) hx)
    rw [HZ.out] at ho ⊢
    have HI := Lib.hid (own_ints ho)
    have HB := Lib.hid (HB0.out.trans (hb.mono (by simp)))
    have Z1 := Lib.hid z1
    clear hb b0 z1 ho
    go_wp2_with fail
    refine HLe.out.mono ?_
    rintro e w2 ⟨a2, c2, rfl, ho2, hb2⟩
    have HE := Lib.hid (slEqual_any a1 a2 c1 c2 (lcL ((k : Nat) : Int).toNat zs) (unbeaten leG zs) w2 ((HI.out.below hb2).mono hb2.size) (own_ints ho2) (by have := HL6.out; omega) (by have := unbeaten_le leG zs; omega))
    have HB2 := Lib.hid (HB.out.trans (hb2.mono (by have := Z1.out; omega)))
    clear hb2 ho2
    go_wp2_with fail
    refine HE.out.mono ?_
    rintro e w3 ⟨rfl, hb3⟩
    rw [sameB_dec]
    have HB3 := Lib.hid (HB2.out.trans (hb3.mono HB2.out.size))
    clear hb3
    go_wp2
    go_ret
    exact ⟨by simp, HB3.out⟩

theorem arr11 (l : Array Bool) (h : l.size = 11) : ∃ l0 l1 l2 l3 l4 l5 l6 l7 l8 l9 l10, l = #[l0, l1, l2, l3, l4, l5, l6, l7, l8, l9, l10] := by
  obtain ⟨L⟩ := l
  match L, h with
  | [l0, l1, l2, l3, l4, l5, l6, l7, l8, l9, l10], _ => exact ⟨_, _, _, _, _, _, _, _, _, _, _, rfl⟩

attribute [local go_sem] Oper.semAt_some
set_option maxRecDepth 100000 in
set_option maxHeartbeats 4000000 in
theorem specCoverOwn_no (m : Int) (a : Option Addr) (c : Nat) (zs : List Int) (w : World) (ha : Ints w w.heap.size a zs) (hx : zs.length ≤ 1048576) (hf : famIn m zs = false) :
    Calls Tryd.prog 35 #[.agg #[.int .i64 m, .slice a zs.length c]] w fun e w' => e = .returned (.bool false) ∧ Below w.heap.size w w' := by
  have HB0 := Lib.hid (below1 w (.cells #[.int .i64 m, .slice a zs.length c] 25))
  obtain ⟨W1, hW1, b0, hs1⟩ : ∃ W1, w.alloc (.cells #[.int .i64 m, .slice a zs.length c] 25) = W1 ∧ HasBlk W1 w.heap.size #[.int .i64 m, .slice a zs.length c] 25 ∧ W1.heap.size = w.heap.size + 1 := ⟨_, rfl, alloc_new w _, by simp⟩
  rw [hW1] at HB0
  have HA := Lib.hid ((ha.below HB0.out).mono (show w.heap.size ≤ W1.heap.size by omega))
  have B0 := Lib.hid b0
  have HS1 := Lib.hid hs1
  have HF := Lib.hid hf
  have hmx : Tryd.prog.follows .mixedOrders = true := by kernel_rfl
  clear ha b0 hs1 hf
  refine (callsIn_wide (n := 6)).1 ?_
  refine callsIn_of_wp Tryd.func35 rfl trivial ?_ rfl
  simp only [Tryd.ntmps35, List.size_toArray, List.length_cons, List.length_nil, Nat.reduceAdd, Nat.reduceSub, Array.replicate_succ, Array.replicate_zero, List.push_toArray, List.append_toArray, List.nil_append, List.cons_append]
  gi_wp2
  clear hW1
  refine wpIn_region_held (A := fun ls => { tmps := #[.agg #[.int .i64 m, .slice a zs.length c], .pointer (some ⟨w.heap.size, 0, none⟩), .bool false, bif ls.getD 0 false then .agg #[.int .i64 m, .slice a zs.length c] else undef, bif ls.getD 1 false then .bool false else undef, bif ls.getD 2 false then .bool false else undef, undef, undef, undef, undef, undef, undef, bif ls.getD 9 false then .bool false else undef], defers := [] }) (S := fun _ W' => Below W1.heap.size W1 W') hmx (by kernel_rfl) rfl (Below.refl _ _).drew ?step ?fin
  case step =>
    intro listed W' i hsz hi hB
    obtain ⟨l0, l1, l2, l3, l4, l5, l6, l7, l8, l9, l10, rfl⟩ := arr11 listed hsz
    obtain ⟨hi1, hi2⟩ := List.mem_filter.1 hi
    have hi11 : i < 11 := by simpa using hi1
    have b2 := (hB.block _ (lt_of_some B0.out)).trans B0.out
    have x0 := (blk_cell b2 0).trans (cell2_0 _ _)
    have x1 := (blk_cell b2 1).trans (cell2_1 _ _)
    have HBW := Lib.hid hB
    clear hB b2
    have hcase : i = 0 ∨ i = 1 ∨ i = 2 ∨ i = 3 ∨ i = 4 ∨ i = 5 ∨ i = 6 ∨ i = 7 ∨ i = 8 ∨ i = 9 ∨ i = 10 := by omega
    rcases hcase with rfl | rfl | rfl | rfl | rfl | rfl | rfl | rfl | rfl | rfl | rfl
    · refine wpOpIn_of_list rfl ?_
      gi_wp2
      first | exact ⟨rfl, HBW.out⟩ | (refine ⟨trivial, ?_⟩; first | exact ⟨rfl, HBW.out⟩ | (gi_wp2; exact ⟨rfl, HBW.out⟩))
    · have h0 : l0 = true := by simp [Region.binds] at hi2; simp_all
      subst h0
      have HFI := Lib.hid (specFamilyIn_any m a c zs W' ((HA.out.below HBW.out).mono HBW.out.size) hx)
      refine wpOpIn_of_list rfl ?_
      gi_wp2_with (refine ⟨trivial, ?_⟩; gi_at_call 46; refine (callsIn_wide.2 HFI.out).mono ?_; rintro e w9 ⟨rfl, hb9⟩; rw [HF.out])
      exact ⟨rfl, HBW.out.trans (hb9.mono HBW.out.size)⟩
    · have h1 : l1 = true := by simp [Region.binds] at hi2; simp_all
      subst h1
      refine wpOpIn_of_list rfl ?_
      gi_wp2
      first | exact ⟨rfl, HBW.out⟩ | (refine ⟨trivial, ?_⟩; first | exact ⟨rfl, HBW.out⟩ | (gi_wp2; exact ⟨rfl, HBW.out⟩))
    · have h2 : l2 = true := by simp [Region.binds] at hi2; simp_all
      subst h2
      refine wpOpIn_of_list rfl ?_
      gi_wp2
      first | exact ⟨rfl, HBW.out⟩ | (refine ⟨trivial, ?_⟩; first | exact ⟨rfl, HBW.out⟩ | (gi_wp2; exact ⟨rfl, HBW.out⟩))
    · have h2 : l2 = true := by simp [Region.binds] at hi2; simp_all
      subst h2
      refine wpOpIn_of_list rfl ?_
      gi_wp2
      first | exact ⟨rfl, HBW.out⟩ | (refine ⟨trivial, ?_⟩; first | exact ⟨rfl, HBW.out⟩ | (gi_wp2; exact ⟨rfl, HBW.out⟩))
    · have h2 : l2 = true := by simp [Region.binds] at hi2; simp_all
      subst h2
      refine wpOpIn_of_list rfl ?_
      gi_wp2
      first | exact ⟨rfl, HBW.out⟩ | (refine ⟨trivial, ?_⟩; first | exact ⟨rfl, HBW.out⟩ | (gi_wp2; exact ⟨rfl, HBW.out⟩))
    · have h2 : l2 = true := by simp [Region.binds] at hi2; simp_all
      subst h2
      refine wpOpIn_of_list rfl ?_
      gi_wp2
      first | exact ⟨rfl, HBW.out⟩ | (refine ⟨trivial, ?_⟩; first | exact ⟨rfl, HBW.out⟩ | (gi_wp2; exact ⟨rfl, HBW.out⟩))
    · have h2 : l2 = true := by simp [Region.binds] at hi2; simp_all
      subst h2
      refine wpOpIn_of_list rfl ?_
      gi_wp2
      first | exact ⟨rfl, HBW.out⟩ | (refine ⟨trivial, ?_⟩; first | exact ⟨rfl, HBW.out⟩ | (gi_wp2; exact ⟨rfl, HBW.out⟩))
    · have h2 : l2 = true := by simp [Region.binds] at hi2; simp_all
      subst h2
      refine wpOpIn_of_list rfl ?_
      gi_wp2
      first | exact ⟨rfl, HBW.out⟩ | (refine ⟨trivial, ?_⟩; first | exact ⟨rfl, HBW.out⟩ | (gi_wp2; exact ⟨rfl, HBW.out⟩))
    · have h2 : l2 = true := by simp [Region.binds] at hi2; simp_all
      subst h2
      refine wpOpIn_of_list rfl ?_
      gi_wp2
      first | exact ⟨rfl, HBW.out⟩ | (refine ⟨trivial, ?_⟩; first | exact ⟨rfl, HBW.out⟩ | (gi_wp2; exact ⟨rfl, HBW.out⟩))
    · have h9 : l9 = true := by simp [Region.binds] at hi2; simp_all
      subst h9
      refine wpOpIn_of_list rfl ?_
      gi_wp2
      first | exact ⟨rfl, HBW.out⟩ | (refine ⟨trivial, ?_⟩; first | exact ⟨rfl, HBW.out⟩ | (gi_wp2; exact ⟨rfl, HBW.out⟩))
  case fin =>
    intro listed W' hsz hall hB
    obtain ⟨l0, l1, l2, l3, l4, l5, l6, l7, l8, l9, l10, rfl⟩ := arr11 listed hsz
    simp at hall
    obtain ⟨rfl, rfl, rfl, rfl, rfl, rfl, rfl, rfl, rfl, rfl, rfl⟩ := hall
    have HBW := Lib.hid (HB0.out.trans (hB.mono (by have := HS1.out; omega)))
    clear hB
    gi_wp2
    refine bodyPost_ret (results_tmp rfl _ _ _) rfl ?_
    exact ⟨rfl, HBW.out⟩

set_option maxRecDepth 100000 in
set_option maxHeartbeats 4000000 in
theorem specCoverOwn_yes (k : Nat) (a : Option Addr) (c : Nat) (zs : List Int) (w : World) (ha : Ints w w.heap.size a zs) (hx : zs.length ≤ 1048576) (hf : famIn (k : Int) zs = true) :
    Calls Tryd.prog 35 #[.agg #[.int .i64 (k : Int), .slice a zs.length c]] w fun e w' => e = .returned (.bool (decide (lcL k zs = unbeaten leG zs))) ∧ Below w.heap.size w w' := by
  have HB0 := Lib.hid (below1 w (.cells #[.int .i64 (k : Int), .slice a zs.length c] 25))
  obtain ⟨W1, hW1, b0, hs1⟩ : ∃ W1, w.alloc (.cells #[.int .i64 (k : Int), .slice a zs.length c] 25) = W1 ∧ HasBlk W1 w.heap.size #[.int .i64 (k : Int), .slice a zs.length c] 25 ∧ W1.heap.size = w.heap.size + 1 := ⟨_, rfl, alloc_new w _, by simp⟩
  rw [hW1] at HB0
  obtain ⟨-, h6, h8, -⟩ := famIn_out hf
  have hset := sets_of_fam hf
  have hA : Ints W1 W1.heap.size a zs := (ha.below HB0.out).mono (show w.heap.size ≤ W1.heap.size by omega)
  have hFI := specFamilyIn_any (k : Int) a c zs W1.drew hA hx
  rw [hf] at hFI
  have HFI := Lib.hid hFI
  have HA : Hid (Ints W1.drew W1.drew.heap.size a zs) := Lib.hid hA
  have HSET := Lib.hid hset
  have x0 := (blk_cell b0 0).trans (cell2_0 _ _)
  have x1 := (blk_cell b0 1).trans (cell2_1 _ _)
  have Z1 := Lib.hid (show w.heap.size < W1.heap.size by omega)
  have hk1 : 1 ≤ k := by obtain ⟨h1, -⟩ := famIn_out hf; omega
  have hk6 : k ≤ 6 := by omega
  have hLn : (lcL k zs).length ≤ 64 := lcL_len hk6 zs
  have hUn := unbeaten_le leG zs
  clear ha hA b0 hs1 hf hFI h6 hset
  go_enter Tryd.func35, Tryd.ntmps35
  go_wp2
  clear hW1
  have hx1' : zs.length < 1048576 := by omega
  go_region_held3 (fun w' => w'.cell? ⟨w.heap.size, 0, none⟩ = some (.int .i64 (k : Int)) ∧ w'.cell? ⟨w.heap.size, 1, none⟩ = some (.slice a zs.length c))
    (first
      | exact ⟨x0, x1⟩
      | exact ⟨(hb2.cell (p := ⟨w.heap.size, 0, none⟩) Z1.out).trans x0, (hb2.cell (p := ⟨w.heap.size, 1, none⟩) Z1.out).trans x1⟩
      | exact ⟨(hb3.cell (p := ⟨w.heap.size, 0, none⟩) Z1.out).trans x0, (hb3.cell (p := ⟨w.heap.size, 1, none⟩) Z1.out).trans x1⟩
      | exact ⟨(hb4.cell (p := ⟨w.heap.size, 0, none⟩) Z1.out).trans x0, (hb4.cell (p := ⟨w.heap.size, 1, none⟩) Z1.out).trans x1⟩
      | exact ⟨(hb5.cell (p := ⟨w.heap.size, 0, none⟩) Z1.out).trans x0, (hb5.cell (p := ⟨w.heap.size, 1, none⟩) Z1.out).trans x1⟩)
    (first
      | (go_at_call 46; refine HFI.out.mono ?_; rintro e w2 ⟨rfl, hb2⟩)
      | (go_at_call 47; refine (l4Sets_any k hk1 hk6 a c zs _ ((HA.out.below hb2).mono hb2.size) hx HSET.out).mono ?_; rintro e w3 ⟨g3, c3, rfl, ho3, hb3'⟩; have hb3 := hb2.trans (hb3'.mono hb2.size))
      | (go_at_call 48; refine (l1Least_any a c zs _ ((HA.out.below hb3).mono hb3.size) hx1').mono ?_; rintro e w4 ⟨g4, c4, rfl, ho4, hb4'⟩; have hb4 := hb3.trans (hb4'.mono hb3.size))
      | (go_at_call 70; refine (equal_any (some ⟨g3, 0, none⟩) (some ⟨g4, 0, none⟩) c3 c4 (lcL k zs) (unbeaten leG zs) _ ((OwnN.ints ho3).below hb4' |>.mono hb4'.size) (OwnN.ints ho4) (by omega) (by omega)).mono ?_; rintro e w5 ⟨rfl, hb5'⟩; have hb5 := hb4.trans (hb5'.mono hb4.size)))
  have HD := Lib.hid (HB0.out.drew.trans (hb5.mono (show w.heap.size ≤ W1.heap.size from Nat.le_of_lt Z1.out)))
  clear hb2 hb3 hb4 hb5 hb3' hb4' hb5' ho3 ho4
  go_wp2
  go_ret
  exact ⟨by simp, HD.out⟩

theorem specCoverOwn_any (m : Int) (a : Option Addr) (c : Nat) (zs : List Int) (w : World) (ha : Ints w w.heap.size a zs) (hx : zs.length ≤ 1048576) :
    Calls Tryd.prog 35 #[.agg #[.int .i64 m, .slice a zs.length c]] w fun e w' => e = .returned (.bool (ownB m zs)) ∧ Below w.heap.size w w' := by
  unfold ownB
  cases hf : famIn m zs
  · exact specCoverOwn_no m a c zs w ha hx hf
  · obtain ⟨k, rfl, -⟩ := fam_nat hf
    exact specCoverOwn_yes k a c zs w ha hx hf

end Go.Proofs.YtcmpjegfikdofaaDoor
