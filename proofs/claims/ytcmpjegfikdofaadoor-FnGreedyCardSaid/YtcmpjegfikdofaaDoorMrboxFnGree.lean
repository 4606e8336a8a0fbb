/- It is proved what CoverOwn of the program and of the reference model returns; conditions: those of each statement. -/
import Derived.RowKit
import Derived.Laws.CopyRow
import Derived.Lib.SlBuf
import Derived.Deep.QuietTactic
import Derived.RangeFuncNested
import Derived.RangeFuncBound
import Derived.RangeFuncCalls
import Derived.RangeFuncLeaves
import Derived.RangeFuncBox
import Derived.RangeFuncWrites
import Derived.StillTailTactics
import Derived.Maps.OwnIn
import Derived.Maps.Ext
import Derived.DeepKeys4
import Derived.MapKept
import Derived.Test.YtcmpjegfikdofaaDoorRows
import Derived.WalkKit
import Derived.WalkSpells
import Derived.ProofKit
import Derived.OpenShut
import Derived.ShutString
import Derived.ChangeOld
import Derived.Below
import Derived.Deep.RegionHeld3
import Derived.BigQuiet
import Derived.Lib.Hide
import Derived.Lib.SmallJoins
import Derived.Outline
import Derived.Laws.MakeOwn
import Derived.Laws.OwnMore
import Derived.IntWalk
import Derived.Maps.AppendAt
import Derived.Deep.RegionLaw
import Derived.Deep.AppendLies
import Derived.Lib.AppendZeros
import Derived.OwnWalk
import Derived.Lib.SlicesCompact
import Derived.Lib.OwnBridge
import Derived.OrdersIn
import Derived.TacticsIn
import Derived.Shelf.Sort.Plain
import Derived.Shelf.Slices.In.SortNone
import Derived.Shelf.Slices.CompactI
import Derived.Ground.Names2Prog
import Derived.Lib.SliceRun
import Derived.Shelf.Abstract
import Derived.Shelf.RegionOpen
import Derived.OwnWalkIn
import Derived.TacticsInMore
import Derived.LoopNIn
import Derived.LoopIn
import Derived.StillTail
import Derived.StillTactics
import Derived.Shelf.Spec.TrailingZeros
import Derived.Test.YtcmpjegfikdofaaDoorMraa
import Derived.Test.YtcmpjegfikdofaaDoorMrbnxFnGree
import Derived.Test.YtcmpjegfikdofaaDoorMrar
import Derived.Test.YtcmpjegfikdofaaDoorMrae
import Derived.Test.YtcmpjegfikdofaaDoorMraf
import Derived.Test.YtcmpjegfikdofaaDoorMrag
import Derived.Test.YtcmpjegfikdofaaDoorMraz
import Derived.Test.YtcmpjegfikdofaaDoorHd
import Derived.Test.YtcmpjegfikdofaaDoorMrak
import Derived.Test.YtcmpjegfikdofaaDoorMrao
import Derived.Test.YtcmpjegfikdofaaDoorMrbd
import Derived.Test.YtcmpjegfikdofaaDoorMrab
import Derived.Test.YtcmpjegfikdofaaDoorKa
import Derived.Test.YtcmpjegfikdofaaDoorKc
import Derived.Test.YtcmpjegfikdofaaDoorKh
import Derived.Test.YtcmpjegfikdofaaDoorKk
import Derived.Test.YtcmpjegfikdofaaDoorMrah
import Derived.Deep.RegionWith
import Derived.Test.YtcmpjegfikdofaaDoorMraw
import Derived.Test.YtcmpjegfikdofaaDoorMrbkxFnGree
import Derived.Test.YtcmpjegfikdofaaDoorMrbe
import Derived.Test.YtcmpjegfikdofaaDoorMrbc
import Derived.Test.YtcmpjegfikdofaaDoorLi
import Derived.Test.YtcmpjegfikdofaaDoorMrbmxFnGree
import Derived.Test.YtcmpjegfikdofaaDoorMras
import Derived.Test.YtcmpjegfikdofaaDoorMrba
import Derived.Test.YtcmpjegfikdofaaDoorMrac
namespace Go.Proofs.YtcmpjegfikdofaaDoor
open Go.RowKit

/-- A family is own. -/
def ownB (m : Int) (zs : List Int) : Bool := famIn m zs && decide (lcL m.toNat zs = unbeaten leG zs)

theorem sameB_dec (xs ys : List Int) : sameB xs ys = decide (xs = ys) := by
  rw [Bool.eq_iff_iff, sameB_iff, decide_eq_true_eq]

set_option maxRecDepth 100000 in
set_option maxHeartbeats 2000000 in
theorem implCoverOwn_any (m : Int) (a : Option Addr) (c : Nat) (zs : List Int) (w : World) (ha : Ints w w.heap.size a zs) (hx : zs.length ≤ 1048576) :
    Calls Tryd.prog 34 #[.agg #[.int .i64 m, .slice a zs.length c]] w fun e w' => e = .returned (.bool (ownB m zs)) ∧ Below w.heap.size w w' := by
  unfold ownB
  have HB0 := Lib.hid (below1 w (.cells #[.int .i64 m, .slice a zs.length c] 25))
  have hA := (ha.below HB0.out).mono (show w.heap.size ≤ (w.alloc (.cells #[.int .i64 m, .slice a zs.length c] 25)).heap.size by simp)
  have HC := Lib.hid (implCoverSets_any m a c zs _ hA hx)
  have HA := Lib.hid hA
  have hff := field_fam
  clear ha hA
  cases hf : famIn m zs
  · have HF := Lib.hid hf
    have HZ : Hid (lcZ m zs = []) := Lib.hid (by unfold lcZ; rw [hf]; rfl)
    clear hf
    go_enter Tryd.func34, Tryd.ntmps34
    go_wp2_with fail
    refine HC.out.mono ?_
    rintro e w1 ⟨a1, c1, rfl, -, hb⟩
    rw [HF.out]
    have HB := Lib.hid (HB0.out.trans (hb.mono (by simp)))
    clear hb
    go_wp2
    go_ret
    exact ⟨rfl, HB.out⟩
  · have HF := Lib.hid hf
    have HZ : Hid (lcZ m zs = lcL m.toNat zs) := Lib.hid (by unfold lcZ; rw [hf]; rfl)
    obtain ⟨k, rfl, hk1, hk6, hset, hl8⟩ := fam_nat hf
    have HL6 : Hid ((lcL ((k : Nat) : Int).toNat zs).length ≤ 64) := Lib.hid (by rw [Int.toNat_natCast]; exact lcL_len hk6 zs)
    clear hf
    go_enter Tryd.func34, Tryd.ntmps34
    go_wp2_with fail
    refine HC.out.mono ?_
    rintro e w1 ⟨a1, c1, rfl, ho, hb⟩
    rw [HF.out]
    have b0 : w1.heap[w.heap.size]? = some (.cells #[.int .i64 (k : Int), .slice a zs.length c] 25 (0, 0)) := (hb.block _ (by simp)).trans (alloc_new w _)
    have x0 := (blk_cell b0 0).trans (cell2_0 _ _)
    have x1 := (blk_cell b0 1).trans (cell2_1 _ _)
    have z1 : w.heap.size < w1.heap.size := lt_of_some b0
    have HLe := Lib.hid (leastFam_any (k : Int) a c zs w1 ((HA.out.below hb).mono (by simp; omega)) hx)
    rw [HZ.out] at ho ⊢
    have HI := Lib.hid (own_ints ho)
    have HB := Lib.hid (HB0.out.trans (hb.mono (by simp)))
    have Z1 := Lib.hid z1
    clear hb b0 z1 ho
    go_wp2_with fail
    refine HLe.out.mono ?_
    rintro e w2 ⟨a2, c2, rfl, ho2, hb2⟩
    have HE := Lib.hid (slEqual_any a1 a2 c1 c2 (lcL ((k : Nat) : Int).toNat zs) (unbeaten leG zs) w2 ((HI.out.below hb2).mono hb2.size) (own_ints ho2) (by have := HL6.out; omega) (by have := unbeaten_le leG zs; omega))
    have HB2 := Lib.hid (HB.out.trans (hb2.mono (by have := Z1.out; omega)))
    clear hb2 ho2
    go_wp2_with fail
    refine HE.out.mono ?_
    rintro e w3 ⟨rfl, hb3⟩
    rw [sameB_dec]
    have HB3 := Lib.hid (HB2.out.trans (hb3.mono HB2.out.size))
    clear hb3
    go_wp2
    go_ret
    exact ⟨by simp, HB3.out⟩

theorem arr11 (l : Array Bool) (h : l.size = 11) : ∃ l0 l1 l2 l3 l4 l5 l6 l7 l8 l9 l10, l = #[l0, l1, l2, l3, l4, l5, l6, l7, l8, l9, l10] := by
  obtain ⟨L⟩ := l
  match L, h with
  | [l0, l1, l2, l3, l4, l5, l6, l7, l8, l9, l10], _ => exact ⟨_, _, _, _, _, _, _, _, _, _, _, rfl⟩

attribute [local go_sem] Oper.semAt_some
set_option maxRecDepth 100000 in
set_option maxHeartbeats 4000000 in
theorem specCoverOwn_no (m : Int) (a : Option Addr) (c : Nat) (zs : List Int) (w : World) (ha : Ints w w.heap.size a zs) (hx : zs.length ≤ 1048576) (hf : famIn m zs = false) :
    Calls Tryd.prog 35 #[.agg #[.int .i64 m, .slice a zs.length c]] w fun e w' => e = .returned (.bool false) ∧ Below w.heap.size w w' := by
  have HB0 := Lib.hid (below1 w (.cells #[.int .i64 m, .slice a zs.length c] 25))
  obtain ⟨W1, hW1, b0, hs1⟩ : ∃ W1, w.alloc (.cells #[.int .i64 m, .slice a zs.length c] 25) = W1 ∧ HasBlk W1 w.heap.size #[.int .i64 m, .slice a zs.length c] 25 ∧ W1.heap.size = w.heap.size + 1 := ⟨_, rfl, alloc_new w _, by simp⟩
  rw [hW1] at HB0
  have HA := Lib.hid ((ha.below HB0.out).mono (show w.heap.size ≤ W1.heap.size by omega))
  have B0 := Lib.hid b0
  have HS1 := Lib.hid hs1
  have HF := Lib.hid hf
  have hmx : Tryd.prog.follows .mixedOrders = true := by kernel_rfl
  clear ha b0 hs1 hf
  refine (callsIn_wide (n := 6)).1 ?_
  refine callsIn_of_wp Tryd.func35 rfl trivial ?_ rfl
  simp only [Tryd.ntmps35, List.size_toArray, List.length_cons, List.length_nil, Nat.reduceAdd, Nat.reduceSub, Array.replicate_succ, Array.replicate_zero, List.push_toArray, List.append_toArray, List.nil_append, List.cons_append]
  gi_wp2
  clear hW1
  refine wpIn_region_held (A := fun ls => { tmps := #[.agg #[.int .i64 m, .slice a zs.length c], .pointer (some ⟨w.heap.size, 0, none⟩), .bool false, bif ls.getD 0 false then .agg #[.int .i64 m, .slice a zs.length c] else undef, bif ls.getD 1 false then .bool false else undef, bif ls.getD 2 false then .bool false else undef, undef, undef, undef, undef, undef, undef, bif ls.getD 9 false then .bool false else undef], defers := [] }) (S := fun _ W' => Below W1.heap.size W1 W') hmx (by kernel_rfl) rfl (Below.refl _ _).drew ?step ?fin
  case step =>
    intro listed W' i hsz hi hB
    obtain ⟨l0, l1, l2, l3, l4, l5, l6, l7, l8, l9, l10, rfl⟩ := arr11 listed hsz
    obtain ⟨hi1, hi2⟩ := List.mem_filter.1 hi
    have hi11 : i < 11 := by simpa using hi1
    have b2 := (hB.block _ (lt_of_some B0.out)).trans B0.out
    have x0 := (blk_cell b2 0).trans (cell2_0 _ _)
    have x1 := (blk_cell b2 1).trans (cell2_1 _ _)
    have HBW := Lib.hid hB
    clear hB b2
    have hcase : i = 0 ∨ i = 1 ∨ i = 2 ∨ i = 3 ∨ i = 4 ∨ i = 5 ∨ i = 6 ∨ i = 7 ∨ i = 8 ∨ i = 9 ∨ i = 10 := by omega
    rcases hcase with rfl | rfl | rfl | rfl | rfl | rfl | rfl | rfl | rfl | rfl | rfl
    · refine wpOpIn_of_list rfl ?_
      gi_wp2
      first | exact ⟨rfl, HBW.out⟩ | (refine ⟨trivial, ?_⟩; first | exact ⟨rfl, HBW.out⟩ | (gi_wp2; exact ⟨rfl, HBW.out⟩))
    · have h0 : l0 = true := by simp [Region.binds] at hi2; simp_all
      subst h0
      have HFI := Lib.hid (specFamilyIn_any m a c zs W' ((HA.out.below HBW.out).mono HBW.out.size) hx)
      refine wpOpIn_of_list rfl ?_
      gi_wp2_with (refine ⟨trivial, ?_⟩; gi_at_call 46; refine (callsIn_wide.2 HFI.out).mono ?_; rintro e w9 ⟨rfl, hb9⟩; rw [HF.out])
      exact ⟨rfl, HBW.out.trans (hb9.mono HBW.out.size)⟩
    · have h1 : l1 = true := by simp [Region.binds] at hi2; simp_all
      subst h1
      refine wpOpIn_of_list rfl ?_
      gi_wp2
      first | exact ⟨rfl, HBW.out⟩ | (refine ⟨trivial, ?_⟩; first | exact ⟨rfl, HBW.out⟩ | (gi_wp2; exact ⟨rfl, HBW.out⟩))
    · have h2 : l2 = true := by simp [Region.binds] at hi2; simp_all
      subst h2
      refine wpOpIn_of_list rfl ?_
      gi_wp2
      first | exact ⟨rfl, HBW.out⟩ | (refine ⟨trivial, ?_⟩; first | exact ⟨rfl, HBW.out⟩ | (gi_wp2; exact ⟨rfl, HBW.out⟩))
    · have h2 : l2 = true := by simp [Region.binds] at hi2; simp_all
      subst h2
      refine wpOpIn_of_list rfl ?_
      gi_wp2
      first | exact ⟨rfl, HBW.out⟩ | (refine ⟨trivial, ?_⟩; first | exact ⟨rfl, HBW.out⟩ | (gi_wp2; exact ⟨rfl, HBW.out⟩))
    · have h2 : l2 = true := by simp [Region.binds] at hi2; simp_all
      subst h2
      refine wpOpIn_of_list rfl ?_
      gi_wp2
      first | exact ⟨rfl, HBW.out⟩ | (refine ⟨trivial, ?_⟩; first | exact ⟨rfl, HBW.out⟩ | (gi_wp2; exact ⟨rfl, HBW.out⟩))
    · have h2 : l2 = true := by simp [Region.binds] at hi2; simp_all
      subst h2
      refine wpOpIn_of_list rfl ?_
      gi_wp2
      first | exact ⟨rfl, HBW.out⟩ | (refine ⟨trivial, ?_⟩; first | exact ⟨rfl, HBW.out⟩ | (gi_wp2; exact ⟨rfl, HBW.out⟩))
    · have h2 : l2 = true := by simp [Region.binds] at hi2; simp_all
      subst h2
      refine wpOpIn_of_list rfl ?_
      gi_wp2
      first | exact ⟨rfl, HBW.out⟩ | (refine ⟨trivial, ?_⟩; first | exact ⟨rfl, HBW.out⟩ | (gi_wp2; exact ⟨rfl, HBW.out⟩))
    · have h2 : l2 = true := by simp [Region.binds] at hi2; simp_all
      subst h2
      refine wpOpIn_of_list rfl ?_
      gi_wp2
      first | exact ⟨rfl, HBW.out⟩ | (refine ⟨trivial, ?_⟩; first | exact ⟨rfl, HBW.out⟩ | (gi_wp2; exact ⟨rfl, HBW.out⟩))
    · have h2 : l2 = true := by simp [Region.binds] at hi2; simp_all
      subst h2
      refine wpOpIn_of_list rfl ?_
      gi_wp2
      first | exact ⟨rfl, HBW.out⟩ | (refine ⟨trivial, ?_⟩; first | exact ⟨rfl, HBW.out⟩ | (gi_wp2; exact ⟨rfl, HBW.out⟩))
    · have h9 : l9 = true := by simp [Region.binds] at hi2; simp_all
      subst h9
      refine wpOpIn_of_list rfl ?_
      gi_wp2
      first | exact ⟨rfl, HBW.out⟩ | (refine ⟨trivial, ?_⟩; first | exact ⟨rfl, HBW.out⟩ | (gi_wp2; exact ⟨rfl, HBW.out⟩))
  case fin =>
    intro listed W' hsz hall hB
    obtain ⟨l0, l1, l2, l3, l4, l5, l6, l7, l8, l9, l10, rfl⟩ := arr11 listed hsz
    simp at hall
    obtain ⟨rfl, rfl, rfl, rfl, rfl, rfl, rfl, rfl, rfl, rfl, rfl⟩ := hall
    have HBW := Lib.hid (HB0.out.trans (hB.mono (by have := HS1.out; omega)))
    clear hB
    gi_wp2
    refine bodyPost_ret (results_tmp rfl _ _ _) rfl ?_
    exact ⟨rfl, HBW.out⟩

set_option maxRecDepth 100000 in
set_option maxHeartbeats 4000000 in
theorem specCoverOwn_yes (k : Nat) (a : Option Addr) (c : Nat) (zs : List Int) (w : World) (ha : Ints w w.heap.size a zs) (hx : zs.length ≤ 1048576) (hf : famIn (k : Int) zs = true) :
    Calls Tryd.prog 35 #[.agg #[.int .i64 (k : Int), .slice a zs.length c]] w fun e w' => e = .returned (.bool (decide (lcL k zs = unbeaten leG zs))) ∧ Below w.heap.size w w' := by
  have HB0 := Lib.hid (below1 w (.cells #[.int .i64 (k : Int), .slice a zs.length c] 25))
  obtain ⟨W1, hW1, b0, hs1⟩ : ∃ W1, w.alloc (.cells #[.int .i64 (k : Int), .slice a zs.length c] 25) = W1 ∧ HasBlk W1 w.heap.size #[.int .i64 (k : Int), .slice a zs.length c] 25 ∧ W1.heap.size = w.heap.size + 1 := ⟨_, rfl, alloc_new w _, by simp⟩
  rw [hW1] at HB0
  obtain ⟨-, h6, h8, -⟩ := famIn_out hf
  have hset := sets_of_fam hf
  have hA : Ints W1 W1.heap.size a zs := (ha.below HB0.out).mono (show w.heap.size ≤ W1.heap.size by omega)
  have hFI := specFamilyIn_any (k : Int) a c zs W1.drew hA hx
  rw [hf] at hFI
  have HFI := Lib.hid hFI
  have HA : Hid (Ints W1.drew W1.drew.heap.size a zs) := Lib.hid hA
  have HSET := Lib.hid hset
  have x0 := (blk_cell b0 0).trans (cell2_0 _ _)
  have x1 := (blk_cell b0 1).trans (cell2_1 _ _)
  have Z1 := Lib.hid (show w.heap.size < W1.heap.size by omega)
  have hk1 : 1 ≤ k := by obtain ⟨h1, -⟩ := famIn_out hf; omega
  have hk6 : k ≤ 6 := by omega
  have hLn : (lcL k zs).length ≤ 64 := lcL_len hk6 zs
  have hUn := unbeaten_le leG zs
  clear ha hA b0 hs1 hf hFI h6 hset
  go_enter Tryd.func35, Tryd.ntmps35
  go_wp2
  clear hW1
  have hx1' : zs.length < 1048576 := by omega
  go_region_held3 (fun w' => w'.cell? ⟨w.heap.size, 0, none⟩ = some (.int .i64 (k : Int)) ∧ w'.cell? ⟨w.heap.size, 1, none⟩ = some (.slice a zs.length c))
    (first
      | exact ⟨x0, x1⟩
      | exact ⟨(hb2.cell (p := ⟨w.heap.size, 0, none⟩) Z1.out).trans x0, (hb2.cell (p := ⟨w.heap.size, 1, none⟩) Z1.out).trans x1⟩
      | exact ⟨(hb3.cell (p := ⟨w.heap.size, 0, none⟩) Z1.out).trans x0, (hb3.cell (p := ⟨w.heap.size, 1, none⟩) Z1.out).trans x1⟩
      | exact ⟨(hb4.cell (p := ⟨w.heap.size, 0, none⟩) Z1.out).trans x0, (hb4.cell (p := ⟨w.heap.size, 1, none⟩) Z1.out).trans x1⟩
      | exact ⟨(hb5.cell (p := ⟨w.heap.size, 0, none⟩) Z1.out).trans x0, (hb5.cell (p := ⟨w.heap.size, 1, none⟩) Z1.out).trans x1⟩)
    (first
      | (go_at_call 46; refine HFI.out.mono ?_; rintro e w2 ⟨rfl, hb2⟩)
      | (go_at_call 47; refine (l4Sets_any k hk1 hk6 a c zs _ ((HA.out.below hb2).mono hb2.size) hx HSET.out).mono ?_; rintro e w3 ⟨g3, c3, rfl, ho3, hb3'⟩; have hb3 := hb2.trans (hb3'.mono hb2.size))
      | (go_at_call 48; refine (l1Least_any a c zs _ ((HA.out.below hb3).mono hb3.size) hx1').mono ?_; rintro e w4 ⟨g4, c4, rfl, ho4, hb4'⟩; have hb4 := hb3.trans (hb4'.mono hb3.size))
      | (go_at_call 70; refine (equal_any (some ⟨g3, 0, none⟩) (some ⟨g4, 0, none⟩) c3 c4 (lcL k zs) (unbeaten leG zs) _ ((OwnN.ints ho3).below hb4' |>.mono hb4'.size) (OwnN.ints ho4) (by omega) (by omega)).mono ?_; rintro e w5 ⟨rfl, hb5'⟩; have hb5 := hb4.trans (hb5'.mono hb4.size)))
  have HD := Lib.hid (HB0.out.drew.trans (hb5.mono (show w.heap.size ≤ W1.heap.size from Nat.le_of_lt Z1.out)))
  clear hb2 hb3 hb4 hb5 hb3' hb4' hb5' ho3 ho4
  go_wp2
  go_ret
  exact ⟨by simp, HD.out⟩

theorem specCoverOwn_any (m : Int) (a : Option Addr) (c : Nat) (zs : List Int) (w : World) (ha : Ints w w.heap.size a zs) (hx : zs.length ≤ 1048576) :
    Calls Tryd.prog 35 #[.agg #[.int .i64 m, .slice a zs.length c]] w fun e w' => e = .returned (.bool (ownB m zs)) ∧ Below w.heap.size w w' := by
  unfold ownB
  cases hf : famIn m zs
  · exact specCoverOwn_no m a c zs w ha hx hf
  · obtain ⟨k, rfl, -⟩ := fam_nat hf
    exact specCoverOwn_yes k a c zs w ha hx hf

end Go.Proofs.YtcmpjegfikdofaaDoor

/- It is proved what CoverGreedy of the reference model returns; conditions: those of each statement. -/
namespace Go.Proofs.YtcmpjegfikdofaaDoor
open Go.RowKit

theorem dgN_snoc (zs : List Int) (z : Int) (s v : Nat) : dgN (zs ++ [z]) s v = dgN zs s v + if z.toNat &&& s = 0 ∧ z.toNat.testBit v = true then 1 else 0 := by
  unfold dgN
  rw [missL_snoc, List.filter_append, List.length_append]
  by_cases h : z.toNat &&& s = 0
  · cases h2 : z.toNat.testBit v <;> simp [h, h2]
  · simp [h]

theorem cov_full {k : Nat} {zs : List Int} (hz : Sets k zs) : covB zs (2 ^ k - 1) = !(zs.any fun z => z == 0) := by
  rw [Bool.eq_iff_iff, covB_iff, Bool.not_eq_true', List.any_eq_false]
  constructor
  · intro h z hzm e
    rw [beq_iff_eq] at e
    exact h z hzm (by rw [e]; simp)
  · intro h z hzm
    have h1 := h z hzm
    rw [beq_iff_eq] at h1
    obtain ⟨h2, h3⟩ := hz z hzm
    rw [sub_full h3]
    omega

attribute [local go_sem] Oper.semAt_some
set_option maxRecDepth 100000 in
set_option maxHeartbeats 4000000 in
theorem specGreedy_no (m : Int) (a : Option Addr) (c : Nat) (zs : List Int) (w : World) (ha : Ints w w.heap.size a zs) (hx : zs.length ≤ 1048576) (hf : famIn m zs = false) :
    Calls Tryd.prog 30 #[.agg #[.int .i64 m, .slice a zs.length c]] w (RetIB w 0 false) := by
  have HB0 := Lib.hid (below1 w (.cells #[.int .i64 m, .slice a zs.length c] 25))
  obtain ⟨W1, hW1, b0, hs1⟩ : ∃ W1, w.alloc (.cells #[.int .i64 m, .slice a zs.length c] 25) = W1 ∧ HasBlk W1 w.heap.size #[.int .i64 m, .slice a zs.length c] 25 ∧ W1.heap.size = w.heap.size + 1 := ⟨_, rfl, alloc_new w _, by simp⟩
  rw [hW1] at HB0
  have HA := Lib.hid ((ha.below HB0.out).mono (show w.heap.size ≤ W1.heap.size by omega))
  have B0 := Lib.hid b0
  have HS1 := Lib.hid hs1
  have HF := Lib.hid hf
  have hmx : Tryd.prog.follows .mixedOrders = true := by kernel_rfl
  clear ha b0 hs1 hf
  refine (callsIn_wide (n := 6)).1 ?_
  refine callsIn_of_wp Tryd.func30 rfl trivial ?_ rfl
  simp only [Tryd.ntmps30, List.size_toArray, List.length_cons, List.length_nil, Nat.reduceAdd, Nat.reduceSub, Array.replicate_succ, Array.replicate_zero, List.push_toArray, List.append_toArray, List.nil_append, List.cons_append]
  gi_wp2
  clear hW1
  refine wpIn_region_held (A := fun ls => { tmps := #[.agg #[.int .i64 m, .slice a zs.length c], .pointer (some ⟨w.heap.size, 0, none⟩), .int .i64 0, .bool false, undef, undef, undef, undef, undef, undef, bif ls.getD 0 false then .agg #[.int .i64 m, .slice a zs.length c] else undef, bif ls.getD 1 false then .bool false else undef, bif ls.getD 2 false then .bool true else undef, bif ls.getD 3 false then .bool true else undef, undef, undef, undef, undef, undef, undef, bif ls.getD 10 false then .bool true else undef, undef, undef, undef, undef, undef, undef, undef, undef, undef, undef, undef, undef, undef, undef, undef, undef, undef, undef, undef, undef, undef, undef, undef, undef, undef, undef, undef, undef, undef, undef, undef, undef, undef, undef, undef, undef, undef, undef, undef, undef, undef, undef, undef, undef, undef, undef], defers := [] }) (S := fun _ W' => Below W1.heap.size W1 W') hmx (by kernel_rfl) rfl (Below.refl _ _).drew ?step ?fin
  case step =>
    intro listed W' i hsz hi hB
    obtain ⟨l0, l1, l2, l3, l4, l5, l6, l7, l8, l9, l10, rfl⟩ := arr11 listed hsz
    obtain ⟨hi1, hi2⟩ := List.mem_filter.1 hi
    have hi11 : i < 11 := by simpa using hi1
    have b2 := (hB.block _ (lt_of_some B0.out)).trans B0.out
    have x0 := (blk_cell b2 0).trans (cell2_0 _ _)
    have x1 := (blk_cell b2 1).trans (cell2_1 _ _)
    have HBW := Lib.hid hB
    clear hB b2
    have hcase : i = 0 ∨ i = 1 ∨ i = 2 ∨ i = 3 ∨ i = 4 ∨ i = 5 ∨ i = 6 ∨ i = 7 ∨ i = 8 ∨ i = 9 ∨ i = 10 := by omega
    rcases hcase with rfl | rfl | rfl | rfl | rfl | rfl | rfl | rfl | rfl | rfl | rfl
    · refine wpOpIn_of_list rfl ?_
      gi_wp2
      first | exact ⟨rfl, HBW.out⟩ | (refine ⟨trivial, ?_⟩; first | exact ⟨rfl, HBW.out⟩ | (gi_wp2; exact ⟨rfl, HBW.out⟩))
    · have h0 : l0 = true := by simp [Region.binds] at hi2; simp_all
      subst h0
      have HFI := Lib.hid (specFamilyIn_any m a c zs W' ((HA.out.below HBW.out).mono HBW.out.size) hx)
      refine wpOpIn_of_list rfl ?_
      gi_wp2_with (refine ⟨trivial, ?_⟩; gi_at_call 46; refine (callsIn_wide.2 HFI.out).mono ?_; rintro e w9 ⟨rfl, hb9⟩; rw [HF.out])
      exact ⟨rfl, HBW.out.trans (hb9.mono HBW.out.size)⟩
    · have h1 : l1 = true := by simp [Region.binds] at hi2; simp_all
      subst h1
      refine wpOpIn_of_list rfl ?_
      gi_wp2
      first | exact ⟨rfl, HBW.out⟩ | (refine ⟨trivial, ?_⟩; first | exact ⟨rfl, HBW.out⟩ | (gi_wp2; exact ⟨rfl, HBW.out⟩))
    · have h2 : l2 = true := by simp [Region.binds] at hi2; simp_all
      subst h2
      refine wpOpIn_of_list rfl ?_
      gi_wp2
      first | exact ⟨rfl, HBW.out⟩ | (refine ⟨trivial, ?_⟩; first | exact ⟨rfl, HBW.out⟩ | (gi_wp2; exact ⟨rfl, HBW.out⟩))
    · have h3 : l3 = true := by simp [Region.binds] at hi2; simp_all
      subst h3
      refine wpOpIn_of_list rfl ?_
      gi_wp2
      first | exact ⟨rfl, HBW.out⟩ | (refine ⟨trivial, ?_⟩; first | exact ⟨rfl, HBW.out⟩ | (gi_wp2; exact ⟨rfl, HBW.out⟩))
    · have h3 : l3 = true := by simp [Region.binds] at hi2; simp_all
      subst h3
      refine wpOpIn_of_list rfl ?_
      gi_wp2
      first | exact ⟨rfl, HBW.out⟩ | (refine ⟨trivial, ?_⟩; first | exact ⟨rfl, HBW.out⟩ | (gi_wp2; exact ⟨rfl, HBW.out⟩))
    · have h3 : l3 = true := by simp [Region.binds] at hi2; simp_all
      subst h3
      refine wpOpIn_of_list rfl ?_
      gi_wp2
      first | exact ⟨rfl, HBW.out⟩ | (refine ⟨trivial, ?_⟩; first | exact ⟨rfl, HBW.out⟩ | (gi_wp2; exact ⟨rfl, HBW.out⟩))
    · have h3 : l3 = true := by simp [Region.binds] at hi2; simp_all
      subst h3
      refine wpOpIn_of_list rfl ?_
      gi_wp2
      first | exact ⟨rfl, HBW.out⟩ | (refine ⟨trivial, ?_⟩; first | exact ⟨rfl, HBW.out⟩ | (gi_wp2; exact ⟨rfl, HBW.out⟩))
    · have h3 : l3 = true := by simp [Region.binds] at hi2; simp_all
      subst h3
      refine wpOpIn_of_list rfl ?_
      gi_wp2
      first | exact ⟨rfl, HBW.out⟩ | (refine ⟨trivial, ?_⟩; first | exact ⟨rfl, HBW.out⟩ | (gi_wp2; exact ⟨rfl, HBW.out⟩))
    · have h3 : l3 = true := by simp [Region.binds] at hi2; simp_all
      subst h3
      refine wpOpIn_of_list rfl ?_
      gi_wp2
      first | exact ⟨rfl, HBW.out⟩ | (refine ⟨trivial, ?_⟩; first | exact ⟨rfl, HBW.out⟩ | (gi_wp2; exact ⟨rfl, HBW.out⟩))
    · have h3 : l3 = true := by simp [Region.binds] at hi2; simp_all
      subst h3
      refine wpOpIn_of_list rfl ?_
      gi_wp2
      first | exact ⟨rfl, HBW.out⟩ | (refine ⟨trivial, ?_⟩; first | exact ⟨rfl, HBW.out⟩ | (gi_wp2; exact ⟨rfl, HBW.out⟩))
  case fin =>
    intro listed W' hsz hall hB
    obtain ⟨l0, l1, l2, l3, l4, l5, l6, l7, l8, l9, l10, rfl⟩ := arr11 listed hsz
    simp at hall
    obtain ⟨rfl, rfl, rfl, rfl, rfl, rfl, rfl, rfl, rfl, rfl, rfl⟩ := hall
    have HBW := Lib.hid (HB0.out.trans (hB.mono (by have := HS1.out; omega)))
    clear hB
    gi_wp2
    refine bodyPost_ret (results_tmp2 rfl _ _ _) rfl ?_
    exact ⟨rfl, HBW.out⟩

set_option maxRecDepth 100000 in
set_option maxHeartbeats 8000000 in
theorem specGreedy_yes (k : Nat) (a : Option Addr) (c : Nat) (zs : List Int) (w : World) (ha : Ints w w.heap.size a zs) (hf : famIn (k : Int) zs = true) :
    Calls Tryd.prog 30 #[.agg #[.int .i64 (k : Int), .slice a zs.length c]] w (RetIB w (greZ (k : Int) zs) (greIn (k : Int) zs)) := by
  have HB0 := Lib.hid (below1 w (.cells #[.int .i64 (k : Int), .slice a zs.length c] 25))
  obtain ⟨W1, hW1, b0, hs1⟩ : ∃ W1, w.alloc (.cells #[.int .i64 (k : Int), .slice a zs.length c] 25) = W1 ∧ HasBlk W1 w.heap.size #[.int .i64 (k : Int), .slice a zs.length c] 25 ∧ W1.heap.size = w.heap.size + 1 := ⟨_, rfl, alloc_new w _, by simp⟩
  rw [hW1] at HB0
  obtain ⟨k', ek, hk1, hk6, hset, hl8⟩ := fam_nat2 hf
  obtain rfl : k = k' := by omega
  have hA : Ints W1 W1.heap.size a zs := (ha.below HB0.out).mono (show w.heap.size ≤ W1.heap.size by omega)
  have hFI := specFamilyIn_any (k : Int) a c zs W1.drew hA (by omega)
  rw [hf] at hFI
  have HFI := Lib.hid hFI
  have HA : Hid (Ints W1.drew W1.drew.heap.size a zs) := Lib.hid hA
  have HSET := Lib.hid hset
  have HZ6 : Hid (∀ z ∈ zs, 0 ≤ z ∧ z.toNat < 64) := Lib.hid (fun z h => ⟨(hset z h).1, p64 hk6 (hset z h).2⟩)
  have x0 := (blk_cell b0 0).trans (cell2_0 _ _)
  have x1 := (blk_cell b0 1).trans (cell2_1 _ _)
  have B0 := Lib.hid b0
  have Z1 := Lib.hid (show w.heap.size < W1.heap.size by omega)
  have hk1I : (1 : Int) ≤ (k : Int) := by omega
  have hk6I : (k : Int) ≤ 6 := by omega
  have hp64 : 2 ^ k ≤ 64 := Nat.pow_le_pow_right (n := 2) (by decide) hk6
  have hpp : 0 < 2 ^ k := Nat.two_pow_pos k
  have HFU : Hid (fullI (k : Int) = ((2 ^ k - 1 : Nat) : Int)) := Lib.hid (by unfold fullI; rw [cast_full]; simp)
  have HCF := Lib.hid (cov_full hset)
  have HGI : Hid (greIn (k : Int) zs = !(zs.any fun z => z == 0)) := Lib.hid (by unfold greIn; rw [hf]; rfl)
  have HGZ : Hid (greZ (k : Int) zs = if greIn (k : Int) zs then ((grG k zs zs.length 0 : Nat) : Int) else 0) := Lib.hid (by unfold greZ; rw [Int.toNat_natCast])
  have HL20 : Hid (zs.length ≤ 1048576) := Lib.hid (by omega)
  obtain ⟨FU, hFU⟩ : ∃ FU, FU = 2 ^ k - 1 := ⟨_, rfl⟩
  rw [← hFU] at HFU HCF
  have hFU64 : FU < 64 := by omega
  obtain ⟨ok, hok⟩ : ∃ ok, ok = zs.any fun z => z == 0 := ⟨_, rfl⟩
  rw [← hok] at HCF HGI
  have HOK := Lib.hid hok
  clear ha hA b0 hs1 hf hFI hset ek hFU hok
  go_enter Tryd.func30, Tryd.ntmps30
  go_wp2
  clear hW1
  go_region_held3 (fun w' => w'.cell? ⟨w.heap.size, 0, none⟩ = some (.int .i64 (k : Int)) ∧ w'.cell? ⟨w.heap.size, 1, none⟩ = some (.slice a zs.length c))
    (first
      | exact ⟨x0, x1⟩
      | exact ⟨(hb2.cell (p := ⟨w.heap.size, 0, none⟩) Z1.out).trans x0, (hb2.cell (p := ⟨w.heap.size, 1, none⟩) Z1.out).trans x1⟩
      | exact ⟨(hb3.cell (p := ⟨w.heap.size, 0, none⟩) Z1.out).trans x0, (hb3.cell (p := ⟨w.heap.size, 1, none⟩) Z1.out).trans x1⟩)
    (first
      | (go_at_call 46; refine HFI.out.mono ?_; rintro e w2 ⟨rfl, hb2⟩)
      | (go_at_call 64; refine (l1All_b (k : Int) a zs.length c _ hk1I hk6I).mono ?_; rintro e w3 ⟨rfl, hb3'⟩; have hb3 := hb2.trans (hb3'.mono hb2.size); rw [HFU.out])
      | (go_at_call 63; refine (l4In_any a c zs FU _ ((HA.out.below hb3).mono hb3.size) (by omega) HZ6.out hFU64).mono ?_; rintro e w4 ⟨rfl, rfl⟩; rw [HCF.out]))
  rename_i hHeldX
  clear hHeldX
  have HB3 := Lib.hid (HB0.out.drew.trans (hb3.mono (show w.heap.size ≤ W1.heap.size from Nat.le_of_lt Z1.out)))
  have b3 : HasBlk w3 w.heap.size #[.int .i64 (k : Int), .slice a zs.length c] 25 := (hb3.block _ (show w.heap.size < W1.drew.heap.size from Z1.out)).trans (show W1.drew.heap[w.heap.size]? = _ from B0.out)
  have hI3 : Ints w3 w3.heap.size a zs := (HA.out.below hb3).mono hb3.size
  have hin : ∀ s : Nat, s < 64 → Calls Tryd.prog 63 #[.slice a zs.length c, .int .i64 (s : Int)] w3 fun e w' => e = .returned (.bool (covB zs s)) ∧ w3 = w' := fun s hs => l4In_any a c zs s w3 hI3 HL20.out HZ6.out hs
  clear hb2 hb3 hb3' x0 x1
  cases ok
  case true =>
    go_wp2
    go_ret2
    exact ⟨by rw [HGZ.out, HGI.out]; rfl, HB3.out⟩
  case false =>
    have HPOS := Lib.hid (gre_sets HSET.out HOK.out.symm)
    have HGE : Hid (greZ (k : Int) zs = ((grG k zs zs.length 0 : Nat) : Int)) := Lib.hid (by rw [HGZ.out, HGI.out]; rfl)
    have HGT : Hid (greIn (k : Int) zs = true) := Lib.hid HGI.out
    obtain ⟨G, hG⟩ : ∃ G, G = grG k zs zs.length 0 := ⟨_, rfl⟩
    rw [← hG] at HGE
    obtain ⟨Y, hY⟩ : ∃ Y, Y = zs.length := ⟨_, rfl⟩
    have HY := Lib.hid hY
    have hY8 : Y ≤ 8 := by omega
    rw [← hY] at b3 hin hG
    have HG := Lib.hid hG
    have HIN := Lib.hid hin
    have HI3 := Lib.hid hI3
    have y0 := (blk_cell b3 0).trans (cell2_0 _ _)
    have y1 := (blk_cell b3 1).trans (cell2_1 _ _)
    clear hin hI3 b3 hY hG HCF HGI HGZ HFI HFU hl8
    go_wp2
    go_loop [4] (fun t => ∃ n s : Nat, t = .int .i64 (s : Int) ∧ s < 2 ^ k ∧ (missL zs s).length ≤ n ∧ grG k zs n s = G) (fun t => (missL zs (intOf t).toNat).length)
    case atStart => exact ⟨Y, 0, rfl, hpp, by rw [HY.out]; exact missL_len _ _, HG.out.symm⟩
    case round =>
      obtain ⟨n, s, rfl, hs, hn, hg⟩ := hrel
      have hs64 : s < 64 := by omega
      have HL := Lib.hid (HIN.out s hs64)
      have HN := Lib.hid hn
      have HGR := Lib.hid hg
      have HS := Lib.hid hs
      clear hn hg hs
      cases hc : covB zs s
      case true =>
        have HGS : Hid (G = s) := Lib.hid (by rw [← HGR.out, grG_cov hc])
        have HC := Lib.hid hc
        clear hc
        go_wp2_with (go_at_call 63; refine HL.out.mono ?_; rintro e w4 ⟨rfl, rfl⟩; rw [HC.out])
        go_ret2
        exact ⟨by rw [HGE.out, HGT.out, HGS.out]; rfl, HB3.out⟩
      case false =>
        obtain ⟨g1, g2, g3, g4⟩ := greedy_step HPOS.out HS.out hc
        obtain ⟨n', rfl⟩ : ∃ n', n = n' + 1 := ⟨n - 1, by have := HN.out; omega⟩
        have HG2 : Hid (grG k zs n' (nxG k zs s) = G) := Lib.hid (by rw [← grG_step hc]; exact HGR.out)
        have HN2 : Hid ((missL zs (nxG k zs s)).length ≤ n') := Lib.hid (by have := HN.out; omega)
        have HM3 := Lib.hid g3
        have HS4 := Lib.hid g4
        have HC := Lib.hid hc
        have HNX : Hid (nxG k zs s = s ||| 2 ^ (bestP (dgN zs s) k).1) := Lib.hid rfl
        have HD8 : Hid (∀ xs, xs.length ≤ 8 → ∀ v, dgN xs s v ≤ 8) := Lib.hid (fun xs h v => Nat.le_trans (dgN_le xs s v) h)
        have HBS : Hid (∀ j, (bestP (dgN zs s) j).2 ≤ 8 ∧ (bestP (dgN zs s) j).1 ≤ j) := Lib.hid (fun j => bestP_small _ 8 (fun v => Nat.le_trans (dgN_le zs s v) (by have := HY.out; omega)) j)
        have HG1 := Lib.hid g1
        clear hc g1 g2 g3 g4
        go_wp2_with (go_at_call 63; refine HL.out.mono ?_; rintro e w4 ⟨rfl, rfl⟩; rw [HC.out])
        go_loop [5, 6, 7] (fun b t v => ∃ j B M : Nat, j ≤ k ∧ v = .int .i64 (j : Int) ∧ b = .int .i64 (B : Int) ∧ t = .int .i64 (M : Int) ∧ bestP (dgN zs s) j = (B, M)) (fun _ _ v => k - (intOf v).toNat)
        case atStart => exact ⟨0, 0, 0, Nat.zero_le _, rfl, rfl, rfl, rfl⟩
        case round =>
          obtain ⟨j, B, M, hj, rfl, rfl, rfl, hbm⟩ := hrel
          have hbs := HBS.out j
          rw [hbm] at hbs
          obtain ⟨hM8, hBj⟩ := hbs
          have HBM := Lib.hid hbm
          clear hbm
          by_cases hjk : j < k
          · have hj0 : (0 : Int) ≤ (j : Int) := by omega
            have hj64 : (j : Int) < 64 := by omega
            have hjI : (j : Int) < (k : Int) := by omega
            go_wp2
            go_loop [8, 9] (fun t i => ∃ q D : Nat, q ≤ Y ∧ i = .int .i64 (q : Int) ∧ t = .int .i64 (D : Int) ∧ D = dgN (zs.take q) s j) (fun _ i => Y - (intOf i).toNat)
            case atStart => exact ⟨0, 0, Nat.zero_le _, rfl, rfl, by rw [List.take_zero]; rfl⟩
            case round =>
              obtain ⟨q, D, hq, rfl, rfl, hD⟩ := hrel
              have hD8 : D ≤ 8 := by rw [hD]; exact HD8.out _ (by rw [List.length_take]; omega) _
              have HD := Lib.hid hD
              clear hD
              by_cases hqY : q < Y
              · have hql : q < zs.length := by rw [← HY.out]; exact hqY
                obtain ⟨b1, o1, rfl, hb1, hc1⟩ := HI3.out.at_ (k := q) hql
                have htk : zs.take (q + 1) = zs.take q ++ [zs[q]?.getD 0] := by rw [List.take_succ_eq_append_getElem hql, List.getElem?_eq_getElem hql]; rfl
                obtain ⟨z0, z1⟩ := HZ6.out _ (at_in hql)
                obtain ⟨z, hz⟩ : ∃ z : Nat, zs[q]?.getD 0 = (z : Int) := ⟨(zs[q]?.getD 0).toNat, by omega⟩
                rw [hz] at htk hc1
                rw [hz, Int.toNat_natCast] at z1
                have hnx := dgN_snoc (zs.take q) (z : Int) s j
                rw [← htk, ← HD.out, Int.toNat_natCast] at hnx
                have HNX2 := Lib.hid hnx
                have HA6 := and6_at z s z1 hs64
                have hbv := bit_val (S := z) (v := j) z1 (by omega)
                have hqI : (q : Int) < (Y : Int) := by omega
                clear hnx htk hz z0 hql hb1
                by_cases h0 : z &&& s = 0
                · rw [h0] at HA6
                  cases htb : z.testBit j
                  · rw [htb] at hbv
                    simp only [Bool.false_eq_true, if_false] at hbv
                    have HE : Hid (D = dgN (zs.take (q + 1)) s j) := Lib.hid (by rw [HNX2.out, htb]; simp)
                    clear h0 htb
                    go_wp2
                    go_round
                    case rel => exact ⟨q + 1, D, by omega, by go_num, by go_num, HE.out⟩
                    case measure => simp [intOf]; omega
                  · rw [htb] at hbv
                    simp only [if_true] at hbv
                    have HE : Hid (D + 1 = dgN (zs.take (q + 1)) s j) := Lib.hid (by rw [HNX2.out, htb, h0]; simp)
                    clear h0 htb
                    go_wp2
                    go_round
                    case rel => exact ⟨q + 1, D + 1, by omega, by go_num, by go_num, HE.out⟩
                    case measure => simp [intOf]; omega
                · have HE : Hid (D = dgN (zs.take (q + 1)) s j) := Lib.hid (by rw [HNX2.out, if_neg (fun h => h0 h.1)]; rfl)
                  obtain ⟨u, hu⟩ : ∃ u, u = z &&& s := ⟨_, rfl⟩
                  rw [← hu] at HA6 h0
                  have hu0 : ((u : Int) == 0) = false := by rw [beq_eq_false_iff_ne]; omega
                  clear h0 hu hbv
                  go_wp2
                  go_round
                  case rel => exact ⟨q + 1, D, by omega, by go_num, by go_num, HE.out⟩
                  case measure => simp [intOf]; omega
              · obtain rfl : q = Y := by omega
                have hDD : D = dgN zs s j := by rw [HD.out, List.take_of_length_le (by rw [HY.out]; exact Nat.le_refl _)]
                have hb1 : bestP (dgN zs s) (j + 1) = if M < D then (j, D) else (B, M) := by rw [bestP, HBM.out, ← hDD]
                clear hDD
                by_cases hMD : M < D
                · have HB1 : Hid (bestP (dgN zs s) (j + 1) = (j, D)) := Lib.hid (by rw [hb1, if_pos hMD])
                  have hMI : (M : Int) < (D : Int) := by omega
                  clear hb1
                  go_wp2
                  go_round
                  case rel => exact ⟨j + 1, j, D, by omega, by go_num, rfl, rfl, HB1.out⟩
                  case measure => simp [intOf]; omega
                · have HB1 : Hid (bestP (dgN zs s) (j + 1) = (B, M)) := Lib.hid (by rw [hb1, if_neg hMD])
                  have hMI : ¬ ((M : Int) < (D : Int)) := by omega
                  clear hb1
                  go_wp2
                  go_round
                  case rel => exact ⟨j + 1, B, M, by omega, by go_num, rfl, rfl, HB1.out⟩
                  case measure => simp [intOf]; omega
          · obtain rfl : j = k := by omega
            have HNX3 : Hid (nxG j zs s = s ||| 2 ^ B) := Lib.hid (by rw [HNX.out, HBM.out])
            have hB6 : B < j := by have := HG1.out; rw [HBM.out] at this; exact this
            have hor := orP_at hs64 (show B < 6 by omega)
            have hp2 := p2_small B (by omega)
            have hpw : IntKind.i64.wrap ((2 : Int) ^ B) = (2 : Int) ^ B := by rw [IntKind.wrap_i64]; omega
            have hB0 : (0 : Int) ≤ (B : Int) := by omega
            have hB64 : (B : Int) < 64 := by omega
            go_wp2
            go_round
            case rel => exact ⟨n', s ||| 2 ^ B, rfl, by rw [← HNX3.out]; exact HS4.out, by rw [← HNX3.out]; exact HN2.out, by rw [← HNX3.out]; exact HG2.out⟩
            case measure => simp only [intOf, Int.toNat_natCast]; rw [← HNX3.out]; exact HM3.out

theorem specGreedy_any (m : Int) (a : Option Addr) (c : Nat) (zs : List Int) (w : World) (ha : Ints w w.heap.size a zs) (hx : zs.length ≤ 1048576) :
    Calls Tryd.prog 30 #[.agg #[.int .i64 m, .slice a zs.length c]] w (RetIB w (greZ m zs) (greIn m zs)) := by
  cases hf : famIn m zs
  · rw [show greZ m zs = 0 from by unfold greZ greIn; rw [hf]; rfl, show greIn m zs = false from by unfold greIn; rw [hf]; rfl]
    exact specGreedy_no m a c zs w ha hx hf
  · obtain ⟨k, rfl, -⟩ := fam_nat2 hf
    exact specGreedy_yes k a c zs w ha hf

end Go.Proofs.YtcmpjegfikdofaaDoor
