/- It is proved what CoverIn of the program and of the reference model returns; conditions: those of each statement. -/
import Derived.RowKit
import Derived.Laws.CopyRow
import Derived.Lib.SlBuf
import Derived.Deep.QuietTactic
import Derived.RangeFuncNested
import Derived.RangeFuncBound
import Derived.RangeFuncCalls
import Derived.RangeFuncLeaves
import Derived.RangeFuncBox
import Derived.RangeFuncWrites
import Derived.StillTailTactics
import Derived.Maps.OwnIn
import Derived.Maps.Ext
import Derived.DeepKeys4
import Derived.MapKept
import Derived.Test.YtmojkeokkebbfaaDoorRows
import Derived.WalkKit
import Derived.WalkSpells
import Derived.ProofKit
import Derived.OpenShut
import Derived.ShutString
import Derived.ChangeOld
import Derived.Below
import Derived.Deep.RegionHeld3
import Derived.BigQuiet
import Derived.Lib.Hide
import Derived.Lib.SmallJoins
import Derived.Outline
import Derived.Laws.MakeOwn
import Derived.Laws.OwnMore
import Derived.IntWalk
import Derived.Lib.AppendZeros
import Derived.Maps.AppendAt
import Derived.Deep.AppendLies
import Derived.OwnWalk
import Derived.Lib.SlicesCompact
import Derived.Lib.OwnBridge
import Derived.OrdersIn
import Derived.TacticsIn
import Derived.Shelf.Sort.Plain
import Derived.Shelf.Slices.In.SortNone
import Derived.Shelf.Slices.CompactI
import Derived.Ground.Names2Prog
import Derived.Lib.SliceRun
import Derived.Shelf.Abstract
import Derived.Shelf.RegionOpen
import Derived.OwnWalkIn
import Derived.TacticsInMore
import Derived.LoopNIn
import Derived.LoopIn
import Derived.StillTail
import Derived.StillTactics
import Derived.Shelf.Spec.TrailingZeros
import Derived.Test.YtmojkeokkebbfaaDoorMzaa
import Derived.Test.YtmojkeokkebbfaaDoorMzad
import Derived.Test.YtmojkeokkebbfaaDoorMzae
import Derived.Test.YtmojkeokkebbfaaDoorMzaw
import Derived.Test.YtmojkeokkebbfaaDoorMzaf
import Derived.Test.YtmojkeokkebbfaaDoorMzap
import Derived.Test.YtmojkeokkebbfaaDoorKc
import Derived.Test.YtmojkeokkebbfaaDoorMzat
import Derived.Shelf.Slices.Reverse
import Derived.Sort.MapsRangeIn
import Derived.Test.YtmojkeokkebbfaaDoorHs
import Derived.Test.YtmojkeokkebbfaaDoorMzag
namespace Go.Proofs.YtmojkeokkebbfaaDoor
open Go.RowKit

/-- A set is a cover, or something is not as told. -/
def inCov (m : Int) (zs : List Int) (x : Int) : Bool := famIn m zs && (inB x 0 (fullI m) && covB zs x.toNat)

theorem set_nat {k : Nat} {x : Int} (h : inB x 0 (fullI (k : Int)) = true) : ∃ s : Nat, x = (s : Int) ∧ s < 2 ^ k := by
  obtain ⟨h1, h2⟩ := inB_out h
  unfold fullI at h2
  rw [Int.toNat_natCast] at h2
  have e : (2 : Int) ^ k = ((2 ^ k : Nat) : Int) := by norm_cast
  exact ⟨x.toNat, by omega, by omega⟩

theorem fam_nat2 {m : Int} {zs : List Int} (h : famIn m zs = true) : ∃ k : Nat, m = (k : Int) ∧ 1 ≤ k ∧ k ≤ 6 ∧ Sets k zs ∧ zs.length ≤ 8 := by
  obtain ⟨h1, h2, h3, -⟩ := famIn_out h
  obtain ⟨k, rfl⟩ : ∃ k : Nat, m = (k : Int) := ⟨m.toNat, by omega⟩
  exact ⟨k, rfl, by omega, by omega, sets_of_fam h, h3⟩

set_option maxRecDepth 100000 in
set_option maxHeartbeats 2000000 in
theorem implCoverIn_any (m : Int) (a : Option Addr) (c : Nat) (zs : List Int) (x : Int) (w : World) (ha : Ints w w.heap.size a zs) (hx : zs.length ≤ 1048576) :
    Calls Tryd.prog 13 #[.agg #[.int .i64 m, .slice a zs.length c], .int .i64 x] w fun e w' => e = .returned (.bool (inCov m zs x)) ∧ Below w.heap.size w w' := by
  unfold inCov
  have HB0 := Lib.hid (below1 w (.cells #[.int .i64 m, .slice a zs.length c] 25))
  have HA := Lib.hid (ha.below HB0.out)
  clear ha
  cases hf : famIn m zs
  · have HF := Lib.hid hf
    clear hf
    go_enter Tryd.func13, Tryd.ntmps13
    go_wp2_with fail
    refine (implFamilyIn_any _ _ _ zs _ (HA.out.mono (by simp)) hx).mono ?_
    rintro e w1 ⟨rfl, hb⟩
    rw [HF.out]
    have HB := Lib.hid (HB0.out.trans (hb.mono (by simp)))
    clear hb
    go_wp2
    go_ret
    exact ⟨rfl, HB.out⟩
  · have HF := Lib.hid hf
    obtain ⟨k, rfl, hk1, hk6, hset, hl8⟩ := fam_nat2 hf
    have hk1I : (1 : Int) ≤ (k : Int) := by omega
    have hk6I : (k : Int) ≤ 6 := by omega
    clear hf
    cases hs : inB x 0 (fullI (k : Int))
    · have HS := Lib.hid hs
      clear hs
      go_enter Tryd.func13, Tryd.ntmps13
      go_wp2_with fail
      refine (implFamilyIn_any _ _ _ zs _ (HA.out.mono (by simp)) hx).mono ?_
      rintro e w1 ⟨rfl, hb⟩
      rw [HF.out]
      have b0 : w1.heap[w.heap.size]? = some (.cells #[.int .i64 (k : Int), .slice a zs.length c] 25 (0, 0)) := (hb.block _ (by simp)).trans (alloc_new w _)
      have x0 := (blk_cell b0 0).trans (cell2_0 _ _)
      have HB := Lib.hid (HB0.out.trans (hb.mono (by simp)))
      clear hb b0
      go_wp2_with (go_at_call 48; refine (setIn_any _ _ _ hk1I hk6I).mono ?_; rintro e w' ⟨rfl, rfl⟩; rw [HS.out])
      go_ret
      exact ⟨rfl, HB.out⟩
    · have HS := Lib.hid hs
      obtain ⟨s, rfl, hs2⟩ := set_nat hs
      have hs64 := p64 hk6 hs2
      clear hs
      go_enter Tryd.func13, Tryd.ntmps13
      go_wp2_with fail
      refine (implFamilyIn_any _ _ _ zs _ (HA.out.mono (by simp)) hx).mono ?_
      rintro e w1 ⟨rfl, hb⟩
      rw [HF.out]
      have b0 : w1.heap[w.heap.size]? = some (.cells #[.int .i64 (k : Int), .slice a zs.length c] 25 (0, 0)) := (hb.block _ (by simp)).trans (alloc_new w _)
      have x0 := (blk_cell b0 0).trans (cell2_0 _ _)
      have x1 := (blk_cell b0 1).trans (cell2_1 _ _)
      have z1 : w.heap.size < w1.heap.size := lt_of_some b0
      have HC := Lib.hid (coveredBy_any k hk6 a c zs s hs64 w1 ((HA.out.below (hb.mono (by simp))).mono (by omega)) (by omega) hset)
      have HB := Lib.hid (HB0.out.trans (hb.mono (by simp)))
      have Z1 := Lib.hid z1
      clear hb b0 z1
      go_wp2_with (first
        | (go_at_call 48; refine (setIn_any _ _ _ hk1I hk6I).mono ?_; rintro e w' ⟨rfl, rfl⟩; rw [HS.out])
        | (go_at_call 49; refine HC.out.mono ?_; rintro e w2 ⟨rfl, hb2⟩))
      go_ret
      exact ⟨by simp, HB.out.trans (hb2.mono (by have := Z1.out; omega))⟩

set_option maxRecDepth 100000 in
set_option maxHeartbeats 2000000 in
theorem specCoverIn_any (m : Int) (a : Option Addr) (c : Nat) (zs : List Int) (x : Int) (w : World) (ha : Ints w w.heap.size a zs) (hx : zs.length ≤ 1048576) :
    Calls Tryd.prog 14 #[.agg #[.int .i64 m, .slice a zs.length c], .int .i64 x] w fun e w' => e = .returned (.bool (inCov m zs x)) ∧ Below w.heap.size w w' := by
  unfold inCov
  have HB0 := Lib.hid (below1 w (.cells #[.int .i64 m, .slice a zs.length c] 25))
  have HA := Lib.hid (ha.below HB0.out)
  clear ha
  cases hf : famIn m zs
  · have HF := Lib.hid hf
    clear hf
    go_enter Tryd.func14, Tryd.ntmps14
    go_wp2_with fail
    refine (specFamilyIn_any _ _ _ zs _ (HA.out.mono (by simp)) hx).mono ?_
    rintro e w1 ⟨rfl, hb⟩
    rw [HF.out]
    have HB := Lib.hid (HB0.out.trans (hb.mono (by simp)))
    clear hb
    go_wp2
    go_ret
    exact ⟨rfl, HB.out⟩
  · have HF := Lib.hid hf
    obtain ⟨k, rfl, hk1, hk6, hset, hl8⟩ := fam_nat2 hf
    have hk1I : (1 : Int) ≤ (k : Int) := by omega
    have hk6I : (k : Int) ≤ 6 := by omega
    clear hf
    cases hs : inB x 0 (fullI (k : Int))
    · have HS := Lib.hid hs
      clear hs
      go_enter Tryd.func14, Tryd.ntmps14
      go_wp2_with fail
      refine (specFamilyIn_any _ _ _ zs _ (HA.out.mono (by simp)) hx).mono ?_
      rintro e w1 ⟨rfl, hb⟩
      rw [HF.out]
      have b0 : w1.heap[w.heap.size]? = some (.cells #[.int .i64 (k : Int), .slice a zs.length c] 25 (0, 0)) := (hb.block _ (by simp)).trans (alloc_new w _)
      have x0 := (blk_cell b0 0).trans (cell2_0 _ _)
      have x1 := (blk_cell b0 1).trans (cell2_1 _ _)
      have z1 : w.heap.size < w1.heap.size := lt_of_some b0
      have Z1 := Lib.hid z1
      have HB := Lib.hid (HB0.out.trans (hb.mono (by simp)))
      clear hb b0 z1
      go_wp2_with (first
        | (go_at_call 52; refine (l1All_b _ _ _ _ _ hk1I hk6I).mono ?_; rintro e w2 ⟨rfl, hb2⟩)
        | (go_at_call 51; refine (l6In_any _ _ _ _).mono ?_; rintro e w' ⟨rfl, rfl⟩; rw [HS.out]))
      go_ret
      exact ⟨rfl, HB.out.trans (hb2.mono (by have := Z1.out; omega))⟩
    · have HS := Lib.hid hs
      obtain ⟨s, rfl, hs2⟩ := set_nat hs
      have hs64 := p64 hk6 hs2
      clear hs
      go_enter Tryd.func14, Tryd.ntmps14
      go_wp2_with fail
      refine (specFamilyIn_any _ _ _ zs _ (HA.out.mono (by simp)) hx).mono ?_
      rintro e w1 ⟨rfl, hb⟩
      rw [HF.out]
      have b0 : w1.heap[w.heap.size]? = some (.cells #[.int .i64 (k : Int), .slice a zs.length c] 25 (0, 0)) := (hb.block _ (by simp)).trans (alloc_new w _)
      have x0 := (blk_cell b0 0).trans (cell2_0 _ _)
      have x1 := (blk_cell b0 1).trans (cell2_1 _ _)
      have z1 : w.heap.size < w1.heap.size := lt_of_some b0
      have HI := Lib.hid ((HA.out.below (hb.mono (by simp))).mono (B' := w1.heap.size) (by omega))
      have HB := Lib.hid (HB0.out.trans (hb.mono (by simp)))
      have Z1 := Lib.hid z1
      have HZ : Hid (∀ z ∈ zs, 0 ≤ z ∧ z.toNat < 64) := Lib.hid (fun z h => ⟨(hset z h).1, p64 hk6 (hset z h).2⟩)
      clear hb b0 z1
      go_wp2_with (first
        | (go_at_call 52; refine (l1All_b _ _ _ _ _ hk1I hk6I).mono ?_; rintro e w2 ⟨rfl, hb2⟩; have y1 := (hb2.cell (p := ⟨w.heap.size, 1, none⟩) Z1.out).trans x1)
        | (go_at_call 51; refine (l6In_any _ _ _ _).mono ?_; rintro e w' ⟨rfl, rfl⟩; rw [HS.out])
        | (go_at_call 53; refine (l4In_any a c zs s _ ((HI.out.below hb2).mono hb2.size) hx HZ.out hs64).mono ?_; rintro e w' ⟨rfl, rfl⟩))
      go_ret
      exact ⟨by simp, HB.out.trans (hb2.mono (by have := Z1.out; omega))⟩

end Go.Proofs.YtmojkeokkebbfaaDoor

/- It is proved what slices.Reverse does with a list of the call's own, what room returns, and TableIs of the program; conditions: those of each statement. -/
namespace Go.Proofs.YtmojkeokkebbfaaDoor
open Go.RowKit

def revLays_ren : Go.Shelf.Ren := ⟨fun | 112 => 82 | n => n, fun | 28 => 23 | 3 => 3 | 4 => 4 | 0 => 0 | n => n, fun | n => n⟩
theorem revLays : Go.Proofs.Lays.n112 Tryd.prog revLays_ren := {
  mixed := by kernel_rfl
  f112 := Tryd.func82.trans (congrArg some (by kernel_rfl))
  t0 := Tryd.underlying0
  a0 := Tryd.isAgg0
  z0 := Tryd.sizeOf0
  v0 := Tryd.zeroValue0
  t3 := Tryd.underlying3
  a3 := Tryd.isAgg3
  z3 := Tryd.sizeOf3
  v3 := Tryd.zeroValue3
  t4 := Tryd.underlying4
  a4 := Tryd.isAgg4
  z4 := Tryd.sizeOf4
  v4 := Tryd.zeroValue4
  t28 := Tryd.underlying23
  a28 := Tryd.isAgg23
  z28 := Tryd.sizeOf23
  v28 := Tryd.zeroValue23 }

theorem reverse_any (g n cap B : Nat) (zs : List Int) (w : World) (h : OwnN w B (some ⟨g, 0, none⟩) n cap zs) (hn : n ≤ 1048576) :
    Calls Tryd.prog 82 #[.slice (some ⟨g, 0, none⟩) n cap] w fun e w' => e = .returned (.tuple #[]) ∧ OwnN w' B (some ⟨g, 0, none⟩) n cap zs.reverse ∧ w.grownBy w' (some g) := by
  obtain ⟨g', cap', e, hbg, hgl, hnc, hcm, hl, hH⟩ := Lib.holds_of_ownsRow (enc := Value.int .i64) h (by simp)
  injection e with e1 e2 e3
  injection e1 with e1
  injection e1 with e1
  subst e1; subst e3
  have hc := Any.slices_Reverse_int revLays g 0 cap zs w hH (by omega)
  rw [hl] at hc
  refine hc.mono ?_
  rintro e w' ⟨rfl, q, rfl⟩
  refine ⟨rfl, ?_, grownBy_put w g q _⟩
  have h1 := Lib.ownsRow_putRow (enc := Value.int .i64) (q := q) (k := n) (ys := zs.reverse) h (by rw [List.length_reverse, hl]) (Nat.le_refl _)
  rw [List.take_of_length_le (by rw [List.length_reverse, hl]; exact Nat.le_refl _)] at h1
  exact h1

end Go.Proofs.YtmojkeokkebbfaaDoor
