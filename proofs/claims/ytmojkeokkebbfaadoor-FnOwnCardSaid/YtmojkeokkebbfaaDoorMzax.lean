/- It is proved what CoverIn of the program and of the reference model returns; conditions: those of each statement. -/
import Derived.RowKit
import Derived.Laws.CopyRow
import Derived.Lib.SlBuf
import Derived.Deep.QuietTactic
import Derived.RangeFuncNested
import Derived.RangeFuncBound
import Derived.RangeFuncCalls
import Derived.RangeFuncLeaves
import Derived.RangeFuncBox
import Derived.RangeFuncWrites
import Derived.StillTailTactics
import Derived.Maps.OwnIn
import Derived.Maps.Ext
import Derived.DeepKeys4
import Derived.MapKept
import Derived.Test.YtmojkeokkebbfaaDoorRows
import Derived.WalkKit
import Derived.WalkSpells
import Derived.ProofKit
import Derived.OpenShut
import Derived.ShutString
import Derived.ChangeOld
import Derived.Below
import Derived.Deep.RegionHeld3
import Derived.BigQuiet
import Derived.Lib.Hide
import Derived.Lib.SmallJoins
import Derived.Outline
import Derived.Laws.MakeOwn
import Derived.Laws.OwnMore
import Derived.IntWalk
import Derived.Lib.AppendZeros
import Derived.Maps.AppendAt
import Derived.Deep.AppendLies
import Derived.OwnWalk
import Derived.Lib.SlicesCompact
import Derived.Lib.OwnBridge
import Derived.OrdersIn
import Derived.TacticsIn
import Derived.Shelf.Sort.Plain
import Derived.Shelf.Slices.In.SortNone
import Derived.Shelf.Slices.CompactI
import Derived.Ground.Names2Prog
import Derived.Lib.SliceRun
import Derived.Shelf.Abstract
import Derived.Shelf.RegionOpen
import Derived.OwnWalkIn
import Derived.TacticsInMore
import Derived.LoopNIn
import Derived.LoopIn
import Derived.StillTail
import Derived.StillTactics
import Derived.Shelf.Spec.TrailingZeros
import Derived.Test.YtmojkeokkebbfaaDoorMzaa
import Derived.Test.YtmojkeokkebbfaaDoorMzad
import Derived.Test.YtmojkeokkebbfaaDoorMzae
import Derived.Test.YtmojkeokkebbfaaDoorMzaw
import Derived.Test.YtmojkeokkebbfaaDoorMzaf
import Derived.Test.YtmojkeokkebbfaaDoorMzao
import Derived.Test.YtmojkeokkebbfaaDoorKc
import Derived.Test.YtmojkeokkebbfaaDoorMzat
import Derived.Test.YtmojkeokkebbfaaDoorMzam
import Derived.Test.YtmojkeokkebbfaaDoorMzan
import Derived.Test.YtmojkeokkebbfaaDoorMzas
namespace Go.Proofs.YtmojkeokkebbfaaDoor
open Go.RowKit

/-- A set is a cover, or something is not as told. -/
def inCov (m : Int) (zs : List Int) (x : Int) : Bool := famIn m zs && (inB x 0 (fullI m) && covB zs x.toNat)

theorem set_nat {k : Nat} {x : Int} (h : inB x 0 (fullI (k : Int)) = true) : ∃ s : Nat, x = (s : Int) ∧ s < 2 ^ k := by
  obtain ⟨h1, h2⟩ := inB_out h
  unfold fullI at h2
  rw [Int.toNat_natCast] at h2
  have e : (2 : Int) ^ k = ((2 ^ k : Nat) : Int) := by norm_cast
  exact ⟨x.toNat, by omega, by omega⟩

theorem fam_nat2 {m : Int} {zs : List Int} (h : famIn m zs = true) : ∃ k : Nat, m = (k : Int) ∧ 1 ≤ k ∧ k ≤ 6 ∧ Sets k zs ∧ zs.length ≤ 8 := by
  obtain ⟨h1, h2, h3, -⟩ := famIn_out h
  obtain ⟨k, rfl⟩ : ∃ k : Nat, m = (k : Int) := ⟨m.toNat, by omega⟩
  exact ⟨k, rfl, by omega, by omega, sets_of_fam h, h3⟩

set_option maxRecDepth 100000 in
set_option maxHeartbeats 2000000 in
theorem implCoverIn_any (m : Int) (a : Option Addr) (c : Nat) (zs : List Int) (x : Int) (w : World) (ha : Ints w w.heap.size a zs) (hx : zs.length ≤ 1048576) :
    Calls Tryd.prog 13 #[.agg #[.int .i64 m, .slice a zs.length c], .int .i64 x] w fun e w' => e = .returned (.bool (inCov m zs x)) ∧ Below w.heap.size w w' := by
  unfold inCov
  have HB0 := Lib.hid (below1 w (.cells #[.int .i64 m, .slice a zs.length c] 25))
  have HA := Lib.hid (ha.below HB0.out)
  clear ha
  cases hf : famIn m zs
  · have HF := Lib.hid hf
    clear hf
    go_enter Tryd.func13, Tryd.ntmps13
    go_wp2_with fail
    refine (implFamilyIn_any _ _ _ zs _ (HA.out.mono (by simp)) hx).mono ?_
    rintro e w1 ⟨rfl, hb⟩
    rw [HF.out]
    have HB := Lib.hid (HB0.out.trans (hb.mono (by simp)))
    clear hb
    go_wp2
    go_ret
    exact ⟨rfl, HB.out⟩
  · have HF := Lib.hid hf
    obtain ⟨k, rfl, hk1, hk6, hset, hl8⟩ := fam_nat2 hf
    have hk1I : (1 : Int) ≤ (k : Int) := by omega
    have hk6I : (k : Int) ≤ 6 := by omega
    clear hf
    cases hs : inB x 0 (fullI (k : Int))
    · have HS := Lib.hid hs
      clear hs
      go_enter Tryd.func13, Tryd.ntmps13
      go_wp2_with fail
      refine (implFamilyIn_any _ _ _ zs _ (HA.out.mono (by simp)) hx).mono ?_
      rintro e w1 ⟨rfl, hb⟩
      rw [HF.out]
      have b0 : w1.heap[w.heap.size]? = some (.cells #[.int .i64 (k : Int), .slice a zs.length c] 25 (0, 0)) := (hb.block _ (by simp)).trans (alloc_new w _)
      have x0 := (blk_cell b0 0).trans (cell2_0 _ _)
      have HB := Lib.hid (HB0.out.trans (hb.mono (by simp)))
      clear hb b0
      go_wp2_with (go_at_call 48; refine (setIn_any _ _ _ hk1I hk6I).mono ?_; rintro e w' ⟨rfl, rfl⟩; rw [HS.out])
      go_ret
      exact ⟨rfl, HB.out⟩
    · have HS := Lib.hid hs
      obtain ⟨s, rfl, hs2⟩ := set_nat hs
      have hs64 := p64 hk6 hs2
      clear hs
      go_enter Tryd.func13, Tryd.ntmps13
      go_wp2_with fail
      refine (implFamilyIn_any _ _ _ zs _ (HA.out.mono (by simp)) hx).mono ?_
      rintro e w1 ⟨rfl, hb⟩
      rw [HF.out]
      have b0 : w1.heap[w.heap.size]? = some (.cells #[.int .i64 (k : Int), .slice a zs.length c] 25 (0, 0)) := (hb.block _ (by simp)).trans (alloc_new w _)
      have x0 := (blk_cell b0 0).trans (cell2_0 _ _)
      have x1 := (blk_cell b0 1).trans (cell2_1 _ _)
      have z1 : w.heap.size < w1.heap.size := lt_of_some b0
      have HC := Lib.hid (coveredBy_any k hk6 a c zs s hs64 w1 ((HA.out.below (hb.mono (by simp))).mono (by omega)) (by omega) hset)
      have HB := Lib.hid (HB0.out.trans (hb.mono (by simp)))
      have Z1 := Lib.hid z1
      clear hb b0 z1
      go_wp2_with (first
        | (go_at_call 48; refine (setIn_any _ _ _ hk1I hk6I).mono ?_; rintro e w' ⟨rfl, rfl⟩; rw [HS.out])
        | (go_at_call 49; refine HC.out.mono ?_; rintro e w2 ⟨rfl, hb2⟩))
      go_ret
      exact ⟨by simp, HB.out.trans (hb2.mono (by have := Z1.out; omega))⟩

set_option maxRecDepth 100000 in
set_option maxHeartbeats 2000000 in
theorem specCoverIn_any (m : Int) (a : Option Addr) (c : Nat) (zs : List Int) (x : Int) (w : World) (ha : Ints w w.heap.size a zs) (hx : zs.length ≤ 1048576) :
    Calls Tryd.prog 14 #[.agg #[.int .i64 m, .slice a zs.length c], .int .i64 x] w fun e w' => e = .returned (.bool (inCov m zs x)) ∧ Below w.heap.size w w' := by
  unfold inCov
  have HB0 := Lib.hid (below1 w (.cells #[.int .i64 m, .slice a zs.length c] 25))
  have HA := Lib.hid (ha.below HB0.out)
  clear ha
  cases hf : famIn m zs
  · have HF := Lib.hid hf
    clear hf
    go_enter Tryd.func14, Tryd.ntmps14
    go_wp2_with fail
    refine (specFamilyIn_any _ _ _ zs _ (HA.out.mono (by simp)) hx).mono ?_
    rintro e w1 ⟨rfl, hb⟩
    rw [HF.out]
    have HB := Lib.hid (HB0.out.trans (hb.mono (by simp)))
    clear hb
    go_wp2
    go_ret
    exact ⟨rfl, HB.out⟩
  · have HF := Lib.hid hf
    obtain ⟨k, rfl, hk1, hk6, hset, hl8⟩ := fam_nat2 hf
    have hk1I : (1 : Int) ≤ (k : Int) := by omega
    have hk6I : (k : Int) ≤ 6 := by omega
    clear hf
    cases hs : inB x 0 (fullI (k : Int))
    · have HS := Lib.hid hs
      clear hs
      go_enter Tryd.func14, Tryd.ntmps14
      go_wp2_with fail
      refine (specFamilyIn_any _ _ _ zs _ (HA.out.mono (by simp)) hx).mono ?_
      rintro e w1 ⟨rfl, hb⟩
      rw [HF.out]
      have b0 : w1.heap[w.heap.size]? = some (.cells #[.int .i64 (k : Int), .slice a zs.length c] 25 (0, 0)) := (hb.block _ (by simp)).trans (alloc_new w _)
      have x0 := (blk_cell b0 0).trans (cell2_0 _ _)
      have x1 := (blk_cell b0 1).trans (cell2_1 _ _)
      have z1 : w.heap.size < w1.heap.size := lt_of_some b0
      have Z1 := Lib.hid z1
      have HB := Lib.hid (HB0.out.trans (hb.mono (by simp)))
      clear hb b0 z1
      go_wp2_with (first
        | (go_at_call 52; refine (l1All_b _ _ _ _ _ hk1I hk6I).mono ?_; rintro e w2 ⟨rfl, hb2⟩)
        | (go_at_call 51; refine (l6In_any _ _ _ _).mono ?_; rintro e w' ⟨rfl, rfl⟩; rw [HS.out]))
      go_ret
      exact ⟨rfl, HB.out.trans (hb2.mono (by have := Z1.out; omega))⟩
    · have HS := Lib.hid hs
      obtain ⟨s, rfl, hs2⟩ := set_nat hs
      have hs64 := p64 hk6 hs2
      clear hs
      go_enter Tryd.func14, Tryd.ntmps14
      go_wp2_with fail
      refine (specFamilyIn_any _ _ _ zs _ (HA.out.mono (by simp)) hx).mono ?_
      rintro e w1 ⟨rfl, hb⟩
      rw [HF.out]
      have b0 : w1.heap[w.heap.size]? = some (.cells #[.int .i64 (k : Int), .slice a zs.length c] 25 (0, 0)) := (hb.block _ (by simp)).trans (alloc_new w _)
      have x0 := (blk_cell b0 0).trans (cell2_0 _ _)
      have x1 := (blk_cell b0 1).trans (cell2_1 _ _)
      have z1 : w.heap.size < w1.heap.size := lt_of_some b0
      have HI := Lib.hid ((HA.out.below (hb.mono (by simp))).mono (B' := w1.heap.size) (by omega))
      have HB := Lib.hid (HB0.out.trans (hb.mono (by simp)))
      have Z1 := Lib.hid z1
      have HZ : Hid (∀ z ∈ zs, 0 ≤ z ∧ z.toNat < 64) := Lib.hid (fun z h => ⟨(hset z h).1, p64 hk6 (hset z h).2⟩)
      clear hb b0 z1
      go_wp2_with (first
        | (go_at_call 52; refine (l1All_b _ _ _ _ _ hk1I hk6I).mono ?_; rintro e w2 ⟨rfl, hb2⟩; have y1 := (hb2.cell (p := ⟨w.heap.size, 1, none⟩) Z1.out).trans x1)
        | (go_at_call 51; refine (l6In_any _ _ _ _).mono ?_; rintro e w' ⟨rfl, rfl⟩; rw [HS.out])
        | (go_at_call 53; refine (l4In_any a c zs s _ ((HI.out.below hb2).mono hb2.size) hx HZ.out hs64).mono ?_; rintro e w' ⟨rfl, rfl⟩))
      go_ret
      exact ⟨by simp, HB.out.trans (hb2.mono (by have := Z1.out; omega))⟩

end Go.Proofs.YtmojkeokkebbfaaDoor

/- It is proved what FamilyDegrees of the model returns; conditions: those of each statement. -/
namespace Go.Proofs.YtmojkeokkebbfaaDoor
open Go.RowKit

set_option maxRecDepth 100000 in
theorem bit_fin : ∀ s : Fin 64, ∀ v : Fin 6, bits BinOp.and IntKind.i64 ((s.val : Int) / 2 ^ v.val) 1 = (((s.val >>> v.val) &&& 1 : Nat) : Int) := by decide +kernel

theorem bit_at (s v : Nat) (hs : s < 64) (hv : v < 6) : bits BinOp.and IntKind.i64 ((s : Int) / 2 ^ v) 1 = (((s >>> v) &&& 1 : Nat) : Int) := bit_fin ⟨s, hs⟩ ⟨v, hv⟩
end Go.Proofs.YtmojkeokkebbfaaDoor

/- It is proved how sums of degrees, sizes, unions and meetings of clubs count their members; conditions: those of each statement. -/
namespace Go.Proofs.YtmojkeokkebbfaaDoor
open Go.RowKit

set_option maxRecDepth 100000 in
theorem pop_mem_fin : ∀ s : Fin 64, pop (s.val : Int) = ((mem s.val).length : Int) := by decide +kernel

theorem pop_mem {s : Nat} (h : s < 64) : pop (s : Int) = ((mem s).length : Int) := pop_mem_fin ⟨s, h⟩
theorem allMem_cons (z : Int) (zs : List Int) : allMem (z :: zs) = mem z.toNat ++ allMem zs := by simp [allMem]
theorem small63 {m : Int} {zs : List Int} (h : famIn m zs = true) : ∀ z ∈ zs, 0 ≤ z ∧ z ≤ 63 := fun z hz => by
  obtain ⟨h1, h2, h3, h4⟩ := famIn_out h
  have := h4 z hz
  have h5 : fullI m ≤ 63 := by rcases m16 h1 h2 with rfl | rfl | rfl | rfl | rfl | rfl <;> decide
  omega

set_option maxRecDepth 100000 in
theorem mem_one_fin : ∀ s : Fin 64, ∀ v : Fin 6, (mem s.val).count v.val = if s.val.testBit v.val then 1 else 0 := by decide +kernel

theorem mem_one {s v : Nat} (hs : s < 64) (hv : v < 6) : (mem s).count v = if s.testBit v then 1 else 0 := mem_one_fin ⟨s, hs⟩ ⟨v, hv⟩
/-- A club has a member. -/
def hasM (v : Nat) (z : Int) : Bool := z.toNat.testBit v

theorem count_all {v : Nat} (hv : v < 6) : ∀ zs : List Int, (∀ z ∈ zs, 0 ≤ z ∧ z ≤ 63) → (allMem zs).count v = zs.countP (hasM v)
  | [], _ => by simp [allMem]
  | z :: zs, h => by
    have ih := count_all hv zs (fun x hx => h x (by simp [hx]))
    have hz := h z (by simp)
    rw [allMem_cons, List.count_append, ih, mem_one (by omega) hv, List.countP_cons]
    unfold hasM
    omega

theorem bit_val {S v : Nat} (hS : S < 64) (hv : v < 6) : bits BinOp.and IntKind.i64 ((S : Int) / 2 ^ v) 1 = if S.testBit v then 1 else 0 := by
  rw [bit_at S v hS hv]
  have h1 : (S >>> v) &&& 1 = if S.testBit v then 1 else 0 := by
    rw [Nat.testBit, Nat.and_comm]
    have : 1 &&& (S >>> v) ≤ 1 := Nat.and_le_left
    by_cases h0 : 1 &&& (S >>> v) = 0
    · rw [h0]; rfl
    · rw [show 1 &&& (S >>> v) = 1 by omega]; rfl
  rw [h1]
  cases S.testBit v <;> rfl

end Go.Proofs.YtmojkeokkebbfaaDoor
