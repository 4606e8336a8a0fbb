/- It is proved what RankSum of the program and of the reference model returns; conditions: those of each statement. -/
import Derived.RowKit
import Derived.Laws.CopyRow
import Derived.Lib.SlBuf
import Derived.Deep.QuietTactic
import Derived.RangeFuncNested
import Derived.RangeFuncBound
import Derived.RangeFuncCalls
import Derived.RangeFuncLeaves
import Derived.RangeFuncBox
import Derived.RangeFuncWrites
import Derived.StillTailTactics
import Derived.Maps.OwnIn
import Derived.Maps.Ext
import Derived.DeepKeys4
import Derived.MapKept
import Derived.Test.YtdkdndcogdeopaaDoorRows
import Derived.WalkKit
import Derived.WalkSpells
import Derived.ProofKit
import Derived.OpenShut
import Derived.ShutString
import Derived.ChangeOld
import Derived.Below
import Derived.Deep.RegionHeld3
import Derived.BigQuiet
import Derived.Lib.Hide
import Derived.Lib.SmallJoins
import Derived.Outline
import Derived.Laws.MakeOwn
import Derived.Laws.OwnMore
import Derived.IntWalk
import Derived.Maps.AppendAt
import Derived.Deep.RegionLaw
import Derived.Deep.AppendLies
import Derived.Lib.AppendZeros
import Derived.OwnWalk
import Derived.Lib.SlicesCompact
import Derived.Lib.OwnBridge
import Derived.OrdersIn
import Derived.TacticsIn
import Derived.Shelf.Sort.Plain
import Derived.Shelf.Slices.In.SortNone
import Derived.Shelf.Slices.CompactI
import Derived.Ground.Names2Prog
import Derived.Lib.SliceRun
import Derived.Shelf.RegionOpen
import Derived.Shelf.Abstract
import Derived.OwnWalkIn
import Derived.TacticsInMore
import Derived.LoopNIn
import Derived.LoopIn
import Derived.StillTail
import Derived.StillTactics
import Derived.Shelf.Spec.TrailingZeros
import Derived.Test.YtdkdndcogdeopaaDoorB
import Derived.Test.YtdkdndcogdeopaaDoorC
import Derived.Test.YtdkdndcogdeopaaDoorD
import Derived.Test.YtdkdndcogdeopaaDoorE
import Derived.Test.YtdkdndcogdeopaaDoorF
import Derived.Test.YtdkdndcogdeopaaDoorG
import Derived.Test.YtdkdndcogdeopaaDoorGa
import Derived.Test.YtdkdndcogdeopaaDoorGb
import Derived.Test.YtdkdndcogdeopaaDoorKa
import Derived.Test.YtdkdndcogdeopaaDoorKc
import Derived.Test.YtdkdndcogdeopaaDoorKh
import Derived.Test.YtdkdndcogdeopaaDoorKl
import Derived.Test.YtdkdndcogdeopaaDoorKs
import Derived.Test.YtdkdndcogdeopaaDoorO
import Derived.Test.YtdkdndcogdeopaaDoorSa
import Derived.Test.YtdkdndcogdeopaaDoorT
import Derived.Test.YtdkdndcogdeopaaDoorWa
namespace Go.Proofs.YtdkdndcogdeopaaDoor
open Go.RowKit

/-- Places that are some of the clubs' own. -/
def inP (zs : List Int) (x : Int) : Bool := inB x 0 (2 ^ zs.length - 1)

def outRS (m : Int) (zs : List Int) (x : Int) : Int := if famIn m zs && inP zs x then ((sumK zs x.toNat : Nat) : Int) else 0
def okRS (m : Int) (zs : List Int) (x : Int) : Bool := famIn m zs && inP zs x
theorem inP_nat {zs : List Int} {x : Int} (h : inP zs x = true) : ∃ p : Nat, x = (p : Int) ∧ p < 2 ^ zs.length := by
  obtain ⟨h1, h2⟩ := inB_out h
  have e : (2 : Int) ^ zs.length = ((2 ^ zs.length : Nat) : Int) := by norm_cast
  exact ⟨x.toNat, by omega, by omega⟩

theorem wrap_full {n : Nat} (h : n ≤ 8) : wrap64 (wrap64 (2 ^ n) - 1) = 2 ^ n - 1 := by
  rcases n08 h with rfl | rfl | rfl | rfl | rfl | rfl | rfl | rfl | rfl <;> decide +kernel

theorem setIn8_any (n : Nat) (z : Int) (w : World) (h : n ≤ 8) :
    Calls Tryd.prog 65 #[.int .i64 (n : Int), .int .i64 z] w fun e w' => e = .returned (.bool (inB z 0 (2 ^ n - 1))) ∧ w = w' := by
  by_cases hz : 0 ≤ z
  · by_cases hf : z ≤ 2 ^ n - 1
    · rw [inB_true hz hf]
      rcases n08 h with rfl | rfl | rfl | rfl | rfl | rfl | rfl | rfl | rfl
      all_goals
        simp at hf
        go_enter Tryd.func65, Tryd.ntmps65
        go_wp2
        go_ret
        exact ⟨by simp; omega, rfl⟩
    · rw [inB_false (.inr (by omega))]
      rcases n08 h with rfl | rfl | rfl | rfl | rfl | rfl | rfl | rfl | rfl
      all_goals
        simp at hf
        go_enter Tryd.func65, Tryd.ntmps65
        go_wp2
        go_ret
        exact ⟨by simp; omega, rfl⟩
  · rw [inB_false (.inl (by omega))]
    have hz' : z < 0 := by omega
    go_enter Tryd.func65, Tryd.ntmps65
    go_wp2
    go_ret
    exact ⟨rfl, rfl⟩

set_option maxRecDepth 100000 in
set_option maxHeartbeats 4000000 in
theorem specRankSum_any (m x : Int) (a : Option Addr) (c : Nat) (zs : List Int) (w : World) (ha : Ints w w.heap.size a zs) (hx : zs.length ≤ 1048576) :
    Calls Tryd.prog 25 #[.agg #[.int .i64 m, .slice a zs.length c], .int .i64 x] w (RetIB w (outRS m zs x) (okRS m zs x)) := by
  have HB0 := Lib.hid (below1 w (.cells #[.int .i64 m, .slice a zs.length c] 25))
  have HA := Lib.hid (ha.below HB0.out)
  clear ha
  cases hf : famIn m zs
  · have HF := Lib.hid hf
    have HZ : Hid (outRS m zs x = 0) := Lib.hid (by unfold outRS; rw [hf]; rfl)
    have HO : Hid (okRS m zs x = false) := Lib.hid (by unfold okRS; rw [hf]; rfl)
    clear hf
    go_enter Tryd.func25, Tryd.ntmps25
    go_wp2_with fail
    refine (specFamilyIn_any _ _ _ zs _ (HA.out.mono (by simp)) hx).mono ?_
    rintro e w1 ⟨rfl, hb⟩
    rw [HF.out]
    have HB := Lib.hid (HB0.out.trans (hb.mono (by simp)))
    clear hb
    go_wp2
    go_ret2
    exact ⟨by rw [HZ.out, HO.out]; rfl, HB.out⟩
  · have HF := Lib.hid hf
    obtain ⟨m, rfl, hm1, hm6, hset, hl8⟩ := fam_nat2 hf
    have HSET := Lib.hid hset
    have HFI := Lib.hid (specFamilyIn_any (m : Int) a c zs _ (HA.out.mono (show w.heap.size ≤ (w.alloc (.cells #[.int .i64 (m : Int), .slice a zs.length c] 25)).heap.size by simp)) hx)
    cases hc : inP zs x
    · have HC := Lib.hid hc
      have HZ : Hid (outRS (m : Int) zs x = 0) := Lib.hid (by unfold outRS; rw [hf, hc]; rfl)
      have HO : Hid (okRS (m : Int) zs x = false) := Lib.hid (by unfold okRS; rw [hf, hc]; rfl)
      clear hf hc hset
      unfold inP at HC
      obtain ⟨n, hn⟩ : ∃ n, n = zs.length := ⟨_, rfl⟩
      rw [← hn] at hl8 HFI HC HB0 ⊢
      clear hx hn HA
      go_enter Tryd.func25, Tryd.ntmps25
      go_wp2_with fail
      refine HFI.out.mono ?_
      rintro e w1 ⟨rfl, hb⟩
      rw [HF.out]
      have b0 : HasBlk w1 w.heap.size #[.int .i64 (m : Int), .slice a n c] 25 := (hb.block _ (by simp)).trans (alloc_new w _)
      have x0 := (blk_cell b0 0).trans (cell2_0 _ _)
      have x1 := (blk_cell b0 1).trans (cell2_1 _ _)
      have HB := Lib.hid (HB0.out.trans (hb.mono (by simp)))
      clear hb b0 HFI HB0 HF HSET
      have HE := Lib.hid (wrap_full hl8)
      go_wp2_with fail
      refine (l6In_any _ _ _ _).mono ?_
      rintro e w2 ⟨rfl, rfl⟩
      rw [HE.out, HC.out]
      go_wp2
      go_ret2
      exact ⟨by rw [HZ.out, HO.out]; rfl, HB.out⟩
    · have HC := Lib.hid hc
      obtain ⟨p, rfl, hp⟩ := inP_nat hc
      have HZ : Hid (outRS (m : Int) zs (p : Int) = ((sumK zs p : Nat) : Int)) := Lib.hid (by unfold outRS; rw [hf, hc]; rfl)
      have HO : Hid (okRS (m : Int) zs (p : Int) = true) := Lib.hid (by unfold okRS; rw [hf, hc]; rfl)
      have hp256 : p < 256 := by have := Nat.pow_le_pow_right (n := 2) (by decide) hl8; omega
      have HSUM : Hid (∀ W, Ints W W.heap.size a zs → Calls Tryd.prog 68 #[.slice a zs.length c, .int .i64 (p : Int)] W fun e w' => e = .returned (.int .i64 ((sumK zs p : Nat) : Int)) ∧ W = w') := Lib.hid fun W h => l9Sum_any a c zs p W h hl8 (fun z h => ⟨(hset z h).1, p64 hm6 (hset z h).2⟩) hp256
      clear hf hc hset hp
      unfold inP at HC
      obtain ⟨n, hn⟩ : ∃ n, n = zs.length := ⟨_, rfl⟩
      rw [← hn] at hl8 HFI HC HB0 HSUM HA ⊢
      clear hn hx
      go_enter Tryd.func25, Tryd.ntmps25
      go_wp2_with fail
      refine HFI.out.mono ?_
      rintro e w1 ⟨rfl, hb⟩
      rw [HF.out]
      have b0 : HasBlk w1 w.heap.size #[.int .i64 (m : Int), .slice a n c] 25 := (hb.block _ (by simp)).trans (alloc_new w _)
      have x0 := (blk_cell b0 0).trans (cell2_0 _ _)
      have x1 := (blk_cell b0 1).trans (cell2_1 _ _)
      have HB := Lib.hid (HB0.out.trans (hb.mono (by simp)))
      have HI1 := Lib.hid ((HA.out.below (hb.mono (by simp))).mono (show w.heap.size ≤ w1.heap.size from Nat.le_of_lt (lt_of_some b0)))
      clear hb b0 HFI HB0 HF HA HSET
      have HE := Lib.hid (wrap_full hl8)
      go_wp2_with fail
      refine (l6In_any _ _ _ _).mono ?_
      rintro e w2 ⟨rfl, rfl⟩
      rw [HE.out, HC.out]
      go_wp2_with fail
      refine (HSUM.out _ HI1.out).mono ?_
      rintro e w3 ⟨rfl, rfl⟩
      go_wp2
      go_ret2
      exact ⟨by rw [HZ.out, HO.out]; rfl, HB.out⟩

set_option maxRecDepth 100000 in
set_option maxHeartbeats 4000000 in
theorem implRankSum_any (m x : Int) (a : Option Addr) (c : Nat) (zs : List Int) (w : World) (ha : Ints w w.heap.size a zs) (hT : Tab w) (hx : zs.length ≤ 1048576) :
    Calls Tryd.prog 24 #[.agg #[.int .i64 m, .slice a zs.length c], .int .i64 x] w (RetIB w (outRS m zs x) (okRS m zs x)) := by
  have HB0 := Lib.hid (below1 w (.cells #[.int .i64 m, .slice a zs.length c] 25))
  have HA := Lib.hid (ha.below HB0.out)
  have HT := Lib.hid (hT.below HB0.out hT.lt)
  clear hT
  clear ha
  cases hf : famIn m zs
  · have HF := Lib.hid hf
    have HZ : Hid (outRS m zs x = 0) := Lib.hid (by unfold outRS; rw [hf]; rfl)
    have HO : Hid (okRS m zs x = false) := Lib.hid (by unfold okRS; rw [hf]; rfl)
    clear hf
    go_enter Tryd.func24, Tryd.ntmps24
    go_wp2_with fail
    refine (implFamilyIn_any _ _ _ zs _ (HA.out.mono (by simp)) hx).mono ?_
    rintro e w1 ⟨rfl, hb⟩
    rw [HF.out]
    have HB := Lib.hid (HB0.out.trans (hb.mono (by simp)))
    clear hb
    go_wp2
    go_ret2
    exact ⟨by rw [HZ.out, HO.out]; rfl, HB.out⟩
  · have HF := Lib.hid hf
    obtain ⟨m, rfl, hm1, hm6, hset, hl8⟩ := fam_nat2 hf
    have HSET := Lib.hid hset
    have HFI := Lib.hid (implFamilyIn_any (m : Int) a c zs _ (HA.out.mono (show w.heap.size ≤ (w.alloc (.cells #[.int .i64 (m : Int), .slice a zs.length c] 25)).heap.size by simp)) hx)
    cases hc : inP zs x
    · have HC := Lib.hid hc
      have HZ : Hid (outRS (m : Int) zs x = 0) := Lib.hid (by unfold outRS; rw [hf, hc]; rfl)
      have HO : Hid (okRS (m : Int) zs x = false) := Lib.hid (by unfold okRS; rw [hf, hc]; rfl)
      clear hf hc hset
      unfold inP at HC
      obtain ⟨n, hn⟩ : ∃ n, n = zs.length := ⟨_, rfl⟩
      rw [← hn] at hl8 HFI HC HB0 ⊢
      clear hx hn HA HT
      go_enter Tryd.func24, Tryd.ntmps24
      go_wp2_with fail
      refine HFI.out.mono ?_
      rintro e w1 ⟨rfl, hb⟩
      rw [HF.out]
      have b0 : HasBlk w1 w.heap.size #[.int .i64 (m : Int), .slice a n c] 25 := (hb.block _ (by simp)).trans (alloc_new w _)
      have x0 := (blk_cell b0 0).trans (cell2_0 _ _)
      have x1 := (blk_cell b0 1).trans (cell2_1 _ _)
      have HB := Lib.hid (HB0.out.trans (hb.mono (by simp)))
      clear hb b0 HFI HB0 HF HSET
      go_wp2_with fail
      refine (setIn8_any _ _ _ hl8).mono ?_
      rintro e w2 ⟨rfl, rfl⟩
      rw [HC.out]
      go_wp2
      go_ret2
      exact ⟨by rw [HZ.out, HO.out]; rfl, HB.out⟩
    · have HC := Lib.hid hc
      obtain ⟨p, rfl, hp⟩ := inP_nat hc
      have HZ : Hid (outRS (m : Int) zs (p : Int) = ((sumK zs p : Nat) : Int)) := Lib.hid (by unfold outRS; rw [hf, hc]; rfl)
      have HO : Hid (okRS (m : Int) zs (p : Int) = true) := Lib.hid (by unfold okRS; rw [hf, hc]; rfl)
      have hp256 : p < 256 := by have := Nat.pow_le_pow_right (n := 2) (by decide) hl8; omega
      have HSUM : Hid (∀ W, Ints W W.heap.size a zs → Tab W → Calls Tryd.prog 66 #[.agg #[.int .i64 (m : Int), .slice a zs.length c], .int .i64 (p : Int)] W fun e w' => e = .returned (.int .i64 ((sumK zs p : Nat) : Int)) ∧ Below W.heap.size W w') := Lib.hid fun W h hT => sum_any m hm6 a c zs p W h hl8 hset hp hT
      clear hf hc hset hp
      unfold inP at HC
      obtain ⟨n, hn⟩ : ∃ n, n = zs.length := ⟨_, rfl⟩
      rw [← hn] at hl8 HFI HC HB0 HSUM HA HT ⊢
      clear hn hx
      go_enter Tryd.func24, Tryd.ntmps24
      go_wp2_with fail
      refine HFI.out.mono ?_
      rintro e w1 ⟨rfl, hb⟩
      rw [HF.out]
      have b0 : HasBlk w1 w.heap.size #[.int .i64 (m : Int), .slice a n c] 25 := (hb.block _ (by simp)).trans (alloc_new w _)
      have x0 := (blk_cell b0 0).trans (cell2_0 _ _)
      have x1 := (blk_cell b0 1).trans (cell2_1 _ _)
      have HB := Lib.hid (HB0.out.trans (hb.mono (by simp)))
      have HI1 := Lib.hid ((HA.out.below (hb.mono (by simp))).mono (show w.heap.size ≤ w1.heap.size from Nat.le_of_lt (lt_of_some b0)))
      have HT1 := Lib.hid (HT.out.below hb HT.out.lt)
      clear hb b0 HFI HB0 HF HA HSET
      go_wp2_with fail
      refine (setIn8_any _ _ _ hl8).mono ?_
      rintro e w2 ⟨rfl, rfl⟩
      rw [HC.out]
      go_wp2_with fail
      refine (HSUM.out _ HI1.out HT1.out).mono ?_
      rintro e w3 ⟨rfl, hb3⟩
      have HB3 := Lib.hid (HB.out.trans (hb3.mono HB.out.size))
      clear hb3
      go_wp2
      go_ret2
      exact ⟨by rw [HZ.out, HO.out]; rfl, HB3.out⟩

end Go.Proofs.YtdkdndcogdeopaaDoor
