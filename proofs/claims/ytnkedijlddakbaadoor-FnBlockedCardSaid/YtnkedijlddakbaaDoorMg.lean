/- It is proved what SpeakerBad of the reference model returns; conditions: those of each statement. -/
import Derived.RowKit
import Derived.Laws.CopyRow
import Derived.Lib.SlBuf
import Derived.Deep.QuietTactic
import Derived.RangeFuncNested
import Derived.RangeFuncBound
import Derived.RangeFuncCalls
import Derived.RangeFuncLeaves
import Derived.RangeFuncBox
import Derived.RangeFuncWrites
import Derived.StillTailTactics
import Derived.Maps.OwnIn
import Derived.Maps.Ext
import Derived.DeepKeys4
import Derived.MapKept
import Derived.Test.YtnkedijlddakbaaDoorRows
import Derived.WalkKit
import Derived.WalkSpells
import Derived.ProofKit
import Derived.OpenShut
import Derived.ShutString
import Derived.ChangeOld
import Derived.Below
import Derived.Deep.RegionHeld3
import Derived.BigQuiet
import Derived.Lib.Hide
import Derived.Lib.SmallJoins
import Derived.Outline
import Derived.Laws.MakeOwn
import Derived.Laws.OwnMore
import Derived.IntWalk
import Derived.Maps.AppendAt
import Derived.Lib.AppendZeros
import Derived.Deep.AppendLies
import Derived.OwnWalk
import Derived.Lib.SlicesCompact
import Derived.Lib.OwnBridge
import Derived.OrdersIn
import Derived.TacticsIn
import Derived.Shelf.Sort.Plain
import Derived.Shelf.Slices.In.SortNone
import Derived.Shelf.Slices.CompactI
import Derived.Ground.Names2Prog
import Derived.Lib.SliceRun
import Derived.Shelf.RegionOpen
import Derived.Shelf.Abstract
import Derived.OwnWalkIn
import Derived.TacticsInMore
import Derived.LoopNIn
import Derived.LoopIn
import Derived.StillTail
import Derived.StillTactics
import Derived.Shelf.Spec.TrailingZeros
import Derived.Test.YtnkedijlddakbaaDoorMraa
import Derived.Test.YtnkedijlddakbaaDoorMrab
import Derived.Test.YtnkedijlddakbaaDoorMran
import Derived.Test.YtnkedijlddakbaaDoorMrad
import Derived.Test.YtnkedijlddakbaaDoorMrak
import Derived.Test.YtnkedijlddakbaaDoorMrag
import Derived.Test.YtnkedijlddakbaaDoorMrah
import Derived.Test.YtnkedijlddakbaaDoorMa
import Derived.Test.YtnkedijlddakbaaDoorMb
import Derived.Test.YtnkedijlddakbaaDoorMc
import Derived.Test.YtnkedijlddakbaaDoorMe
import Derived.Test.YtnkedijlddakbaaDoorMf
import Derived.Test.YtnkedijlddakbaaDoorMrac
import Derived.Test.YtnkedijlddakbaaDoorMraf
namespace Go.Proofs.YtnkedijlddakbaaDoor
open Go.RowKit

theorem overP_zero (zs : List Int) : overP zs 0 = 0 := by
  have h1 : cntK 8 0 = 0 := by unfold cntK; rw [memK_zero]; rfl
  have h2 : togK zs 0 = 0 := by unfold togK; rw [memK_zero]; rfl
  unfold overP
  rw [h2, h1]
  rfl

set_option maxRecDepth 100000 in
set_option maxHeartbeats 4000000 in
theorem specSpeakerBad_any (m : Int) (a : Option Addr) (c : Nat) (zs : List Int) (w : World) (ha : Ints w w.heap.size a zs) (hx : zs.length ≤ 1048576) :
    Calls Tryd.prog 11 #[.agg #[.int .i64 m, .slice a zs.length c]] w (RetIB w (badZ m zs) (badB m zs)) := by
  have HB0 := Lib.hid (below1 w (.cells #[.int .i64 m, .slice a zs.length c] 25))
  have HA := Lib.hid (ha.below HB0.out)
  clear ha
  unfold badZ badB
  cases hf : famIn m zs
  · have HF := Lib.hid hf
    clear hf
    go_enter Tryd.func11, Tryd.ntmps11
    go_wp2_with fail
    refine (specFamilyIn_any _ _ _ zs _ (HA.out.mono (by simp)) hx).mono ?_
    rintro e w1 ⟨rfl, hb⟩
    rw [HF.out]
    have HB := Lib.hid (HB0.out.trans (hb.mono (by simp)))
    clear hb
    go_wp2
    go_ret2
    exact ⟨rfl, HB.out⟩
  · have HF := Lib.hid hf
    obtain ⟨k, rfl, hk1, hk6, hset, hl8⟩ := fam_nat2 hf
    have HZ6 : Hid (∀ z ∈ zs, 0 ≤ z ∧ z.toNat < 64) := Lib.hid (fun z h => ⟨(hset z h).1, p64 hk6 (hset z h).2⟩)
    have HTL : Hid (∀ p, togK zs p < 64) := Lib.hid (tog_lt fun z h => p64 hk6 (hset z h).2)
    have HFI := Lib.hid (specFamilyIn_any (k : Int) a c zs _ (HA.out.mono (show w.heap.size ≤ (w.alloc (.cells #[.int .i64 (k : Int), .slice a zs.length c] 25)).heap.size by simp)) hx)
    obtain ⟨n, hn⟩ : ∃ n, n = zs.length := ⟨_, rfl⟩
    have HN := Lib.hid hn
    have hn8 : n ≤ 8 := by omega
    obtain ⟨N, hN⟩ : ∃ N, N = 2 ^ n := ⟨_, rfl⟩
    have hNI : (2 : Int) ^ n = (N : Int) := by rw [hN]; norm_cast
    have hN256 : N ≤ 256 := by rw [hN]; exact Nat.pow_le_pow_right (n := 2) (by decide) hn8
    have hN1 : 1 ≤ N := by rw [hN]; exact Nat.one_le_two_pow
    obtain ⟨R, hR⟩ : ∃ R, R = badF zs (List.range (2 ^ n)) := ⟨_, rfl⟩
    rw [← hn, ← hR]
    rw [← hN] at hR
    have HR := Lib.hid hR
    rw [← hn] at HFI HA HB0
    have hn0 : (0 : Int) ≤ (n : Int) := by omega
    have hn64 : (n : Int) < 64 := by omega
    have hNII : (N : Int) ≤ 256 := by omega
    clear hf hset hn hN hR hl8
    go_enter Tryd.func11, Tryd.ntmps11
    go_wp2_with fail
    refine HFI.out.mono ?_
    rintro e w1 ⟨rfl, hb⟩
    rw [HF.out]
    have B0 : Hid (HasBlk w1 w.heap.size #[.int .i64 (k : Int), .slice a n c] 25) := Lib.hid ((hb.block _ (by simp)).trans (alloc_new w _))
    have hs1 : w.heap.size < w1.heap.size := lt_of_some B0.out
    have HB := Lib.hid (HB0.out.trans (hb.mono (by simp)))
    have HI1 := Lib.hid (HA.out.below (hb.mono (by simp)))
    clear hb
    go_wp2
    go_loopw [4] (fun p wr => ∃ j : Nat, 1 ≤ j ∧ j ≤ N ∧ p = .int .i64 (j : Int) ∧ badF zs (List.range j) = none ∧ Below w1.heap.size w1 wr) (fun p _ => N - (intOf p).toNat)
    case atStart => exact ⟨1, Nat.le_refl _, hN1, rfl, by unfold badF; rw [show List.range 1 = [0] from rfl, List.find?_singleton, overP_zero]; rfl, Below.refl _ _⟩
    case round =>
      obtain ⟨j, hj1, hj, rfl, hbf, hb⟩ := hrel
      have b := (hb.block _ hs1).trans B0.out
      have x0 := (blk_cell b 0).trans (cell2_0 _ _)
      have x1 := (blk_cell b 1).trans (cell2_1 _ _)
      have HBR := Lib.hid hb
      have HBF := Lib.hid hbf
      have hsr := hb.size
      by_cases hlt : j < N
      · have hjI : (j : Int) < (N : Int) := by omega
        have hTg := l5Together_any a c zs j wr.drew (show Ints wr wr.heap.size a zs from ((HI1.out.below (hb.mono (by omega))).mono (by omega))) (by rw [← HN.out]; exact hn8) HZ6.out (by omega)
        rw [← HN.out] at hTg
        obtain ⟨T, hT⟩ : ∃ T, T = togK zs j := ⟨_, rfl⟩
        have hT64 : T < 64 := by rw [hT]; exact HTL.out j
        rw [← hT] at hTg
        have HTg := Lib.hid hTg
        have hSA := l1SizeW_any j wr.drew (by omega)
        have hSB := l1SizeW_any T wr.drew (by omega)
        have hov : overP zs j = (cntK 8 j : Int) - (cntK 8 T : Int) := by unfold overP; rw [hT]
        have hsn : badF zs (List.range (j + 1)) = if 0 < overP zs j then some j else none := by rw [List.range_succ, badF_snoc _ _ _ hbf]
        obtain ⟨A, hA⟩ : ∃ A, A = cntK 8 j := ⟨_, rfl⟩
        obtain ⟨B, hB⟩ : ∃ B, B = cntK 8 T := ⟨_, rfl⟩
        rw [← hA] at hSA hov
        rw [← hB] at hSB hov
        have HSA := Lib.hid hSA
        have HSB := Lib.hid hSB
        clear hb b hbf hTg hSA hSB hT hA hB
        by_cases hv : B < A
        · have HRS : Hid (R = some j) := Lib.hid (by rw [HR.out]; exact badF_pre (j := j + 1) (by omega) (by rw [hsn, if_pos (by omega)]))
          have hvI : (B : Int) < (A : Int) := by omega
          clear hov hsn
          go_wp2
          go_still_tail 7, (by kernel_rfl)
          still_call (HSA.out.mono fun _ _ h => ⟨h.1, h.2.symm⟩)
          repeat still_step
          still_call (HTg.out.mono fun _ _ h => ⟨h.1, h.2.symm⟩)
          still_call (HSB.out.mono fun _ _ h => ⟨h.1, h.2.symm⟩)
          repeat still_step
          refine wpStill_nil ?_
          change wpList _ _ _ _ _ wr.drew
          have HRT := Lib.hid (HB.out.trans ((HBR.out.mono (by omega) : Below w.heap.size w1 wr).drew))
          go_wp2
          go_ret2
          exact ⟨by rw [HRS.out]; rfl, HRT.out⟩
        · have HNX : Hid (badF zs (List.range (j + 1)) = none) := Lib.hid (by rw [hsn, if_neg (by omega)])
          have hvI : ¬ ((B : Int) < (A : Int)) := by omega
          clear hov hsn
          go_wp2
          go_still_tail 7, (by kernel_rfl)
          still_call (HSA.out.mono fun _ _ h => ⟨h.1, h.2.symm⟩)
          repeat still_step
          still_call (HTg.out.mono fun _ _ h => ⟨h.1, h.2.symm⟩)
          still_call (HSB.out.mono fun _ _ h => ⟨h.1, h.2.symm⟩)
          repeat still_step
          refine wpStill_nil ?_
          change wpList _ _ _ _ _ wr.drew
          go_wp2
          go_roundw
          case rel => exact ⟨j + 1, by omega, by omega, by go_num, HNX.out, HBR.out.drew⟩
          case measure => simp [intOf]; omega
      · obtain rfl : j = N := by omega
        have HRN : Hid (R = none) := Lib.hid (by rw [HR.out]; exact hbf)
        have HRT := Lib.hid (HB.out.trans (hb.mono (show w.heap.size ≤ w1.heap.size by omega)))
        clear hb b hbf
        go_wp2
        go_ret2
        exact ⟨by rw [HRN.out]; rfl, HRT.out⟩

end Go.Proofs.YtnkedijlddakbaaDoor
