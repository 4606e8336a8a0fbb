/- It is proved what CoverMany of the reference model returns; conditions: those of each statement. -/
import Derived.RowKit
import Derived.Laws.CopyRow
import Derived.Lib.SlBuf
import Derived.Deep.QuietTactic
import Derived.RangeFuncNested
import Derived.RangeFuncBound
import Derived.RangeFuncCalls
import Derived.RangeFuncLeaves
import Derived.RangeFuncBox
import Derived.RangeFuncWrites
import Derived.StillTailTactics
import Derived.Maps.OwnIn
import Derived.Maps.Ext
import Derived.DeepKeys4
import Derived.MapKept
import Derived.Test.YtbkhffcgekjndaaRows
import Derived.WalkKit
import Derived.WalkSpells
import Derived.ProofKit
import Derived.OpenShut
import Derived.ShutString
import Derived.ChangeOld
import Derived.Below
import Derived.Deep.RegionHeld3
import Derived.BigQuiet
import Derived.Lib.Hide
import Derived.Lib.SmallJoins
import Derived.Outline
import Derived.Laws.MakeOwn
import Derived.Laws.OwnMore
import Derived.IntWalk
import Derived.Deep.RegionLaw
import Derived.Deep.AppendLies
import Derived.Lib.AppendZeros
import Derived.Maps.AppendAt
import Derived.OwnWalk
import Derived.Lib.SlicesCompact
import Derived.Lib.OwnBridge
import Derived.OrdersIn
import Derived.TacticsIn
import Derived.Shelf.Sort.Plain
import Derived.Shelf.Slices.In.SortNone
import Derived.Shelf.Slices.CompactI
import Derived.Ground.Names2Prog
import Derived.Lib.SliceRun
import Derived.Shelf.Abstract
import Derived.Shelf.RegionOpen
import Derived.OwnWalkIn
import Derived.TacticsInMore
import Derived.LoopNIn
import Derived.LoopIn
import Derived.StillTail
import Derived.StillTactics
import Derived.Shelf.Spec.TrailingZeros
import Derived.Test.YtbkhffcgekjndaaB
import Derived.Test.YtbkhffcgekjndaaC
import Derived.Test.YtbkhffcgekjndaaD
import Derived.Test.YtbkhffcgekjndaaE
import Derived.Test.YtbkhffcgekjndaaF
import Derived.Test.YtbkhffcgekjndaaFb
import Derived.Test.YtbkhffcgekjndaaG
import Derived.Test.YtbkhffcgekjndaaGa
import Derived.Test.YtbkhffcgekjndaaGb
import Derived.Test.YtbkhffcgekjndaaKa
import Derived.Test.YtbkhffcgekjndaaKc
import Derived.Test.YtbkhffcgekjndaaKh
import Derived.Test.YtbkhffcgekjndaaKj
import Derived.Test.YtbkhffcgekjndaaKl
import Derived.Test.YtbkhffcgekjndaaKu
import Derived.Test.YtbkhffcgekjndaaO
import Derived.Test.YtbkhffcgekjndaaSa
namespace Go.Proofs.Ytbkhffcgekjndaa
open Go.RowKit

theorem manyTo_succ (zs : List Int) (n : Nat) : ((List.range (n + 1)).filter (covB zs)).length = ((List.range n).filter (covB zs)).length + if covB zs n then 1 else 0 := by
  rw [List.range_succ, List.filter_append, List.length_append]
  cases h : covB zs n <;> simp [h]

theorem manyTo_le (zs : List Int) (n : Nat) : ((List.range n).filter (covB zs)).length ≤ n := Nat.le_trans (List.length_filter_le _ _) (by simp)
set_option maxRecDepth 100000 in
set_option maxHeartbeats 4000000 in
theorem specCoverMany_any (m : Int) (a : Option Addr) (c : Nat) (zs : List Int) (w : World) (ha : Ints w w.heap.size a zs) (hx : zs.length ≤ 1048576) :
    Calls Try.prog 10 #[.agg #[.int .i64 m, .slice a zs.length c]] w (RetIB w (coverZ m zs) (famIn m zs)) := by
  have HB0 := Lib.hid (below1 w (.cells #[.int .i64 m, .slice a zs.length c] 27))
  have HA := Lib.hid (ha.below HB0.out)
  clear ha
  cases hf : famIn m zs
  · have HF := Lib.hid hf
    have HZ : Hid (coverZ m zs = 0) := Lib.hid (by unfold coverZ; rw [hf]; rfl)
    clear hf
    go_enter Try.func10, Try.ntmps10
    go_wp2_with fail
    refine (specFamilyIn_any _ _ _ zs _ (HA.out.mono (by simp)) hx).mono ?_
    rintro e w1 ⟨rfl, hb⟩
    rw [HF.out]
    have HB := Lib.hid (HB0.out.trans (hb.mono (by simp)))
    clear hb
    go_wp2
    go_ret2
    exact ⟨by rw [HZ.out]; rfl, HB.out⟩
  · have HF := Lib.hid hf
    obtain ⟨k, rfl, hk1, hk6, hset, hl8⟩ := fam_nat2 hf
    have hk1I : (1 : Int) ≤ (k : Int) := by omega
    have hk6I : (k : Int) ≤ 6 := by omega
    have HZ : Hid (coverZ (k : Int) zs = ((((List.range (2 ^ k)).filter (covB zs)).length : Nat) : Int)) := Lib.hid (by unfold coverZ manyC; rw [hf]; rfl)
    have hp64 : 2 ^ k ≤ 64 := Nat.pow_le_pow_right (n := 2) (by decide) hk6
    have hfull : fullI (k : Int) = ((2 ^ k - 1 : Nat) : Int) := by
      unfold fullI
      have : 1 ≤ 2 ^ k := Nat.one_le_two_pow
      have h2 : ((2 ^ k : Nat) : Int) = (2 : Int) ^ k := by norm_cast
      rw [Int.toNat_natCast]
      omega
    obtain ⟨N, hN⟩ : ∃ N, N = 2 ^ k := ⟨_, rfl⟩
    have hN1 : 1 ≤ N := by rw [hN]; exact Nat.one_le_two_pow
    rw [← hN] at hp64 hfull HZ
    have HFU := Lib.hid hfull
    have HZ6 : Hid (∀ z ∈ zs, 0 ≤ z ∧ z.toNat < 64) := Lib.hid (fun z h => ⟨(hset z h).1, p64 hk6 (hset z h).2⟩)
    clear hf hN hfull hset
    go_enter Try.func10, Try.ntmps10
    go_wp2_with fail
    refine (specFamilyIn_any _ _ _ zs _ (HA.out.mono (by simp)) hx).mono ?_
    rintro e w1 ⟨rfl, hb⟩
    rw [HF.out]
    have B0 : Hid (HasBlk w1 w.heap.size #[.int .i64 (k : Int), .slice a zs.length c] 27) := Lib.hid ((hb.block _ (by simp)).trans (alloc_new w _))
    have HI := Lib.hid (HA.out.below (hb.mono (by simp)))
    have HB := Lib.hid (HB0.out.trans (hb.mono (by simp)))
    have hw1 : w.heap.size < w1.heap.size := lt_of_some B0.out
    clear hb
    go_wp2
    go_loopw [4, 5] (fun v i wr => ∃ j : Nat, j ≤ N ∧ i = .int .i64 j ∧ v = .int .i64 ((((List.range j).filter (covB zs)).length : Nat) : Int) ∧ Below w1.heap.size w1 wr) (fun _ i _ => N - (intOf i).toNat)
    case atStart => exact ⟨0, Nat.zero_le _, rfl, rfl, Below.refl _ _⟩
    case round =>
      obtain ⟨j, hj, rfl, rfl, hb⟩ := hrel
      have hsz : w1.heap.size ≤ wr.heap.size := hb.size
      have b := (hb.block _ hw1).trans B0.out
      have x0 := (blk_cell b 0).trans (cell2_0 _ _)
      have x1 := (blk_cell b 1).trans (cell2_1 _ _)
      have HBR := Lib.hid hb
      have HAL := Lib.hid (l1All_b (k : Int) a zs.length c wr hk1I hk6I)
      have HLE := Lib.hid (manyTo_le zs j)
      have HS := Lib.hid (manyTo_succ zs j)
      obtain ⟨C, hC⟩ : ∃ C, C = ((List.range j).filter (covB zs)).length := ⟨_, rfl⟩
      rw [← hC] at HLE HS ⊢
      have hCj := HLE.out
      have HCE := Lib.hid hC
      clear hb b hC
      by_cases hlt : j < N
      · have hjN : (j : Int) ≤ ((N - 1 : Nat) : Int) := by omega
        have hj64 : j < 64 := by omega
        go_wp2_with fail
        refine HAL.out.mono ?_
        rintro e w2 ⟨rfl, hb2⟩
        rw [HFU.out]
        have y0 := (hb2.cell (p := ⟨w.heap.size, 0, none⟩) (by show w.heap.size < wr.heap.size; omega)).trans x0
        have y1 := (hb2.cell (p := ⟨w.heap.size, 1, none⟩) (by show w.heap.size < wr.heap.size; omega)).trans x1
        have HIn2 := Lib.hid (l4In_any a c zs j w2 (((HI.out.below (HBR.out.mono (by omega))).below (hb2.mono (by omega))).mono (by have := hb2.size; omega)) hx HZ6.out hj64)
        have HB2 := Lib.hid (HBR.out.trans (hb2.mono hsz))
        clear hb2
        cases hcv : covB zs j
        · have HCV := Lib.hid hcv
          have HS2 : Hid (((List.range (j + 1)).filter (covB zs)).length = C) := Lib.hid (by rw [HS.out, hcv]; rfl)
          clear hcv
          go_wp2_with (go_at_call 16; refine HIn2.out.mono ?_; rintro e w3 ⟨rfl, rfl⟩; rw [HCV.out])
          go_roundw
          case rel => exact ⟨j + 1, by omega, by go_num, by rw [HS2.out], HB2.out⟩
          case measure => simp [intOf]; omega
        · have HCV := Lib.hid hcv
          have HS2 : Hid (((List.range (j + 1)).filter (covB zs)).length = C + 1) := Lib.hid (by rw [HS.out, hcv]; rfl)
          clear hcv
          go_wp2_with (go_at_call 16; refine HIn2.out.mono ?_; rintro e w3 ⟨rfl, rfl⟩; rw [HCV.out])
          go_roundw
          case rel => exact ⟨j + 1, by omega, by go_num, by rw [HS2.out]; go_num, HB2.out⟩
          case measure => simp [intOf]; omega
      · obtain rfl : j = N := by omega
        have hjN : ((j - 1 : Nat) : Int) < (j : Int) := by omega
        go_wp2_with fail
        refine HAL.out.mono ?_
        rintro e w2 ⟨rfl, hb2⟩
        rw [HFU.out]
        have HB2 := Lib.hid (HBR.out.trans (hb2.mono hsz))
        clear hb2
        go_wp2
        go_ret2
        exact ⟨by rw [HZ.out, ← HCE.out]; rfl, HB.out.trans (HB2.out.mono (by omega))⟩

end Go.Proofs.Ytbkhffcgekjndaa
