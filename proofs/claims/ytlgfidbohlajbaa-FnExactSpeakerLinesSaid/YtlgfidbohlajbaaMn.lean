/- It is proved what SpeakerLines of the reference model returns; conditions: those of each statement. -/
import Derived.RowKit
import Derived.Laws.CopyRow
import Derived.Lib.SlBuf
import Derived.Deep.QuietTactic
import Derived.RangeFuncNested
import Derived.RangeFuncBound
import Derived.RangeFuncCalls
import Derived.RangeFuncLeaves
import Derived.RangeFuncBox
import Derived.RangeFuncWrites
import Derived.StillTailTactics
import Derived.Maps.OwnIn
import Derived.Maps.Ext
import Derived.DeepKeys4
import Derived.MapKept
import Derived.Test.YtlgfidbohlajbaaRows
import Derived.WalkKit
import Derived.WalkSpells
import Derived.ProofKit
import Derived.OpenShut
import Derived.ShutString
import Derived.ChangeOld
import Derived.Below
import Derived.Deep.RegionHeld3
import Derived.BigQuiet
import Derived.Lib.Hide
import Derived.Lib.SmallJoins
import Derived.Outline
import Derived.Laws.MakeOwn
import Derived.Laws.OwnMore
import Derived.IntWalk
import Derived.Maps.AppendAt
import Derived.Deep.RegionLaw
import Derived.Deep.AppendLies
import Derived.Lib.AppendZeros
import Derived.OwnWalk
import Derived.Lib.SlicesCompact
import Derived.Lib.OwnBridge
import Derived.OrdersIn
import Derived.TacticsIn
import Derived.Shelf.Sort.Plain
import Derived.Shelf.Slices.In.SortNone
import Derived.Shelf.Slices.CompactI
import Derived.Ground.Names2Prog
import Derived.Lib.SliceRun
import Derived.Shelf.RegionOpen
import Derived.Shelf.Abstract
import Derived.OwnWalkIn
import Derived.TacticsInMore
import Derived.LoopNIn
import Derived.LoopIn
import Derived.StillTail
import Derived.StillTactics
import Derived.Shelf.Spec.TrailingZeros
import Derived.Test.YtlgfidbohlajbaaB
import Derived.Test.YtlgfidbohlajbaaC
import Derived.Test.YtlgfidbohlajbaaD
import Derived.Test.YtlgfidbohlajbaaE
import Derived.Test.YtlgfidbohlajbaaF
import Derived.Test.YtlgfidbohlajbaaFb
import Derived.Test.YtlgfidbohlajbaaG
import Derived.Test.YtlgfidbohlajbaaGa
import Derived.Test.YtlgfidbohlajbaaGb
import Derived.Test.YtlgfidbohlajbaaHu
import Derived.Test.YtlgfidbohlajbaaKd
import Derived.Test.YtlgfidbohlajbaaKl
import Derived.Test.YtlgfidbohlajbaaMa
import Derived.Test.YtlgfidbohlajbaaMb
import Derived.Test.YtlgfidbohlajbaaMe
import Derived.Test.YtlgfidbohlajbaaMk
import Derived.Test.YtlgfidbohlajbaaMl
import Derived.Test.YtlgfidbohlajbaaO
import Derived.Test.YtlgfidbohlajbaaSa
namespace Go.Proofs.Ytlgfidbohlajbaa
open Go.RowKit

set_option maxRecDepth 100000 in
set_option maxHeartbeats 4000000 in
theorem specSpeakerLines_any (m : Int) (a : Option Addr) (c : Nat) (zs : List Int) (w : World) (ha : Ints w w.heap.size a zs) (hx : zs.length ≤ 1048576) :
    Calls Try.prog 5 #[.agg #[.int .i64 m, .slice a zs.length c]] w (RetIB w (linZ m zs) (famIn m zs)) := by
  have HB0 := Lib.hid (below1 w (.cells #[.int .i64 m, .slice a zs.length c] 28))
  have HA := Lib.hid (ha.below HB0.out)
  clear ha
  unfold linZ
  cases hf : famIn m zs
  · have HF := Lib.hid hf
    clear hf
    go_enter Try.func5, Try.ntmps5
    go_wp2_with fail
    refine (specFamilyIn_any _ _ _ zs _ (HA.out.mono (by simp)) hx).mono ?_
    rintro e w1 ⟨rfl, hb⟩
    rw [HF.out]
    have HB := Lib.hid (HB0.out.trans (hb.mono (by simp)))
    clear hb
    go_wp2
    go_ret2
    exact ⟨rfl, HB.out⟩
  · have HF := Lib.hid hf
    obtain ⟨k, rfl, hk1, hk6, hset, hl8⟩ := fam_nat2 hf
    have hk1I : (1 : Int) ≤ (k : Int) := by omega
    have hk6I : (k : Int) ≤ 6 := by omega
    have hp64 : 2 ^ k ≤ 64 := Nat.pow_le_pow_right (n := 2) (by decide) hk6
    have hpp : 0 < 2 ^ k := Nat.two_pow_pos k
    have hfu : fullI (k : Int) = ((2 ^ k - 1 : Nat) : Int) := by unfold fullI; rw [cast_full]; simp
    have HFI := Lib.hid (specFamilyIn_any (k : Int) a c zs _ (HA.out.mono (show w.heap.size ≤ (w.alloc (.cells #[.int .i64 (k : Int), .slice a zs.length c] 28)).heap.size by simp)) hx)
    have HL16 : Hid (∀ ts, minF zs zs.length ts ≤ 16) := Lib.hid (fun ts => minF_small ts (by omega))
    obtain ⟨Y, hY⟩ : ∃ Y, Y = zs.length := ⟨_, rfl⟩
    have HY := Lib.hid hY
    have hY8 : Y ≤ 8 := by omega
    have HZ : Hid (linL ((k : Int)).toNat zs = minF zs Y (List.range (2 ^ k))) := Lib.hid (by rw [Int.toNat_natCast]; unfold linL; rw [hY])
    rw [← hY] at HFI HA HB0 HL16 ⊢
    obtain ⟨N, hN⟩ : ∃ N, N = 2 ^ k := ⟨_, rfl⟩
    rw [← hN] at hfu HZ hp64 hpp
    rw [HZ.out]
    have HFU := Lib.hid hfu
    clear hf hset hl8 hY hN hfu
    go_enter Try.func5, Try.ntmps5
    go_wp2_with fail
    refine HFI.out.mono ?_
    rintro e w1 ⟨rfl, hb⟩
    rw [HF.out]
    have b0 : w1.heap[w.heap.size]? = some (.cells #[.int .i64 (k : Int), .slice a Y c] 28 (0, 0)) := (hb.block _ (by simp)).trans (alloc_new w _)
    have x0 := (blk_cell b0 0).trans (cell2_0 _ _)
    have x1 := (blk_cell b0 1).trans (cell2_1 _ _)
    have B0 := Lib.hid b0
    have hs1 : w.heap.size < w1.heap.size := lt_of_some b0
    have HB := Lib.hid (HB0.out.trans (hb.mono (by simp)))
    have HI1 := Lib.hid ((HA.out.below (hb.mono (by simp))).mono (show w.heap.size ≤ w1.heap.size by omega))
    clear hb b0
    go_wp2
    clear x0 x1
    go_loopw [4, 5] (fun b i wr => ∃ t B : Nat, t ≤ N ∧ i = .int .i64 (t : Int) ∧ b = .int .i64 (B : Int) ∧ B = minF zs Y (List.range t) ∧ Below w1.heap.size w1 wr) (fun _ i _ => N - (intOf i).toNat)
    case atStart => exact ⟨0, Y, Nat.zero_le _, rfl, rfl, rfl, Below.refl _ _⟩
    case round =>
      obtain ⟨t, B, ht, rfl, rfl, hB, hb⟩ := hrel
      have hB16 : B ≤ 16 := by rw [hB]; exact HL16.out _
      have HBB := Lib.hid hB
      have b := (hb.block _ hs1).trans B0.out
      have x0 := (blk_cell b 0).trans (cell2_0 _ _)
      have x1 := (blk_cell b 1).trans (cell2_1 _ _)
      have HBR := Lib.hid hb
      have hsr := hb.size
      have HIr := Lib.hid (HI1.out.below hb)
      have HAL := Lib.hid (l1All_b (k : Int) a Y c wr hk1I hk6I)
      clear hB hb b
      by_cases hlt : t < N
      · have htI : (t : Int) ≤ ((N - 1 : Nat) : Int) := by omega
        have ht64 : t < 64 := by omega
        go_wp2_with fail
        refine HAL.out.mono ?_
        rintro e w2 ⟨rfl, hb2⟩
        rw [HFU.out]
        have y1 := (hb2.cell (p := ⟨w.heap.size, 1, none⟩) (by show w.heap.size < wr.heap.size; omega)).trans x1
        have y0 := (hb2.cell (p := ⟨w.heap.size, 0, none⟩) (by show w.heap.size < wr.heap.size; omega)).trans x0
        have HB2 := Lib.hid (HBR.out.trans (hb2.mono hsr))
        have HI2 := Lib.hid (HIr.out.below (hb2.mono (by omega)))
        obtain ⟨S, hS⟩ : ∃ S, S = cntK 8 t := ⟨_, rfl⟩
        have hS8 : S ≤ 8 := by rw [hS]; exact cntK_bound 8 t
        have hsz := l1SizeW_any t w2 (by omega)
        rw [← hS] at hsz
        have HSZ := Lib.hid hsz
        have HS := Lib.hid hS
        clear hb2 x0 x1 hsz hS
        go_wp2_with fail
        refine HSZ.out.mono ?_
        rintro e w3 ⟨rfl, rfl⟩
        go_wp2
        go_loop [6, 7] (fun n i => ∃ q D : Nat, q ≤ Y ∧ i = .int .i64 (q : Int) ∧ n = .int .i64 (D : Int) ∧ D = S + outN (zs.take q) t) (fun _ i => Y - (intOf i).toNat)
        case atStart => exact ⟨0, S, Nat.zero_le _, rfl, rfl, by rw [List.take_zero]; rfl⟩
        case round =>
          obtain ⟨q, D, hq, rfl, rfl, hD⟩ := hrel
          have hD16 : D ≤ 16 := by have := outN_le (zs.take q) t; rw [List.length_take] at this; omega
          have HD := Lib.hid hD
          clear hD
          by_cases hqY : q < Y
          · have hql : q < zs.length := by rw [← HY.out]; exact hqY
            obtain ⟨b1, o1, rfl, hb1, hc1⟩ := HI2.out.at_ (k := q) hql
            have htk : zs.take (q + 1) = zs.take q ++ [zs[q]?.getD 0] := by rw [List.take_succ_eq_append_getElem hql, List.getElem?_eq_getElem hql]; rfl
            obtain ⟨z, hz⟩ : ∃ z, z = zs[q]?.getD 0 := ⟨_, rfl⟩
            rw [← hz] at htk hc1
            have hsn := outN_snoc (zs.take q) z t
            rw [← htk] at hsn
            obtain ⟨A, hA⟩ : ∃ A, bits .andNot .i64 z (t : Int) = A := ⟨_, rfl⟩
            have hle : leG z (t : Int) = (A == 0) := by unfold leG; rw [hA]
            have hqI : (q : Int) < (Y : Int) := by omega
            rw [hle] at hsn
            clear htk hz hql hb1 hle
            cases h0 : (A == 0)
            · have HE : Hid (D + 1 = S + outN (zs.take (q + 1)) t) := Lib.hid (by rw [hsn, h0, HD.out]; simp; omega)
              have hne : ¬ A = 0 := by simpa using h0
              clear hsn
              go_wp2
              go_round
              case rel => exact ⟨q + 1, D + 1, by omega, by go_num, by go_num, HE.out⟩
              case measure => simp [intOf]; omega
            · have HE : Hid (D = S + outN (zs.take (q + 1)) t) := Lib.hid (by rw [hsn, h0]; exact HD.out)
              have hA0 : A = 0 := by simpa using h0
              rw [hA0] at hA
              clear hsn h0 hA0
              go_wp2
              go_round
              case rel => exact ⟨q + 1, D, by omega, by go_num, rfl, HE.out⟩
              case measure => simp [intOf]; omega
          · obtain rfl : q = Y := by omega
            have HE : Hid (min B D = minF zs q (List.range (t + 1))) := Lib.hid (by
              rw [List.range_succ, minF_snoc, ← HBB.out, HD.out, List.take_of_length_le (by rw [HY.out]; exact Nat.le_refl _), HS.out]
              rfl)
            go_wp2
            go_roundw
            case rel => exact ⟨t + 1, min B D, by omega, by go_num, by go_num, HE.out, HB2.out⟩
            case measure => simp [intOf]; omega
      · obtain rfl : t = N := by omega
        have htI : ((t - 1 : Nat) : Int) < (t : Int) := by omega
        go_wp2_with fail
        refine HAL.out.mono ?_
        rintro e w2 ⟨rfl, hb2⟩
        rw [HFU.out]
        have HR := Lib.hid (HB.out.trans ((HBR.out.trans (hb2.mono hsr)).mono (show w.heap.size ≤ w1.heap.size by omega)))
        clear hb2
        go_wp2
        go_ret2
        exact ⟨by rw [← HBB.out]; rfl, HR.out⟩

end Go.Proofs.Ytlgfidbohlajbaa
