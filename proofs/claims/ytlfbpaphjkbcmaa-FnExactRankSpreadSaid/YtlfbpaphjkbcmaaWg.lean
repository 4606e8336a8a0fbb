/- It is proved what the reference model's RankSpread returns; conditions: those of each statement. -/
import Derived.RowKit
import Derived.Laws.CopyRow
import Derived.Lib.SlBuf
import Derived.Deep.QuietTactic
import Derived.RangeFuncNested
import Derived.RangeFuncBound
import Derived.RangeFuncCalls
import Derived.RangeFuncLeaves
import Derived.RangeFuncBox
import Derived.RangeFuncWrites
import Derived.StillTailTactics
import Derived.Maps.OwnIn
import Derived.Maps.Ext
import Derived.DeepKeys4
import Derived.MapKept
import Derived.Test.YtlfbpaphjkbcmaaRows
import Derived.WalkKit
import Derived.WalkSpells
import Derived.ProofKit
import Derived.OpenShut
import Derived.ShutString
import Derived.ChangeOld
import Derived.Below
import Derived.Deep.RegionHeld3
import Derived.BigQuiet
import Derived.Lib.Hide
import Derived.Lib.SmallJoins
import Derived.Outline
import Derived.Laws.MakeOwn
import Derived.Laws.OwnMore
import Derived.IntWalk
import Derived.Maps.AppendAt
import Derived.Deep.RegionLaw
import Derived.Deep.AppendLies
import Derived.Lib.AppendZeros
import Derived.OwnWalk
import Derived.Lib.SlicesCompact
import Derived.Lib.OwnBridge
import Derived.OrdersIn
import Derived.TacticsIn
import Derived.Shelf.Sort.Plain
import Derived.Shelf.Slices.In.SortNone
import Derived.Shelf.Slices.CompactI
import Derived.Ground.Names2Prog
import Derived.Lib.SliceRun
import Derived.Shelf.RegionOpen
import Derived.Shelf.Abstract
import Derived.OwnWalkIn
import Derived.TacticsInMore
import Derived.LoopNIn
import Derived.LoopIn
import Derived.StillTail
import Derived.StillTactics
import Derived.Shelf.Spec.TrailingZeros
import Derived.Test.YtlfbpaphjkbcmaaB
import Derived.Test.YtlfbpaphjkbcmaaC
import Derived.Test.YtlfbpaphjkbcmaaD
import Derived.Test.YtlfbpaphjkbcmaaE
import Derived.Test.YtlfbpaphjkbcmaaF
import Derived.Test.YtlfbpaphjkbcmaaFb
import Derived.Test.YtlfbpaphjkbcmaaG
import Derived.Test.YtlfbpaphjkbcmaaGa
import Derived.Test.YtlfbpaphjkbcmaaGb
import Derived.Test.YtlfbpaphjkbcmaaK
import Derived.Test.YtlfbpaphjkbcmaaKc
import Derived.Test.YtlfbpaphjkbcmaaKd
import Derived.Test.YtlfbpaphjkbcmaaKh
import Derived.Test.YtlfbpaphjkbcmaaKi
import Derived.Test.YtlfbpaphjkbcmaaKm
import Derived.Test.YtlfbpaphjkbcmaaMa
import Derived.Test.YtlfbpaphjkbcmaaMb
import Derived.Test.YtlfbpaphjkbcmaaMe
import Derived.Test.YtlfbpaphjkbcmaaOw
import Derived.Test.YtlfbpaphjkbcmaaP
import Derived.Test.YtlfbpaphjkbcmaaPb
import Derived.Test.YtlfbpaphjkbcmaaSa
import Derived.Test.YtlfbpaphjkbcmaaWf
import Derived.Test.YtlfbpaphjkbcmaaYv
import Derived.Test.YtlfbpaphjkbcmaaZa
import Derived.Test.YtlfbpaphjkbcmaaZb
namespace Go.Proofs.Ytlfbpaphjkbcmaa
open Go.RowKit

/-- A set is even with all clubs. -/
def spB (zs : List Int) (s : Nat) : Bool := evnB (shrZ zs (s : Int))

def spTo (zs : List Int) (n : Nat) : List Int := ((List.range n).filter (spB zs)).map fun s => ((s : Nat) : Int)
theorem spTo_succ (zs : List Int) (n : Nat) : spTo zs (n + 1) = spTo zs n ++ if spB zs n then [(n : Int)] else [] := by
  rw [spTo, List.range_succ, List.filter_append, List.map_append]
  cases h : spB zs n <;> simp [spTo, h]

theorem spTo_len (zs : List Int) (n : Nat) : (spTo zs n).length ≤ n := by
  unfold spTo
  rw [List.length_map]
  exact Nat.le_trans (List.length_filter_le _ _) (by simp)

def spL (m : Nat) (zs : List Int) : List Int := spTo zs (2 ^ m)
def spZ (m : Int) (zs : List Int) : List Int := if famIn m zs then spL m.toNat zs else []
theorem spZ_len (m : Int) (zs : List Int) : (spZ m zs).length ≤ 1048576 := by
  unfold spZ
  cases hf : famIn m zs
  · simp
  · obtain ⟨k, rfl, hk1, hk6, -⟩ := fam_nat hf
    have := spTo_len zs (2 ^ k)
    have hp64 : 2 ^ k ≤ 64 := Nat.pow_le_pow_right (n := 2) (by decide) hk6
    simp only [if_true, spL, Int.toNat_natCast]
    omega

/-- A set is even with the first clubs. -/
def evTo (zs : List Int) (s t : Nat) : Bool := evnB (shrZ (zs.take t) (s : Int))

theorem evTo_succ (zs : List Int) (s : Nat) {t : Nat} (h : t < zs.length) : evTo zs s (t + 1) = (evTo zs s t && evnZ (pop (bits .and .i64 (zs[t]?.getD 0) (s : Int)))) := by
  unfold evTo shrZ evnB
  rw [List.take_succ_eq_append_getElem h, List.map_append, List.map_append, List.all_append]
  simp [h]

theorem evTo_all (zs : List Int) (s : Nat) : evTo zs s zs.length = spB zs s := by unfold evTo spB; rw [List.take_length]
theorem pop_cnt {n : Nat} (h : n < 64) : pop (n : Int) = ((cntK 8 n : Nat) : Int) := pop_fin ⟨n, h⟩
theorem evn_pop {u : Nat} (h : u < 64) : evnZ (pop (u : Int)) = (Int.tmod ((cntK 8 u : Nat) : Int) 2 == 0) := by
  rw [pop_cnt h]
  unfold evnZ
  rw [Int.toNat_natCast, Int.tmod_eq_emod_of_nonneg (by omega)]
  rcases Nat.mod_two_eq_zero_or_one (cntK 8 u) with h | h
  · rw [h, show ((cntK 8 u : Nat) : Int) % 2 = 0 by omega]; rfl
  · rw [h, show ((cntK 8 u : Nat) : Int) % 2 = 1 by omega]; rfl

set_option maxRecDepth 100000 in
set_option maxHeartbeats 4000000 in
theorem specRankSpread_any (m : Int) (a : Option Addr) (c : Nat) (zs : List Int) (w : World) (ha : Ints w w.heap.size a zs) (hx : zs.length ≤ 1048576) :
    Calls Try.prog 22 #[.agg #[.int .i64 m, .slice a zs.length c]] w (RetSB w (spZ m zs) (famIn m zs)) := by
  obtain ⟨i0, hi0, hz0, hz1, hz2⟩ := info_parts Try.info3
  unfold spZ
  obtain ⟨W0, hW0, b0, hs0, hB0⟩ : ∃ W0, (w.alloc (.cells #[.int .i64 m, .slice a zs.length c] 28)).alloc (.cells #[] 3) = W0 ∧ HasBlk W0 w.heap.size #[.int .i64 m, .slice a zs.length c] 28 ∧ W0.heap.size = w.heap.size + 1 + 1 ∧ Below w.heap.size w W0 :=
    ⟨_, rfl, alloc2_0 w _ _, by simp, below2 w _ _⟩
  have hO0 : OwnN W0 (w.heap.size + 1) (some ⟨w.heap.size + 1, 0, none⟩) 0 0 ([] : List Int) := by
    rw [← hW0]
    have h := alloc_new (w.alloc (.cells #[.int .i64 m, .slice a zs.length c] 28)) (.cells #[] 3)
    simp only [World.size_alloc] at h
    exact own_empty h (Nat.le_refl _)
  have x0 := (blk_cell b0 0).trans (cell2_0 _ _)
  have x1 := (blk_cell b0 1).trans (cell2_1 _ _)
  rw [← hW0] at x0 x1
  have HW0 := Lib.hid hW0
  have HS0 := Lib.hid hs0
  have HB0 := Lib.hid hB0
  have HO0 := Lib.hid hO0
  have B0 := Lib.hid b0
  have HA := Lib.hid ((ha.below hB0).mono hB0.size)
  have HA0 := Lib.hid ha
  clear ha hW0 hs0 hB0 hO0 b0
  cases hf : famIn m zs
  · have HF := Lib.hid hf
    clear hf
    go_enter Try.func22, Try.ntmps22
    go_wp2_with fail
    rw [HW0.out]
    refine (specFamilyIn_any _ _ _ zs _ HA.out hx).mono ?_
    rintro e w1 ⟨rfl, hb⟩
    rw [HF.out]
    have HB := Lib.hid hb
    clear hb
    go_wp2
    go_ret2
    exact ⟨_, 0, rfl, own_mono (HO0.out.below (HB.out.mono (by have := HS0.out; omega))) (by omega), HB0.out.trans (HB.out.mono (by have := HS0.out; omega))⟩
  · have HF := Lib.hid hf
    obtain ⟨k, rfl, hk1, hk6, hset, hl8⟩ := fam_nat hf
    have hp64 : 2 ^ k ≤ 64 := Nat.pow_le_pow_right (n := 2) (by decide) hk6
    have hz64 : ∀ z ∈ zs, 0 ≤ z ∧ z.toNat < 64 := fun z h => ⟨(hset z h).1, by have := (hset z h).2; omega⟩
    have hfull : fullI (k : Int) = ((2 ^ k - 1 : Nat) : Int) := by unfold fullI; rw [cast_full]; simp
    obtain ⟨N, hN⟩ : ∃ N, N = 2 ^ k := ⟨_, rfl⟩
    have hN1 : 1 ≤ N := by rw [hN]; exact Nat.one_le_two_pow
    have HNN := Lib.hid hN
    rw [← hN] at hp64 hfull
    have HFU := Lib.hid hfull
    have HZ := Lib.hid hz64
    have hm1I : (1 : Int) ≤ (k : Int) := by omega
    have hm6I : (k : Int) ≤ 6 := by omega
    clear hf hset hz64 hfull hN
    go_enter Try.func22, Try.ntmps22
    go_wp2_with fail
    rw [HW0.out]
    refine (specFamilyIn_any _ _ _ zs _ HA.out hx).mono ?_
    rintro e w1 ⟨rfl, hb⟩
    rw [HF.out]
    have hs1 := hb.size
    have HB1 := Lib.hid (hb.mono (show w.heap.size + 1 ≤ W0.heap.size by have := HS0.out; omega))
    have HBb := Lib.hid (HB0.out.trans (hb.mono (show w.heap.size ≤ W0.heap.size by have := HS0.out; omega)))
    have hbk : HasBlk w1 w.heap.size #[.int .i64 (k : Int), .slice a zs.length c] 28 := (hb.block _ (by have := HS0.out; omega)).trans B0.out
    have HBK := Lib.hid hbk
    have HO1 := Lib.hid (HO0.out.below hb)
    have HI1 := Lib.hid ((HA.out.below hb).mono hb.size)
    have HS1 := Lib.hid (show w.heap.size + 2 ≤ w1.heap.size by have := HS0.out; omega)
    clear hb hbk hs1 x0 x1
    go_wp2
    go_loopw [4, 5] (fun v i wr => ∃ (j n' : Nat) (g' c' : Nat), j ≤ N ∧ i = .int .i64 (j : Int) ∧ v = .slice (some ⟨g', 0, none⟩) n' c' ∧ n' ≤ j ∧ OwnN wr (w.heap.size + 1) (some ⟨g', 0, none⟩) n' c' (spTo zs j) ∧ Below (w.heap.size + 1) w1 wr) (fun _ i _ => N - (intOf i).toNat)
    case atStart => exact ⟨0, _, _, _, Nat.zero_le _, rfl, rfl, Nat.le_refl _, HO1.out, Below.refl _ _⟩
    case round =>
      obtain ⟨j, n', g', c', hj, rfl, rfl, hn', ho, hb⟩ := hrel
      obtain ⟨wo, rfl⟩ : ∃ wo, wo = wr := ⟨wr, rfl⟩
      have HO := Lib.hid ho
      have HB := Lib.hid hb
      have hsw := hb.size
      have hs1 := HS1.out
      have hwo : w.heap.size < wo.heap.size := by omega
      have hbo : HasBlk wo w.heap.size #[.int .i64 (k : Int), .slice a zs.length c] 28 := (hb.block _ (by omega)).trans HBK.out
      have x0 := (blk_cell hbo 0).trans (cell2_0 _ _)
      have x1 := (blk_cell hbo 1).trans (cell2_1 _ _)
      have HIr := Lib.hid (HA0.out.below (HBb.out.trans (hb.mono (show w.heap.size ≤ w.heap.size + 1 by omega))))
      have HCS := Lib.hid (spTo_succ zs j)
      clear ho hb hbo hs1
      have HAL := Lib.hid (l1All_b (k : Int) a zs.length c wo hm1I hm6I)
      have hj0 : (0 : Int) ≤ (j : Int) := by omega
      have hj64I : (j : Int) ≤ 64 := by omega
      by_cases hlt : j < N
      · have hjN : (j : Int) ≤ ((N - 1 : Nat) : Int) := by omega
        have hj64 : j < 64 := by omega
        go_wp2_with fail
        refine HAL.out.mono ?_
        rintro e w2 ⟨rfl, hb2⟩
        rw [HFU.out]
        have y0 := (hb2.cell (p := ⟨w.heap.size, 0, none⟩) hwo).trans x0
        have y1 := (hb2.cell (p := ⟨w.heap.size, 1, none⟩) hwo).trans x1
        have hs2 := hb2.size
        have hsv : w.heap.size < w2.heap.size := by omega
        have HI2 : Hid (Ints w2 w2.heap.size a zs) := Lib.hid (show Ints w2 w2.heap.size a zs from (HIr.out.below (hb2.mono (show w.heap.size ≤ wo.heap.size by omega))).mono (by omega))
        have HB2 := Lib.hid hb2
        clear hb2 x0 x1
        go_wp2
        go_loop [6, 7] (fun b i => ∃ t : Nat, t ≤ zs.length ∧ i = .int .i64 (t : Int) ∧ b = .bool (evTo zs j t)) (fun _ i => zs.length - (intOf i).toNat)
        case atStart => exact ⟨0, Nat.zero_le _, rfl, rfl⟩
        case round =>
          obtain ⟨t, ht, rfl, rfl⟩ := hrel
          by_cases hlt2 : t < zs.length
          · obtain ⟨b1, o1, rfl, hb1, hc1⟩ := HI2.out.at_ (k := t) hlt2
            obtain ⟨z0, z1⟩ := HZ.out _ (at_in (k := t) hlt2)
            obtain ⟨z, hzz⟩ : ∃ z : Nat, zs[t]?.getD 0 = (z : Int) := ⟨(zs[t]?.getD 0).toNat, by omega⟩
            rw [hzz, Int.toNat_natCast] at z1
            rw [hzz] at hc1
            have hES := evTo_succ zs j hlt2
            rw [hzz] at hES
            have hand := and6_at z j z1 hj64
            have hu64 : z &&& j < 64 := Nat.lt_of_le_of_lt Nat.and_le_left z1
            rw [hand] at hES
            obtain ⟨u, hu⟩ : ∃ u, u = z &&& j := ⟨_, rfl⟩
            rw [← hu] at hES hand hu64
            have HSZ := Lib.hid (fun W => l1SizeW_any u W (by omega))
            have hev := evn_pop hu64
            have hc8 := cntK_bound 8 u
            obtain ⟨K, hK⟩ : ∃ K, K = cntK 8 u := ⟨_, rfl⟩
            rw [← hK] at HSZ hev hc8
            rw [hev] at hES
            have hKI : (K : Int) ≤ 8 := by omega
            have ht0 : (0 : Int) ≤ (t : Int) := by omega
            have htI : (t : Int) < (zs.length : Int) := by omega
            have ht64 : (t : Int) ≤ 64 := by omega
            have HES := Lib.hid hES
            clear hES hev hu hK hzz z0
            cases he : evTo zs j t
            · have HE : Hid (evTo zs j (t + 1) = false) := Lib.hid (by rw [HES.out, he]; rfl)
              clear he
              go_wp2
              go_round
              case rel => exact ⟨t + 1, by omega, by go_num, by rw [HE.out]⟩
              case measure => simp [intOf]; omega
            · have HE : Hid (evTo zs j (t + 1) = (Int.tmod (K : Int) 2 == 0)) := Lib.hid (by rw [HES.out, he]; rfl)
              clear he
              go_wp2_with fail
              refine (HSZ.out _).mono ?_
              rintro e w4 ⟨rfl, rfl⟩
              go_wp2
              go_round
              case rel => exact ⟨t + 1, by omega, by go_num, by rw [HE.out]; rfl⟩
              case measure => simp [intOf]; omega
          · obtain rfl : t = zs.length := by omega
            cases he : evTo zs j zs.length
            · have HMB : Hid (spTo zs (j + 1) = spTo zs j) := Lib.hid (by rw [HCS.out, show spB zs j = false by rw [← evTo_all]; exact he]; simp)
              have HBW := Lib.hid HB2.out
              clear he
              go_wp2
              go_roundw
              case rel => exact ⟨j + 1, n', g', c', by omega, by go_num, rfl, by omega, by rw [HMB.out]; exact HO.out.below HBW.out, HB.out.trans (HBW.out.mono (by omega))⟩
              case measure => simp [intOf]; omega
            · have HMB : Hid (spTo zs (j + 1) = spTo zs j ++ [(j : Int)]) := Lib.hid (by rw [HCS.out, show spB zs j = true by rw [← evTo_all]; exact he]; simp)
              clear he
              have HOS := Lib.hid (HO.out.below HB2.out)
              have HBW := Lib.hid (HB.out.trans (HB2.out.mono (by omega)))
              go_wp2_with (at_builtin; refine wpList_append_own _ rfl _ _ 22 rfl (w.heap.size + 1) 3 i0 (.int .i64 0) 1 8 Try.underlying22 hi0 hz0 hz1 hz2 rfl (by decide) _ _ _ rfl (HOS.out.alloc _) ⟨w2.heap.size, 0, none⟩ 1 1 [.int .i64 (j : Int)] rfl rfl (cell_one_new _ _ _) (by simp [Value.oneCell']) (by simp only [maxLen]; omega) (by omega) (by simp; omega) ?_; intro v' w5 hown hgrow _; obtain ⟨g2, cap', rfl, _, _⟩ := World.ownsRow.form hown (by omega))
              go_roundw
              case rel => exact ⟨j + 1, n' + 1, _, cap', by omega, by go_num, rfl, by omega, by
                rw [HMB.out]
                have h1 := hown
                unfold OwnN
                rw [List.map_append]
                exact h1, (HBW.out.alloc (by omega) _).grown hgrow (by simp; omega) (fun g e => (World.ownsRow.lt HOS.out g e).1)⟩
              case measure => simp [intOf]; omega
      · obtain rfl : j = N := by omega
        have HLL : Hid (spTo zs j = spL k zs) := Lib.hid (by rw [HNN.out]; rfl)
        have hl : n' = (spL k zs).length := by rw [← HLL.out]; exact HO.out.len.symm
        subst hl
        have hjN : (((j - 1 : Nat) : Int)) < (j : Int) := by omega
        go_wp2_with fail
        refine HAL.out.mono ?_
        rintro e w2 ⟨rfl, hb2⟩
        rw [HFU.out]
        have HB2 := Lib.hid hb2
        clear hb2
        go_wp2
        go_ret2
        refine ⟨_, c', rfl, ?_, (HBb.out.trans (HB.out.mono (by omega))).trans (HB2.out.mono (by omega))⟩
        have h1 := (HO.out.below HB2.out).base (B' := w.heap.size) (by omega)
        rw [HLL.out] at h1
        exact h1

end Go.Proofs.Ytlfbpaphjkbcmaa
