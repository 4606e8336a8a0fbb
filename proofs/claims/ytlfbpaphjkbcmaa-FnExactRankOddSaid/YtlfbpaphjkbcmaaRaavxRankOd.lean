/- It is proved what eachTwo returns for the two questions that are asked of each two clubs, and RankOdd and RankSame of the program; conditions: those of each statement. -/
import Derived.RowKit
import Derived.Laws.CopyRow
import Derived.Lib.SlBuf
import Derived.Deep.QuietTactic
import Derived.RangeFuncNested
import Derived.RangeFuncBound
import Derived.RangeFuncCalls
import Derived.RangeFuncLeaves
import Derived.RangeFuncBox
import Derived.RangeFuncWrites
import Derived.StillTailTactics
import Derived.Maps.OwnIn
import Derived.Maps.Ext
import Derived.DeepKeys4
import Derived.MapKept
import Derived.Test.YtlfbpaphjkbcmaaRows
import Derived.WalkKit
import Derived.WalkSpells
import Derived.ProofKit
import Derived.OpenShut
import Derived.ShutString
import Derived.ChangeOld
import Derived.Below
import Derived.Deep.RegionHeld3
import Derived.BigQuiet
import Derived.Lib.Hide
import Derived.Lib.SmallJoins
import Derived.Outline
import Derived.Laws.MakeOwn
import Derived.Laws.OwnMore
import Derived.IntWalk
import Derived.Deep.RegionLaw
import Derived.Deep.AppendLies
import Derived.Lib.AppendZeros
import Derived.Maps.AppendAt
import Derived.OwnWalk
import Derived.Lib.SlicesCompact
import Derived.Lib.OwnBridge
import Derived.OrdersIn
import Derived.TacticsIn
import Derived.Shelf.Sort.Plain
import Derived.Shelf.Slices.In.SortNone
import Derived.Shelf.Slices.CompactI
import Derived.Ground.Names2Prog
import Derived.Lib.SliceRun
import Derived.Shelf.Abstract
import Derived.Shelf.RegionOpen
import Derived.OwnWalkIn
import Derived.TacticsInMore
import Derived.LoopNIn
import Derived.LoopIn
import Derived.StillTail
import Derived.StillTactics
import Derived.Shelf.Spec.TrailingZeros
import Derived.Test.YtlfbpaphjkbcmaaB
import Derived.Test.YtlfbpaphjkbcmaaC
import Derived.Test.YtlfbpaphjkbcmaaD
import Derived.Test.YtlfbpaphjkbcmaaE
import Derived.Test.YtlfbpaphjkbcmaaF
import Derived.Test.YtlfbpaphjkbcmaaRaasxRankOd
import Derived.Test.YtlfbpaphjkbcmaaRaatxRankOd
import Derived.Test.YtlfbpaphjkbcmaaSa
import Derived.Test.YtlfbpaphjkbcmaaRaauxRankOd
import Derived.Test.YtlfbpaphjkbcmaaZa
namespace Go.Proofs.Ytlfbpaphjkbcmaa
open Go.RowKit

/-- A question that is answered with yes for all numbers shared. -/
def twoB (R : Bool → Int → Bool) (L : List (List Int)) : Bool := (List.range L.length).all fun i => (List.range (L[i]?.getD []).length).all fun j => R ((i : Int) == (j : Int)) ((L[i]?.getD [])[j]?.getD 0)

theorem two_no {R : Bool → Int → Bool} {L : List (List Int)} {i j : Nat} (hi : i < L.length) (hj : j < (L[i]?.getD []).length) (h : R ((i : Int) == (j : Int)) ((L[i]?.getD [])[j]?.getD 0) = false) : twoB R L = false :=
  List.all_eq_false.2 ⟨i, List.mem_range.2 hi, by
    rw [Bool.not_eq_true]
    exact List.all_eq_false.2 ⟨j, List.mem_range.2 hj, by rw [h]; simp⟩⟩

theorem two_yes {R : Bool → Int → Bool} {L : List (List Int)} (h : ∀ i, i < L.length → ∀ j, j < (L[i]?.getD []).length → R ((i : Int) == (j : Int)) ((L[i]?.getD [])[j]?.getD 0) = true) : twoB R L = true :=
  List.all_eq_true.2 fun i hi => List.all_eq_true.2 fun j hj => h i (List.mem_range.1 hi) j (List.mem_range.1 hj)

theorem com_at {zs : List Int} {i : Nat} (h : i < zs.length) : (comL zs zs)[i]?.getD [] = shrZ zs (zs[i]?.getD 0) := by
  unfold comL
  rw [List.getElem?_map, List.getElem?_eq_getElem h]
  rfl

theorem shr_at {zs : List Int} {x : Int} {j : Nat} (h : j < zs.length) : (shrZ zs x)[j]?.getD 0 = pop (bits .and .i64 (zs[j]?.getD 0) x) := by
  unfold shrZ
  rw [List.getElem?_map, List.getElem?_map, List.getElem?_eq_getElem h]
  rfl

theorem shr_two {zs : List Int} (hz : ∀ z ∈ zs, 0 ≤ z ∧ z.toNat < 64) {i j : Nat} (hi : i < zs.length) (hj : j < zs.length) :
    ((comL zs zs)[i]?.getD [])[j]?.getD 0 = ((cntK 8 ((zs[j]?.getD 0).toNat &&& (zs[i]?.getD 0).toNat) : Nat) : Int) := by
  rw [com_at hi, shr_at hj]
  obtain ⟨h1, h2⟩ := hz _ (at_in hi)
  obtain ⟨h3, h4⟩ := hz _ (at_in hj)
  obtain ⟨x, hx⟩ : ∃ x : Nat, zs[i]?.getD 0 = (x : Int) := ⟨(zs[i]?.getD 0).toNat, by omega⟩
  obtain ⟨y, hy⟩ : ∃ y : Nat, zs[j]?.getD 0 = (y : Int) := ⟨(zs[j]?.getD 0).toNat, by omega⟩
  rw [hx, Int.toNat_natCast] at h2 ⊢
  rw [hy, Int.toNat_natCast] at h4 ⊢
  rw [and6_at y x h4 h2]
  exact pop_fin ⟨y &&& x, Nat.lt_of_le_of_lt Nat.and_le_left h4⟩

theorem shrd_nat {zs : List Int} (hz : ∀ z ∈ zs, 0 ≤ z ∧ z.toNat < 64) : ∀ i, i < zs.length → ∀ j, j < zs.length → ∃ y : Nat, ((comL zs zs)[i]?.getD [])[j]?.getD 0 = (y : Int) ∧ y ≤ 8 := fun i hi j hj =>
  ⟨_, shr_two hz hi hj, memK_len 8 _⟩

/-- Odd just for a club and itself. -/
def oddR (s : Bool) (n : Int) : Bool := s == decide (n.toNat % 2 = 1)

/-- As many, but for a club and itself. -/
def sameR (v : Int) (s : Bool) (n : Int) : Bool := s || (n == v)

theorem oddFn_any (s : Bool) (y : Nat) (w : World) :
    Calls Try.prog 40 #[.bool s, .int .i64 (y : Int)] w fun e w' => e = .returned (.bool (oddR s (y : Int))) ∧ w = w' := by
  have HE : Hid ((Int.tmod (y : Int) 2 == 1) = decide ((y : Int).toNat % 2 = 1)) := Lib.hid (by
    rw [Int.toNat_natCast, Int.tmod_eq_emod_of_nonneg (by omega)]
    rcases Nat.mod_two_eq_zero_or_one y with h | h
    · rw [h]; rw [show (y : Int) % 2 = 0 by omega]; rfl
    · rw [h]; rw [show (y : Int) % 2 = 1 by omega]; rfl)
  go_enter Try.func40, Try.ntmps40
  go_wp2
  go_ret
  exact ⟨by unfold oddR; rw [← HE.out]; rfl, rfl⟩

theorem sameFn_any (v : Int) (P : Nat) (s : Bool) (y : Nat) (w : World) (hc : w.cell? ⟨P, 0, none⟩ = some (.int .i64 v)) :
    Calls Try.prog 42 #[.bool s, .int .i64 (y : Int), .pointer (some ⟨P, 0, none⟩)] w fun e w' => e = .returned (.bool (sameR v s (y : Int))) ∧ w = w' := by
  cases s
  · go_enter Try.func42, Try.ntmps42
    go_wp2
    go_ret
    exact ⟨by simp [sameR], rfl⟩
  · go_enter Try.func42, Try.ntmps42
    go_wp2
    go_ret
    exact ⟨by simp [sameR], rfl⟩

set_option maxRecDepth 100000 in
set_option maxHeartbeats 4000000 in
theorem eachOdd_any (m : Int) (a : Option Addr) (c : Nat) (zs : List Int) (w : World) (ha : Ints w w.heap.size a zs) (hx : zs.length ≤ 1048576) (hz : ∀ z ∈ zs, 0 ≤ z ∧ z.toNat < 64) :
    Calls Try.prog 39 #[.agg #[.int .i64 m, .slice a zs.length c], .func (.func 40) #[] #[]] w fun e w' => e = .returned (.bool (twoB oddR (comL zs zs))) ∧ Below w.heap.size w w' := by
  have HB0 := Lib.hid (below1 w (.cells #[.int .i64 m, .slice a zs.length c] 28))
  have HCM := Lib.hid (common_any m a c zs (w.alloc (.cells #[.int .i64 m, .slice a zs.length c] 28)) ((ha.below HB0.out).mono (by simp)) hx hz)
  have HNN := Lib.hid (shrd_nat hz)
  have hll : (comL zs zs).length = zs.length := by unfold comL; rw [List.length_map]
  have HROW : Hid (∀ i, i < zs.length → ((comL zs zs)[i]?.getD []).length = zs.length) := Lib.hid (fun i hi => by rw [com_at hi, shrZ_len])
  obtain ⟨L, hL⟩ : ∃ L, L = comL zs zs := ⟨_, rfl⟩
  rw [← hL] at HCM HNN hll HROW ⊢
  obtain ⟨N, hN⟩ : ∃ N, N = zs.length := ⟨_, rfl⟩
  rw [← hN] at hll HROW HNN
  have HN := Lib.hid hN
  have hN20 : N ≤ 1048576 := by omega

  clear ha hz hL hx hN
  go_enter Try.func39, Try.ntmps39
  go_wp2_with fail
  refine HCM.out.mono ?_
  rintro e w1 ⟨g0, cap, rfl, hr, hb⟩
  rw [hll] at hr ⊢
  have HR := Lib.hid hr
  have HB1 := Lib.hid (HB0.out.trans (hb.mono (by simp)))

  have HLL := Lib.hid hll
  clear hr hb hll HCM
  go_wp2
  go_loop [12] (fun i => ∃ p : Nat, p ≤ N ∧ i = .int .i64 (p : Int) ∧ Hid (∀ i, i < p → ∀ j, j < N → oddR ((i : Int) == (j : Int)) ((L[i]?.getD [])[j]?.getD 0) = true)) (fun i => N - (intOf i).toNat)
  case atStart => exact ⟨0, Nat.zero_le _, rfl, Lib.hid fun i hi => by omega⟩
  case round =>
    obtain ⟨p, hp, rfl, HA⟩ := hrel
    have hp0 : (0 : Int) ≤ (p : Int) := by omega
    by_cases hlt : p < N
    · have hpI : (p : Int) < (N : Int) := by omega
      obtain ⟨g, a1, c1, rfl, hcell, hown⟩ := HR.out.at_ (i := p) (by rw [HLL.out]; exact hlt)
      rw [HROW.out p hlt] at hcell hown
      have HO := Lib.hid (hown.ints : Ints w1 w1.heap.size a1 (L[p]?.getD []))
      clear hown
      go_wp2
      go_loop [19] (fun i => ∃ q : Nat, q ≤ N ∧ i = .int .i64 (q : Int) ∧ Hid (∀ j, j < q → oddR ((p : Int) == (j : Int)) ((L[p]?.getD [])[j]?.getD 0) = true)) (fun i => N - (intOf i).toNat)
      case atStart => exact ⟨0, Nat.zero_le _, rfl, Lib.hid fun i hi => by omega⟩
      case round =>
        obtain ⟨q, hq, rfl, HA2⟩ := hrel
        have hq0 : (0 : Int) ≤ (q : Int) := by omega
        by_cases hlt2 : q < N
        · have hqI : (q : Int) < (N : Int) := by omega
          obtain ⟨b1, o1, rfl, hb1, hc1⟩ := HO.out.at_ (k := q) (by rw [HROW.out p hlt]; exact hlt2)
          obtain ⟨y, hy, hy9⟩ := HNN.out p hlt q hlt2
          rw [hy] at hc1
          have HC := Lib.hid (oddFn_any ((p : Int) == (q : Int)) y w1)
          have HY := Lib.hid hy
          clear hy
          cases hv : oddR ((p : Int) == (q : Int)) (y : Int)
          · have HV := Lib.hid hv
            rw [hv] at HC
            clear hv
            go_wp2_with fail
            refine HC.out.mono ?_
            rintro e w2 ⟨rfl, rfl⟩
            go_wp2
            go_ret
            exact ⟨by rw [two_no (by rw [HLL.out]; exact hlt) (by rw [HROW.out p hlt]; exact hlt2) (by rw [HY.out]; exact HV.out)]; rfl, HB1.out⟩
          · have HV := Lib.hid hv
            rw [hv] at HC
            clear hv
            go_wp2_with fail
            refine HC.out.mono ?_
            rintro e w2 ⟨rfl, rfl⟩
            go_wp2
            go_round
            case rel => exact ⟨q + 1, by omega, by go_num, Lib.hid fun j hj => by
              rcases Nat.lt_succ_iff_lt_or_eq.1 hj with h | rfl
              · exact HA2.out j h
              · rw [HY.out]; exact HV.out⟩
            case measure => simp [intOf]; omega
        · obtain rfl : q = N := by omega
          go_wp2
          go_round
          case rel => exact ⟨p + 1, by omega, by go_num, Lib.hid fun i hi j hj => by
            rcases Nat.lt_succ_iff_lt_or_eq.1 hi with h | rfl
            · exact HA.out i h j hj
            · exact HA2.out j hj⟩
          case measure => simp [intOf]; omega
    · obtain rfl : p = N := by omega
      go_wp2
      go_ret
      exact ⟨by rw [two_yes (fun i hi j hj => HA.out i (by rw [← HLL.out]; exact hi) j (by rw [HROW.out i (by rw [← HLL.out]; exact hi)] at hj; exact hj))]; rfl, HB1.out⟩

set_option maxRecDepth 100000 in
set_option maxHeartbeats 4000000 in
theorem eachSame_any (m : Int) (a : Option Addr) (c : Nat) (zs : List Int) (v : Int) (P : Nat) (w : World) (ha : Ints w w.heap.size a zs) (hx : zs.length ≤ 1048576) (hz : ∀ z ∈ zs, 0 ≤ z ∧ z.toNat < 64) (hP : w.cell? ⟨P, 0, none⟩ = some (.int .i64 v)) :
    Calls Try.prog 39 #[.agg #[.int .i64 m, .slice a zs.length c], .func (.func 42) #[] #[.pointer (some ⟨P, 0, none⟩)]] w fun e w' => e = .returned (.bool (twoB (sameR v) (comL zs zs))) ∧ Below w.heap.size w w' := by
  have HB0 := Lib.hid (below1 w (.cells #[.int .i64 m, .slice a zs.length c] 28))
  have HCM := Lib.hid (common_any m a c zs (w.alloc (.cells #[.int .i64 m, .slice a zs.length c] 28)) ((ha.below HB0.out).mono (by simp)) hx hz)
  have HNN := Lib.hid (shrd_nat hz)
  have hll : (comL zs zs).length = zs.length := by unfold comL; rw [List.length_map]
  have HROW : Hid (∀ i, i < zs.length → ((comL zs zs)[i]?.getD []).length = zs.length) := Lib.hid (fun i hi => by rw [com_at hi, shrZ_len])
  obtain ⟨L, hL⟩ : ∃ L, L = comL zs zs := ⟨_, rfl⟩
  rw [← hL] at HCM HNN hll HROW ⊢
  obtain ⟨N, hN⟩ : ∃ N, N = zs.length := ⟨_, rfl⟩
  rw [← hN] at hll HROW HNN
  have HN := Lib.hid hN
  have hN20 : N ≤ 1048576 := by omega
  have HP := Lib.hid hP
  clear hP
  clear ha hz hL hx hN
  go_enter Try.func39, Try.ntmps39
  go_wp2_with fail
  refine HCM.out.mono ?_
  rintro e w1 ⟨g0, cap, rfl, hr, hb⟩
  rw [hll] at hr ⊢
  have HR := Lib.hid hr
  have HB1 := Lib.hid (HB0.out.trans (hb.mono (by simp)))
  have hP1 := ((HB0.out.trans (hb.mono (show w.heap.size ≤ _ by simp))).cell (p := ⟨P, 0, none⟩) (lt_of_cell HP.out)).trans HP.out
  have HP1 := Lib.hid hP1
  clear hP1
  have HLL := Lib.hid hll
  clear hr hb hll HCM
  go_wp2
  go_loop [12] (fun i => ∃ p : Nat, p ≤ N ∧ i = .int .i64 (p : Int) ∧ Hid (∀ i, i < p → ∀ j, j < N → (sameR v) ((i : Int) == (j : Int)) ((L[i]?.getD [])[j]?.getD 0) = true)) (fun i => N - (intOf i).toNat)
  case atStart => exact ⟨0, Nat.zero_le _, rfl, Lib.hid fun i hi => by omega⟩
  case round =>
    obtain ⟨p, hp, rfl, HA⟩ := hrel
    have hp0 : (0 : Int) ≤ (p : Int) := by omega
    by_cases hlt : p < N
    · have hpI : (p : Int) < (N : Int) := by omega
      obtain ⟨g, a1, c1, rfl, hcell, hown⟩ := HR.out.at_ (i := p) (by rw [HLL.out]; exact hlt)
      rw [HROW.out p hlt] at hcell hown
      have HO := Lib.hid (hown.ints : Ints w1 w1.heap.size a1 (L[p]?.getD []))
      clear hown
      go_wp2
      go_loop [19] (fun i => ∃ q : Nat, q ≤ N ∧ i = .int .i64 (q : Int) ∧ Hid (∀ j, j < q → (sameR v) ((p : Int) == (j : Int)) ((L[p]?.getD [])[j]?.getD 0) = true)) (fun i => N - (intOf i).toNat)
      case atStart => exact ⟨0, Nat.zero_le _, rfl, Lib.hid fun i hi => by omega⟩
      case round =>
        obtain ⟨q, hq, rfl, HA2⟩ := hrel
        have hq0 : (0 : Int) ≤ (q : Int) := by omega
        by_cases hlt2 : q < N
        · have hqI : (q : Int) < (N : Int) := by omega
          obtain ⟨b1, o1, rfl, hb1, hc1⟩ := HO.out.at_ (k := q) (by rw [HROW.out p hlt]; exact hlt2)
          obtain ⟨y, hy, hy9⟩ := HNN.out p hlt q hlt2
          rw [hy] at hc1
          have HC := Lib.hid (sameFn_any v P ((p : Int) == (q : Int)) y w1 HP1.out)
          have HY := Lib.hid hy
          clear hy
          cases hv : (sameR v) ((p : Int) == (q : Int)) (y : Int)
          · have HV := Lib.hid hv
            rw [hv] at HC
            clear hv
            go_wp2_with fail
            refine HC.out.mono ?_
            rintro e w2 ⟨rfl, rfl⟩
            go_wp2
            go_ret
            exact ⟨by rw [two_no (by rw [HLL.out]; exact hlt) (by rw [HROW.out p hlt]; exact hlt2) (by rw [HY.out]; exact HV.out)]; rfl, HB1.out⟩
          · have HV := Lib.hid hv
            rw [hv] at HC
            clear hv
            go_wp2_with fail
            refine HC.out.mono ?_
            rintro e w2 ⟨rfl, rfl⟩
            go_wp2
            go_round
            case rel => exact ⟨q + 1, by omega, by go_num, Lib.hid fun j hj => by
              rcases Nat.lt_succ_iff_lt_or_eq.1 hj with h | rfl
              · exact HA2.out j h
              · rw [HY.out]; exact HV.out⟩
            case measure => simp [intOf]; omega
        · obtain rfl : q = N := by omega
          go_wp2
          go_round
          case rel => exact ⟨p + 1, by omega, by go_num, Lib.hid fun i hi j hj => by
            rcases Nat.lt_succ_iff_lt_or_eq.1 hi with h | rfl
            · exact HA.out i h j hj
            · exact HA2.out j hj⟩
          case measure => simp [intOf]; omega
    · obtain rfl : p = N := by omega
      go_wp2
      go_ret
      exact ⟨by rw [two_yes (fun i hi j hj => HA.out i (by rw [← HLL.out]; exact hi) j (by rw [HROW.out i (by rw [← HLL.out]; exact hi)] at hj; exact hj))]; rfl, HB1.out⟩

def roddB (m : Int) (zs : List Int) : Bool := famIn m zs && twoB oddR (comL zs zs)
set_option maxRecDepth 100000 in
set_option maxHeartbeats 2000000 in
theorem implRankOdd_any (m : Int) (a : Option Addr) (c : Nat) (zs : List Int) (w : World) (ha : Ints w w.heap.size a zs) (hx : zs.length ≤ 1048576) :
    Calls Try.prog 25 #[.agg #[.int .i64 m, .slice a zs.length c]] w fun e w' => e = .returned (.bool (roddB m zs)) ∧ Below w.heap.size w w' := by
  have HB0 := Lib.hid (below1 w (.cells #[.int .i64 m, .slice a zs.length c] 28))
  have HA := Lib.hid (ha.below HB0.out)
  have HA0 := Lib.hid ha
  clear ha
  cases hf : famIn m zs
  · have HF := Lib.hid hf
    have HZ : Hid (roddB m zs = false) := Lib.hid (by unfold roddB; rw [hf]; rfl)
    clear hf
    go_enter Try.func25, Try.ntmps25
    go_wp2_with fail
    refine (implFamilyIn_any _ _ _ zs _ (HA.out.mono (by simp)) hx).mono ?_
    rintro e w1 ⟨rfl, hb⟩
    rw [HF.out]
    have HB := Lib.hid (HB0.out.trans (hb.mono (by simp)))
    clear hb
    go_wp2
    go_ret
    exact ⟨by rw [HZ.out]; rfl, HB.out⟩
  · have HF := Lib.hid hf
    have HZ : Hid (roddB m zs = twoB oddR (comL zs zs)) := Lib.hid (by unfold roddB; rw [hf]; rfl)
    obtain ⟨k, rfl, hk1, hk6, hset, hl8⟩ := fam_nat2 hf
    have HET := Lib.hid (fun W (hi : Ints W W.heap.size a zs) => eachOdd_any (k : Int) a c zs W hi hx (fun z h => ⟨(hset z h).1, p64 hk6 (hset z h).2⟩))
    clear hf hset
    go_enter Try.func25, Try.ntmps25
    go_wp2_with fail
    refine (implFamilyIn_any _ _ _ zs _ (HA.out.mono (by simp)) hx).mono ?_
    rintro e w1 ⟨rfl, hb⟩
    rw [HF.out]
    have b0 : HasBlk w1 w.heap.size #[.int .i64 (k : Int), .slice a zs.length c] 28 := (hb.block _ (by simp)).trans (alloc_new w _)
    have x0 := (blk_cell b0 0).trans (cell2_0 _ _)
    have x1 := (blk_cell b0 1).trans (cell2_1 _ _)
    have HB := Lib.hid (HB0.out.trans (hb.mono (by simp)))
    have HI1 := Lib.hid ((HA0.out.below HB.out).mono HB.out.size)
    clear hb b0
    go_wp2_with fail
    refine (HET.out _ HI1.out).mono ?_
    rintro e w2 ⟨rfl, hb2⟩
    have HB2 := Lib.hid (HB.out.trans (hb2.mono HB.out.size))
    clear hb2
    go_wp2
    go_ret
    exact ⟨by rw [HZ.out]; simp, HB2.out⟩

end Go.Proofs.Ytlfbpaphjkbcmaa

/- It is proved what the iterator over a set's members yields, each member known to be one; conditions: those of each statement. -/
namespace Go.Proofs.Ytlfbpaphjkbcmaa
open Go.RowKit Go.Shelf

attribute [local go_sem] Oper.semAt_some

/-- Numbers of names. -/
def nI (p : List Nat) : List Int := List.map (fun (v : Nat) => (v : Int)) p

theorem nI_len (p : List Nat) : (nI p).length = p.length := by simp [nI]
end Go.Proofs.Ytlfbpaphjkbcmaa

/- It is proved what triedCovers returns; conditions: those of each statement. -/
namespace Go.Proofs.Ytlfbpaphjkbcmaa
open Go.RowKit Go.Shelf

attribute [local go_sem] Oper.semAt_some

theorem HasBlk.ownF {β : Type} {B b : Nat} (hb : b < B) (cs : Array Value) (t : TypeId) : OwnF B (fun (_ : β) W => HasBlk W b cs t) := fun s X Y row hs hg hrow =>
  hs.kept hg (fun e' => by have := (hrow b e').1; omega)

theorem nI_len' (xs : List Nat) : (nI xs).length = xs.length := nI_len xs
theorem nI_snoc' (xs : List Nat) (x : Nat) : nI (xs ++ [x]) = nI xs ++ [(x : Int)] := by simp [nI]
end Go.Proofs.Ytlfbpaphjkbcmaa

/- It is proved what together and over return; conditions: those of each statement. -/
namespace Go.Proofs.Ytlfbpaphjkbcmaa
open Go.RowKit Go.Shelf

attribute [local go_sem] Oper.semAt_some

theorem cntK_bound (k s : Nat) : cntK k s ≤ k := memK_len k s
end Go.Proofs.Ytlfbpaphjkbcmaa

/- It is proved what pairs returns; conditions: those of each statement. -/
namespace Go.Proofs.Ytlfbpaphjkbcmaa
open Go.RowKit Go.Shelf

attribute [local go_sem] Oper.semAt_some

theorem memK_zero (k : Nat) : memK k 0 = [] := by
  unfold memK
  rw [List.filter_eq_nil_iff]
  simp

end Go.Proofs.Ytlfbpaphjkbcmaa

/- It is proved what the reference model's l1Size tells of sets of eight, and l5Together; conditions: those of each statement. -/
namespace Go.Proofs.Ytlfbpaphjkbcmaa
open Go.RowKit

set_option maxRecDepth 100000 in
theorem cnt8_half : ∀ t : Fin 256, cntK 8 t.val = t.val % 2 + cntK 8 (t.val / 2) := by decide +kernel

set_option maxRecDepth 100000 in
theorem low8_fin : ∀ t : Fin 256, bits .and .i64 (t.val : Int) 1 = ((t.val % 2 : Nat) : Int) := by decide +kernel

set_option maxRecDepth 100000 in
theorem l1SizeW_any (z : Nat) (w : World) (h : z < 256) : Calls Try.prog 30 #[.int .i64 (z : Int)] w fun e w' => e = .returned (.int .i64 ((cntK 8 z : Nat) : Int)) ∧ w = w' := by
  go_enter Try.func30, Try.ntmps30
  go_wp2
  go_loop [0, 3] (fun s n => ∃ t k : Nat, t < 256 ∧ k + cntK 8 t = cntK 8 z ∧ s = .int .i64 (t : Int) ∧ n = .int .i64 (k : Int)) (fun s _ => (intOf s).toNat)
  case atStart => exact ⟨z, 0, h, by omega, rfl, rfl⟩
  case round =>
    obtain ⟨t, k, ht, hk, rfl, rfl⟩ := hrel
    have hz8 := cntK_bound 8 z
    have hk8 : k ≤ 8 := by omega
    have hlow := low8_fin ⟨t, ht⟩
    have hhf := cnt8_half ⟨t, ht⟩
    simp only at hlow hhf
    have HK := Lib.hid hk
    have HH := Lib.hid hhf
    have hm2 : t % 2 < 2 := Nat.mod_lt _ (by decide)
    obtain ⟨r, hr⟩ : ∃ r, r = t % 2 := ⟨_, rfl⟩
    rw [← hr] at hlow hm2
    have HR := Lib.hid hr
    have htI : (t : Int) ≤ 255 := by omega
    have hkI : (k : Int) ≤ 8 := by omega
    have hrI : (r : Int) ≤ 1 := by omega
    clear hk hhf hr
    by_cases h0 : 0 < t
    · have h0I : (0 : Int) < (t : Int) := by omega
      go_wp2
      go_round
      case rel => exact ⟨t / 2, k + r, by omega, by have := HK.out; have := HH.out; have := HR.out; omega, by go_num, by go_num⟩
      case measure => simp [intOf]; omega
    · have ht0 : t = 0 := by omega
      have e0 : cntK 8 t = 0 := by rw [ht0]; unfold cntK; rw [memK_zero]; rfl
      have HE : Hid (cntK 8 z = k) := Lib.hid (by have := HK.out; omega)
      have h0I : ¬ ((0 : Int) < (t : Int)) := by omega
      clear ht0 e0
      go_wp2
      go_ret
      exact ⟨by rw [HE.out]; rfl, rfl⟩

end Go.Proofs.Ytlfbpaphjkbcmaa
