/- It is proved that the call of the law FnColourMany returns true; conditions: those of each statement. -/
import Derived.RowKit
import Derived.Laws.CopyRow
import Derived.Lib.SlBuf
import Derived.Deep.QuietTactic
import Derived.RangeFuncNested
import Derived.RangeFuncBound
import Derived.RangeFuncCalls
import Derived.RangeFuncLeaves
import Derived.RangeFuncBox
import Derived.RangeFuncWrites
import Derived.StillTailTactics
import Derived.Maps.OwnIn
import Derived.Maps.Ext
import Derived.DeepKeys4
import Derived.MapKept
import Derived.Test.YtphddemilibooaaDoorRows
import Derived.WalkKit
import Derived.WalkSpells
import Derived.ProofKit
import Derived.OpenShut
import Derived.ShutString
import Derived.ChangeOld
import Derived.Below
import Derived.Deep.RegionHeld3
import Derived.BigQuiet
import Derived.Lib.Hide
import Derived.Lib.SmallJoins
import Derived.Outline
import Derived.Laws.MakeOwn
import Derived.Laws.OwnMore
import Derived.IntWalk
import Derived.Maps.AppendAt
import Derived.Sort.MapsRangeIn
import Derived.Deep.RegionLaw
import Derived.Deep.AppendLies
import Derived.Deep.RegionWith
import Derived.Lib.AppendZeros
import Derived.OwnWalk
import Derived.Lib.SlicesCompact
import Derived.Lib.OwnBridge
import Derived.OrdersIn
import Derived.TacticsIn
import Derived.Shelf.Sort.Plain
import Derived.Shelf.Slices.In.SortNone
import Derived.Shelf.Slices.CompactI
import Derived.Ground.Names2Prog
import Derived.Lib.SliceRun
import Derived.Shelf.RegionOpen
import Derived.Shelf.Abstract
import Derived.OwnWalkIn
import Derived.TacticsInMore
import Derived.LoopNIn
import Derived.LoopIn
import Derived.StillTail
import Derived.StillTactics
import Derived.Shelf.Spec.TrailingZeros
import Derived.Deep.LoopGhost
import Derived.Test.YtphddemilibooaaDoorRaac
import Derived.Test.YtphddemilibooaaDoorRaab
import Derived.Test.YtphddemilibooaaDoorDb
import Derived.Test.YtphddemilibooaaDoorRaar
import Derived.Test.YtphddemilibooaaDoorRaad
import Derived.Test.YtphddemilibooaaDoorRaas
import Derived.Test.YtphddemilibooaaDoorRabhxFnColo
import Derived.Test.YtphddemilibooaaDoorRabjxFnColo
import Derived.Test.YtphddemilibooaaDoorRabkxFnColo
import Derived.Test.YtphddemilibooaaDoorRabmxFnColo
import Derived.Test.YtphddemilibooaaDoorRabnxFnColo
import Derived.Test.YtphddemilibooaaDoorRabpxFnColo
import Derived.Test.YtphddemilibooaaDoorRaal
import Derived.Test.YtphddemilibooaaDoorKc
import Derived.Test.YtphddemilibooaaDoorRaaz
import Derived.Test.YtphddemilibooaaDoorRaaj
import Derived.Test.YtphddemilibooaaDoorRabsxFnColo
import Derived.Test.YtphddemilibooaaDoorRaat
import Derived.Test.YtphddemilibooaaDoorRabd
import Derived.Test.YtphddemilibooaaDoorZc
namespace Go.Proofs.YtphddemilibooaaDoor
open Go.RowKit

theorem popZ_mem {z : Int} (h0 : 0 ≤ z) (h : z.toNat < 64) : pop z = ((mem z.toNat).length : Int) := by
  have := pop_fin ⟨z.toNat, h⟩
  dsimp only at this
  rw [Int.toNat_of_nonneg h0] at this
  rw [this, mem8 h]

theorem many_rem {m k : Nat} (hm1 : 1 ≤ m) (hm : m ≤ 6) {zs : List Int} (hz : Sets m zs) : cntCM m zs k % k = 0 := by
  obtain ⟨n, rfl⟩ : ∃ n, m = n + 1 := ⟨m - 1, by omega⟩
  unfold cntCM
  rw [swap_cnt (mix_swaps hm hz)]
  exact Nat.mul_mod_right _ _

theorem proper_rem {m k : Nat} (hm1 : 1 ≤ m) (hm : m ≤ 6) {zs : List Int} (hz : Sets m zs) : cntCP m zs k % k = 0 := by
  obtain ⟨n, rfl⟩ : ∃ n, m = n + 1 := ⟨m - 1, by omega⟩
  unfold cntCP
  rw [swap_cnt (pro_swaps hm hz)]
  exact Nat.mul_mod_right _ _

theorem pro_mix {zs c : List Int} (h2 : ∀ z ∈ zs, 2 ≤ (mem z.toNat).length) (h : proB zs c = true) : mixB zs c = true := by
  unfold proB at h
  unfold mixB
  rw [List.all_eq_true] at h ⊢
  intro z hz
  have hp := propZ_iff.1 (h z hz)
  rw [mixZ_iff]
  have := h2 z hz
  match hmm : mem z.toNat with
  | [] => rw [hmm] at this; simp at this
  | [_] => rw [hmm] at this; simp at this
  | v :: w :: t =>
    have hnd := mem_nodS z.toNat
    rw [hmm] at hnd hp
    refine ⟨v, by simp, w, by simp, fun e => ?_⟩
    have := hp v (by simp) w (by simp) e
    subst this
    simp at hnd

theorem many_proper {m k : Nat} {zs : List Int} (h2 : ∀ z ∈ zs, 2 ≤ (mem z.toNat).length) : cntCP m zs k ≤ cntCM m zs k := by
  unfold cntCP cntCM
  exact List.countP_mono_left fun c _ h => pro_mix h2 h

theorem many_none (m k : Nat) : cntCM m [] k = k ^ m := by
  unfold cntCM
  rw [← palI_len k, ← wordsL_card, palI_len]
  exact List.countP_eq_length.2 fun c _ => rfl

/-- All of the first numbers are above 1. -/
def twoTo (ys : List Int) (i : Nat) : Bool := (ys.take i).all fun y => decide (1 < y)

theorem twoTo_succ {ys : List Int} {i : Nat} (h : i < ys.length) : twoTo ys (i + 1) = (twoTo ys i && decide (1 < ys[i]?.getD 0)) := by
  unfold twoTo
  rw [List.take_succ_eq_append_getElem h, List.all_append]
  simp [h]

theorem two_all {zs : List Int} (hz : ∀ z ∈ zs, 0 ≤ z ∧ z.toNat < 64) (h : twoTo (zs.map pop) (zs.map pop).length = true) : ∀ z ∈ zs, 2 ≤ (mem z.toNat).length := fun z hzz => by
  unfold twoTo at h
  rw [List.take_length, List.all_eq_true] at h
  have := h (pop z) (List.mem_map.2 ⟨z, hzz, rfl⟩)
  rw [decide_eq_true_eq, popZ_mem (hz z hzz).1 (hz z hzz).2] at this
  omega

set_option maxRecDepth 100000 in
set_option maxHeartbeats 8000000 in
theorem walkFnColourMany (a : Option Addr) (n cap : Nat) (w : World) (hb : Bys w w.heap.size a n) (hT : Tab w) (hn : n ≤ 1048576) (hc : n ≤ cap) (hc2 : cap ≤ 9223372036854775807) :
    Calls Tryd.prog 5 #[.slice a n cap] w fun e w' => e = .returned (.bool true) ∧ Below w.heap.size w w' := by
  have HBy := Lib.hid hb
  have HT := Lib.hid hT
  clear hb hT
  go_enter Tryd.func5, Tryd.ntmps5
  go_wp2_with fail
  refine (drawColourMany_any a n cap w HBy.out hn hc hc2).mono ?_
  rintro e w1 ⟨m, a1, zs, c1, q, rfl, hl, ho1, hb1⟩
  have F1 := FB.start (m := m) (c := c1) (own_ints ho1)
  have B1 := Lib.hid (hb1.trans ((below1 w1 (.cells #[.int .i64 m, .slice a1 zs.length c1] 25)).mono hb1.size))
  have hln : zs.length ≤ 1048576 := by omega
  have f_f_1 := Lib.hid F1
  clear F1 ho1 hb1
  have f_0 := f_f_1.out.x0
  have f_1 := f_f_1.out.x1
  obtain ⟨O, hO⟩ : ∃ O, O = outCM m zs q := ⟨_, rfl⟩
  obtain ⟨K, hK⟩ : ∃ K, K = okCM m zs q := ⟨_, rfl⟩
  have HI := Lib.hid (fun W hi hT => implColourMany_any m q a1 c1 zs W hi hT hln)
  have HSP := Lib.hid (fun W hi => specColourMany_any m q a1 c1 zs W hi hln)
  have HPI := Lib.hid (fun W hi hT => implColourProper_any m q a1 c1 zs W hi hT hln)
  have HSZ := Lib.hid (fun W hi => implSizes_any m a1 c1 zs W hi hln)
  rw [← hO, ← hK] at HI HSP
  have HO := Lib.hid hO
  have HK := Lib.hid hK
  clear hO hK
  go_wp2_with fail
  refine (HI.out _ f_f_1.out.ints (HT.out.below B1.out HT.out.lt)).mono ?_
  rintro e w2 ⟨rfl, hb2⟩
  have B2 := Lib.hid (B1.out.trans (hb2.mono B1.out.size))
  have f_f_2 := Lib.hid (f_f_1.out.step hb2)
  clear hb2 B1 f_f_1
  clear f_0 f_1
  have f_0 := f_f_2.out.x0
  have f_1 := f_f_2.out.x1
  go_wp2_with fail
  refine (HSP.out _ f_f_2.out.ints).mono ?_
  rintro e w3 ⟨rfl, hb3⟩
  have B3 := Lib.hid (B2.out.trans (hb3.mono B2.out.size))
  have f_f_3 := Lib.hid (f_f_2.out.step hb3)
  clear hb3 B2 f_f_2
  clear f_0 f_1
  have f_0 := f_f_3.out.x0
  have f_1 := f_f_3.out.x1
  clear HI HSP
  cases K
  · clear HK HO HPI HSZ
    go_wp2
    go_ret
    exact ⟨rfl, B3.out⟩
  · have hok := HK.out
    unfold okCM at hok
    obtain ⟨hfm, hcl⟩ : famIn m zs = true ∧ colIn q 0 = true := by
      have := hok.symm
      rwa [Bool.and_eq_true] at this
    obtain ⟨q, rfl, hq4, -⟩ := colIn_nat (Int.le_refl 0) hcl
    obtain ⟨k, hmk, hk1, hk6, hset, hl8⟩ := fam_nat2 hfm
    subst hmk
    have hz64 : ∀ z ∈ zs, 0 ≤ z ∧ z.toNat < 64 := fun z h => ⟨(hset z h).1, p64 hk6 (hset z h).2⟩
    have hOe : O = ((cntCM k zs q : Nat) : Int) := by rw [HO.out]; unfold outCM; rw [hfm, hcl]; rfl
    have hXe : outCP (k : Int) zs (q : Int) = ((cntCP k zs q : Nat) : Int) := by unfold outCP; rw [hfm, hcl]; rfl
    have hPe : okCP (k : Int) zs (q : Int) = true := by unfold okCP; rw [hfm, hcl]; rfl
    rw [hXe, hPe] at HPI
    rw [hfm, show sizesZ (k : Int) zs = zs.map pop by unfold sizesZ; rw [hfm]; rfl] at HSZ
    obtain ⟨ys, hys⟩ : ∃ ys, ys = zs.map pop := ⟨_, rfl⟩
    have hyl : ys.length = zs.length := by rw [hys, List.length_map]
    have HTW : Hid (twoTo ys ys.length = true → cntCP k zs q ≤ cntCM k zs q) := Lib.hid fun h => many_proper (two_all hz64 (by rw [← hys]; exact h))
    have HNO : Hid (ys.length = 0 → cntCM k zs q = q ^ k) := Lib.hid fun h => by
      have : zs = [] := List.eq_nil_of_length_eq_zero (by omega)
      rw [this]; exact many_none k q
    have hrm : cntCM k zs q % q = 0 := many_rem hk1 hk6 hset
    have hYB : ∀ y ∈ ys, 0 ≤ y ∧ y ≤ 8 := by rw [hys]; exact pop_bound hz64
    rw [← hys] at HSZ
    have hMle := cntCM_le k zs q
    have hPle := cntCP_le k zs q
    have hpw : q ^ k ≤ 4096 := Nat.le_trans (Nat.pow_le_pow_left hq4 k) (Nat.le_trans (Nat.pow_le_pow_right (n := 4) (by decide) hk6) (by decide))
    have HPW : Hid (∀ i, i ≤ k → q ^ i ≤ 4096) := Lib.hid fun i hi => Nat.le_trans (Nat.pow_le_pow_left hq4 i) (Nat.le_trans (Nat.pow_le_pow_right (n := 4) (by decide) (show i ≤ 6 by omega)) (by decide))
    obtain ⟨A, hA⟩ : ∃ A, A = cntCM k zs q := ⟨_, rfl⟩
    obtain ⟨X, hX⟩ : ∃ X, X = cntCP k zs q := ⟨_, rfl⟩
    rw [← hX] at HPI hPle HTW
    rw [← hA] at hOe hMle hrm HTW HNO
    have hA4 : (A : Int) ≤ 4096 := by omega
    have hX4 : (X : Int) ≤ 4096 := by omega
    have hA0 : (0 : Int) ≤ (A : Int) := by omega
    have hX0 : (0 : Int) ≤ (X : Int) := by omega
    have hq0 : (0 : Int) ≤ (q : Int) := by omega
    have hq4I : (q : Int) ≤ 4 := by omega
    have hremI : Int.tmod (A : Int) (q : Int) = 0 := by rw [← Int.ofNat_tmod, hrm]; rfl
    have HYB := Lib.hid hYB
    subst hOe
    clear hok hfm hcl hset hz64 hXe hPe hys hA hX HK HO hrm hYB
    go_wp2_with fail
    refine (HPI.out _ f_f_3.out.ints (HT.out.below B3.out HT.out.lt)).mono ?_
    rintro e w4 ⟨rfl, hb4⟩
    have B4 := Lib.hid (B3.out.trans (hb4.mono B3.out.size))
    have f_f_4 := Lib.hid (f_f_3.out.step hb4)
    clear hb4 B3 f_f_3 HPI
    clear f_0 f_1
    have f_0 := f_f_4.out.x0
    have f_1 := f_f_4.out.x1
    go_wp2_with fail
    refine (HSZ.out _ f_f_4.out.ints).mono ?_
    rintro e w5 ⟨a5, c5, rfl, ho5, hb5⟩
    have B5 := Lib.hid (B4.out.trans (hb5.mono B4.out.size))
    have f_f_5 := Lib.hid (f_f_4.out.step hb5)
    have HY5 := Lib.hid (own_ints ho5)
    clear hb5 B4 f_f_4 HSZ ho5
    clear f_0 f_1
    have f_0 := f_f_5.out.x0
    have f_1 := f_f_5.out.x1
    obtain ⟨L, hL⟩ : ∃ L, L = ys.length := ⟨_, rfl⟩
    have HL := Lib.hid hL
    rw [← hL]
    rw [← hL] at hyl HTW HNO
    have hL8 : L ≤ 8 := by omega
    clear hyl
    have HT0 : Hid (twoTo ys 0 = true) := Lib.hid rfl
    clear hL
    go_wp2
    go_loop [13, 14] (fun s13 s14 => ∃ i : Nat, i ≤ L ∧ s14 = .int .i64 (i : Int) ∧ s13 = .bool (twoTo ys i)) (fun _ s14 => L - (intOf s14).toNat)
    case atStart => exact ⟨0, Nat.zero_le _, rfl, by rw [HT0.out]⟩
    case round =>
      obtain ⟨i, hi, rfl, rfl⟩ := hrel
      by_cases hlt : i < L
      · have hiI : (i : Int) < (L : Int) := by omega
        have hi0 : (0 : Int) ≤ (i : Int) := by omega
        obtain ⟨b9, o9, rfl, hb9, hc9⟩ := HY5.out.at_ (k := i) (by rw [← HL.out]; exact hlt)
        have HSU := Lib.hid (twoTo_succ (ys := ys) (i := i) (by rw [← HL.out]; exact hlt))
        obtain ⟨y, hy⟩ : ∃ y, y = ys[i]?.getD 0 := ⟨_, rfl⟩
        rw [← hy] at hc9 HSU
        clear hy
        obtain ⟨T, hTT⟩ : ∃ T, T = twoTo ys i := ⟨_, rfl⟩
        rw [← hTT] at HSU ⊢
        clear hTT
        cases T
        · have HE : Hid (twoTo ys (i + 1) = false) := Lib.hid (by rw [HSU.out]; rfl)
          go_wp2
          go_round
          case rel => exact ⟨i + 1, by omega, by go_num, by rw [HE.out]⟩
          case measure => simp [intOf]; omega
        · have HE : Hid (twoTo ys (i + 1) = decide (1 < y)) := Lib.hid (by rw [HSU.out]; rfl)
          go_wp2
          go_round
          case rel => exact ⟨i + 1, by omega, by go_num, by rw [HE.out]⟩
          case measure => simp [intOf]; omega
      · obtain rfl : i = L := by omega
        obtain ⟨T, hTT⟩ : ∃ T, T = twoTo ys i := ⟨_, rfl⟩
        rw [← hTT] at HTW ⊢
        clear hTT
        go_wp2
        go_loop [15, 16] (fun s15 s16 => ∃ j : Nat, j ≤ k ∧ s16 = .int .i64 (j : Int) ∧ s15 = .int .i64 ((q ^ j : Nat) : Int)) (fun _ s16 => k - (intOf s16).toNat)
        case atStart => exact ⟨0, Nat.zero_le _, rfl, by simp⟩
        case round =>
          obtain ⟨j, hj, rfl, rfl⟩ := hrel
          have hP := HPW.out j hj
          by_cases hlt2 : j < k
          · have hji : (j : Int) < (k : Int) := by omega
            have hj0 : (0 : Int) ≤ (j : Int) := by omega
            have hP2 := HPW.out (j + 1) hlt2
            have hmul : ((q ^ j : Nat) : Int) * (q : Int) = ((q ^ (j + 1) : Nat) : Int) := by rw [Nat.pow_succ]; norm_cast
            obtain ⟨P, hPP⟩ : ∃ P, P = q ^ j := ⟨_, rfl⟩
            obtain ⟨P2, hPP2⟩ : ∃ P2, P2 = q ^ (j + 1) := ⟨_, rfl⟩
            rw [← hPP, ← hPP2] at hmul
            rw [← hPP] at hP ⊢
            rw [← hPP2] at hP2
            have HPP2 := Lib.hid hPP2
            have hP2I : (P2 : Int) ≤ 4096 := by omega
            have hP20 : (0 : Int) ≤ (P2 : Int) := by omega
            clear hPP hPP2
            go_wp2
            go_round
            case rel => exact ⟨j + 1, by omega, by go_num, by rw [← HPP2.out]⟩
            case measure => simp [intOf]; omega
          · obtain rfl : j = k := by omega
            obtain ⟨P, hPP⟩ : ∃ P, P = q ^ j := ⟨_, rfl⟩
            rw [← hPP] at HNO hP ⊢
            clear hPP
            by_cases hq1 : (q : Int) = 0
            · by_cases hL1 : i = 0
              · obtain rfl : A = P := HNO.out hL1
                have hi0 : (i : Int) = 0 := by omega
                cases T
                · go_wp2
                  all_goals (go_ret; exact ⟨rfl, B5.out⟩)
                · have hAX : (X : Int) ≤ (A : Int) := by have := HTW.out rfl; omega
                  go_wp2
                  all_goals (go_ret; exact ⟨rfl, B5.out⟩)
              · have hi0 : 0 < (i : Int) := by omega
                cases T
                · go_wp2
                  all_goals (go_ret; exact ⟨rfl, B5.out⟩)
                · have hAX : (X : Int) ≤ (A : Int) := by have := HTW.out rfl; omega
                  go_wp2
                  all_goals (go_ret; exact ⟨rfl, B5.out⟩)
            · have hq2 : 0 < (q : Int) := by omega
              by_cases hL1 : i = 0
              · obtain rfl : A = P := HNO.out hL1
                have hi0 : (i : Int) = 0 := by omega
                cases T
                · go_wp2
                  all_goals (go_ret; exact ⟨rfl, B5.out⟩)
                · have hAX : (X : Int) ≤ (A : Int) := by have := HTW.out rfl; omega
                  go_wp2
                  all_goals (go_ret; exact ⟨rfl, B5.out⟩)
              · have hi0 : 0 < (i : Int) := by omega
                cases T
                · go_wp2
                  all_goals (go_ret; exact ⟨rfl, B5.out⟩)
                · have hAX : (X : Int) ≤ (A : Int) := by have := HTW.out rfl; omega
                  go_wp2
                  all_goals (go_ret; exact ⟨rfl, B5.out⟩)

end Go.Proofs.YtphddemilibooaaDoor
