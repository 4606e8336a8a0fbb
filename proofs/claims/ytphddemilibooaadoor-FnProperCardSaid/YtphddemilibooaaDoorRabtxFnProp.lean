/- It is proved that the call of the law FnColourMany returns true; conditions: those of each statement. -/
import Derived.RowKit
import Derived.Laws.CopyRow
import Derived.Lib.SlBuf
import Derived.Deep.QuietTactic
import Derived.RangeFuncNested
import Derived.RangeFuncBound
import Derived.RangeFuncCalls
import Derived.RangeFuncLeaves
import Derived.RangeFuncBox
import Derived.RangeFuncWrites
import Derived.StillTailTactics
import Derived.Maps.OwnIn
import Derived.Maps.Ext
import Derived.DeepKeys4
import Derived.MapKept
import Derived.Test.YtphddemilibooaaDoorRows
import Derived.WalkKit
import Derived.WalkSpells
import Derived.ProofKit
import Derived.OpenShut
import Derived.ShutString
import Derived.ChangeOld
import Derived.Below
import Derived.Deep.RegionHeld3
import Derived.BigQuiet
import Derived.Lib.Hide
import Derived.Lib.SmallJoins
import Derived.Outline
import Derived.Laws.MakeOwn
import Derived.Laws.OwnMore
import Derived.IntWalk
import Derived.Maps.AppendAt
import Derived.Sort.MapsRangeIn
import Derived.Deep.RegionLaw
import Derived.Deep.AppendLies
import Derived.Deep.RegionWith
import Derived.Lib.AppendZeros
import Derived.OwnWalk
import Derived.Lib.SlicesCompact
import Derived.Lib.OwnBridge
import Derived.OrdersIn
import Derived.TacticsIn
import Derived.Shelf.Sort.Plain
import Derived.Shelf.Slices.In.SortNone
import Derived.Shelf.Slices.CompactI
import Derived.Ground.Names2Prog
import Derived.Lib.SliceRun
import Derived.Shelf.RegionOpen
import Derived.Shelf.Abstract
import Derived.OwnWalkIn
import Derived.TacticsInMore
import Derived.LoopNIn
import Derived.LoopIn
import Derived.StillTail
import Derived.StillTactics
import Derived.Shelf.Spec.TrailingZeros
import Derived.Deep.LoopGhost
import Derived.Test.YtphddemilibooaaDoorRaac
import Derived.Test.YtphddemilibooaaDoorRaab
import Derived.Test.YtphddemilibooaaDoorDb
import Derived.Test.YtphddemilibooaaDoorRaar
import Derived.Test.YtphddemilibooaaDoorRaad
import Derived.Test.YtphddemilibooaaDoorRaas
import Derived.Test.YtphddemilibooaaDoorRabhxFnProp
import Derived.Test.YtphddemilibooaaDoorRabixFnProp
import Derived.Test.YtphddemilibooaaDoorRabjxFnProp
import Derived.Test.YtphddemilibooaaDoorRabkxFnProp
import Derived.Test.YtphddemilibooaaDoorRabmxFnProp
import Derived.Test.YtphddemilibooaaDoorRabnxFnProp
import Derived.Test.YtphddemilibooaaDoorRabpxFnProp
import Derived.Test.YtphddemilibooaaDoorRaal
import Derived.Test.YtphddemilibooaaDoorKc
import Derived.Test.YtphddemilibooaaDoorRaaz
import Derived.Test.YtphddemilibooaaDoorRaaj
import Derived.Test.YtphddemilibooaaDoorRabsxFnProp
import Derived.Test.YtphddemilibooaaDoorRaat
import Derived.Test.YtphddemilibooaaDoorRabd
import Derived.Test.YtphddemilibooaaDoorZc
import Derived.Test.YtphddemilibooaaDoorRaaa
import Derived.Test.YtphddemilibooaaDoorRaav
import Derived.Test.YtphddemilibooaaDoorRaay
import Derived.Test.YtphddemilibooaaDoorRaam
import Derived.Test.YtphddemilibooaaDoorYa
import Derived.Test.YtphddemilibooaaDoorRaboxFnProp
import Derived.Test.YtphddemilibooaaDoorRabrxFnProp
namespace Go.Proofs.YtphddemilibooaaDoor
open Go.RowKit

theorem popZ_mem {z : Int} (h0 : 0 ≤ z) (h : z.toNat < 64) : pop z = ((mem z.toNat).length : Int) := by
  have := pop_fin ⟨z.toNat, h⟩
  dsimp only at this
  rw [Int.toNat_of_nonneg h0] at this
  rw [this, mem8 h]

theorem many_rem {m k : Nat} (hm1 : 1 ≤ m) (hm : m ≤ 6) {zs : List Int} (hz : Sets m zs) : cntCM m zs k % k = 0 := by
  obtain ⟨n, rfl⟩ : ∃ n, m = n + 1 := ⟨m - 1, by omega⟩
  unfold cntCM
  rw [swap_cnt (mix_swaps hm hz)]
  exact Nat.mul_mod_right _ _

theorem proper_rem {m k : Nat} (hm1 : 1 ≤ m) (hm : m ≤ 6) {zs : List Int} (hz : Sets m zs) : cntCP m zs k % k = 0 := by
  obtain ⟨n, rfl⟩ : ∃ n, m = n + 1 := ⟨m - 1, by omega⟩
  unfold cntCP
  rw [swap_cnt (pro_swaps hm hz)]
  exact Nat.mul_mod_right _ _

theorem pro_mix {zs c : List Int} (h2 : ∀ z ∈ zs, 2 ≤ (mem z.toNat).length) (h : proB zs c = true) : mixB zs c = true := by
  unfold proB at h
  unfold mixB
  rw [List.all_eq_true] at h ⊢
  intro z hz
  have hp := propZ_iff.1 (h z hz)
  rw [mixZ_iff]
  have := h2 z hz
  match hmm : mem z.toNat with
  | [] => rw [hmm] at this; simp at this
  | [_] => rw [hmm] at this; simp at this
  | v :: w :: t =>
    have hnd := mem_nodS z.toNat
    rw [hmm] at hnd hp
    refine ⟨v, by simp, w, by simp, fun e => ?_⟩
    have := hp v (by simp) w (by simp) e
    subst this
    simp at hnd

theorem many_proper {m k : Nat} {zs : List Int} (h2 : ∀ z ∈ zs, 2 ≤ (mem z.toNat).length) : cntCP m zs k ≤ cntCM m zs k := by
  unfold cntCP cntCM
  exact List.countP_mono_left fun c _ h => pro_mix h2 h

theorem many_none (m k : Nat) : cntCM m [] k = k ^ m := by
  unfold cntCM
  rw [← palI_len k, ← wordsL_card, palI_len]
  exact List.countP_eq_length.2 fun c _ => rfl

/-- All of the first numbers are above 1. -/
def twoTo (ys : List Int) (i : Nat) : Bool := (ys.take i).all fun y => decide (1 < y)

theorem twoTo_succ {ys : List Int} {i : Nat} (h : i < ys.length) : twoTo ys (i + 1) = (twoTo ys i && decide (1 < ys[i]?.getD 0)) := by
  unfold twoTo
  rw [List.take_succ_eq_append_getElem h, List.all_append]
  simp [h]

theorem two_all {zs : List Int} (hz : ∀ z ∈ zs, 0 ≤ z ∧ z.toNat < 64) (h : twoTo (zs.map pop) (zs.map pop).length = true) : ∀ z ∈ zs, 2 ≤ (mem z.toNat).length := fun z hzz => by
  unfold twoTo at h
  rw [List.take_length, List.all_eq_true] at h
  have := h (pop z) (List.mem_map.2 ⟨z, hzz, rfl⟩)
  rw [decide_eq_true_eq, popZ_mem (hz z hzz).1 (hz z hzz).2] at this
  omega

set_option maxRecDepth 100000 in
set_option maxHeartbeats 8000000 in
theorem walkFnColourMany (a : Option Addr) (n cap : Nat) (w : World) (hb : Bys w w.heap.size a n) (hT : Tab w) (hn : n ≤ 1048576) (hc : n ≤ cap) (hc2 : cap ≤ 9223372036854775807) :
    Calls Tryd.prog 5 #[.slice a n cap] w fun e w' => e = .returned (.bool true) ∧ Below w.heap.size w w' := by
  have HBy := Lib.hid hb
  have HT := Lib.hid hT
  clear hb hT
  go_enter Tryd.func5, Tryd.ntmps5
  go_wp2_with fail
  refine (drawColourMany_any a n cap w HBy.out hn hc hc2).mono ?_
  rintro e w1 ⟨m, a1, zs, c1, q, rfl, hl, ho1, hb1⟩
  have F1 := FB.start (m := m) (c := c1) (own_ints ho1)
  have B1 := Lib.hid (hb1.trans ((below1 w1 (.cells #[.int .i64 m, .slice a1 zs.length c1] 25)).mono hb1.size))
  have hln : zs.length ≤ 1048576 := by omega
  have f_f_1 := Lib.hid F1
  clear F1 ho1 hb1
  have f_0 := f_f_1.out.x0
  have f_1 := f_f_1.out.x1
  obtain ⟨O, hO⟩ : ∃ O, O = outCM m zs q := ⟨_, rfl⟩
  obtain ⟨K, hK⟩ : ∃ K, K = okCM m zs q := ⟨_, rfl⟩
  have HI := Lib.hid (fun W hi hT => implColourMany_any m q a1 c1 zs W hi hT hln)
  have HSP := Lib.hid (fun W hi => specColourMany_any m q a1 c1 zs W hi hln)
  have HPI := Lib.hid (fun W hi hT => implColourProper_any m q a1 c1 zs W hi hT hln)
  have HSZ := Lib.hid (fun W hi => implSizes_any m a1 c1 zs W hi hln)
  rw [← hO, ← hK] at HI HSP
  have HO := Lib.hid hO
  have HK := Lib.hid hK
  clear hO hK
  go_wp2_with fail
  refine (HI.out _ f_f_1.out.ints (HT.out.below B1.out HT.out.lt)).mono ?_
  rintro e w2 ⟨rfl, hb2⟩
  have B2 := Lib.hid (B1.out.trans (hb2.mono B1.out.size))
  have f_f_2 := Lib.hid (f_f_1.out.step hb2)
  clear hb2 B1 f_f_1
  clear f_0 f_1
  have f_0 := f_f_2.out.x0
  have f_1 := f_f_2.out.x1
  go_wp2_with fail
  refine (HSP.out _ f_f_2.out.ints).mono ?_
  rintro e w3 ⟨rfl, hb3⟩
  have B3 := Lib.hid (B2.out.trans (hb3.mono B2.out.size))
  have f_f_3 := Lib.hid (f_f_2.out.step hb3)
  clear hb3 B2 f_f_2
  clear f_0 f_1
  have f_0 := f_f_3.out.x0
  have f_1 := f_f_3.out.x1
  clear HI HSP
  cases K
  · clear HK HO HPI HSZ
    go_wp2
    go_ret
    exact ⟨rfl, B3.out⟩
  · have hok := HK.out
    unfold okCM at hok
    obtain ⟨hfm, hcl⟩ : famIn m zs = true ∧ colIn q 0 = true := by
      have := hok.symm
      rwa [Bool.and_eq_true] at this
    obtain ⟨q, rfl, hq4, -⟩ := colIn_nat (Int.le_refl 0) hcl
    obtain ⟨k, hmk, hk1, hk6, hset, hl8⟩ := fam_nat2 hfm
    subst hmk
    have hz64 : ∀ z ∈ zs, 0 ≤ z ∧ z.toNat < 64 := fun z h => ⟨(hset z h).1, p64 hk6 (hset z h).2⟩
    have hOe : O = ((cntCM k zs q : Nat) : Int) := by rw [HO.out]; unfold outCM; rw [hfm, hcl]; rfl
    have hXe : outCP (k : Int) zs (q : Int) = ((cntCP k zs q : Nat) : Int) := by unfold outCP; rw [hfm, hcl]; rfl
    have hPe : okCP (k : Int) zs (q : Int) = true := by unfold okCP; rw [hfm, hcl]; rfl
    rw [hXe, hPe] at HPI
    rw [hfm, show sizesZ (k : Int) zs = zs.map pop by unfold sizesZ; rw [hfm]; rfl] at HSZ
    obtain ⟨ys, hys⟩ : ∃ ys, ys = zs.map pop := ⟨_, rfl⟩
    have hyl : ys.length = zs.length := by rw [hys, List.length_map]
    have HTW : Hid (twoTo ys ys.length = true → cntCP k zs q ≤ cntCM k zs q) := Lib.hid fun h => many_proper (two_all hz64 (by rw [← hys]; exact h))
    have HNO : Hid (ys.length = 0 → cntCM k zs q = q ^ k) := Lib.hid fun h => by
      have : zs = [] := List.eq_nil_of_length_eq_zero (by omega)
      rw [this]; exact many_none k q
    have hrm : cntCM k zs q % q = 0 := many_rem hk1 hk6 hset
    have hYB : ∀ y ∈ ys, 0 ≤ y ∧ y ≤ 8 := by rw [hys]; exact pop_bound hz64
    rw [← hys] at HSZ
    have hMle := cntCM_le k zs q
    have hPle := cntCP_le k zs q
    have hpw : q ^ k ≤ 4096 := Nat.le_trans (Nat.pow_le_pow_left hq4 k) (Nat.le_trans (Nat.pow_le_pow_right (n := 4) (by decide) hk6) (by decide))
    have HPW : Hid (∀ i, i ≤ k → q ^ i ≤ 4096) := Lib.hid fun i hi => Nat.le_trans (Nat.pow_le_pow_left hq4 i) (Nat.le_trans (Nat.pow_le_pow_right (n := 4) (by decide) (show i ≤ 6 by omega)) (by decide))
    obtain ⟨A, hA⟩ : ∃ A, A = cntCM k zs q := ⟨_, rfl⟩
    obtain ⟨X, hX⟩ : ∃ X, X = cntCP k zs q := ⟨_, rfl⟩
    rw [← hX] at HPI hPle HTW
    rw [← hA] at hOe hMle hrm HTW HNO
    have hA4 : (A : Int) ≤ 4096 := by omega
    have hX4 : (X : Int) ≤ 4096 := by omega
    have hA0 : (0 : Int) ≤ (A : Int) := by omega
    have hX0 : (0 : Int) ≤ (X : Int) := by omega
    have hq0 : (0 : Int) ≤ (q : Int) := by omega
    have hq4I : (q : Int) ≤ 4 := by omega
    have hremI : Int.tmod (A : Int) (q : Int) = 0 := by rw [← Int.ofNat_tmod, hrm]; rfl
    have HYB := Lib.hid hYB
    subst hOe
    clear hok hfm hcl hset hz64 hXe hPe hys hA hX HK HO hrm hYB
    go_wp2_with fail
    refine (HPI.out _ f_f_3.out.ints (HT.out.below B3.out HT.out.lt)).mono ?_
    rintro e w4 ⟨rfl, hb4⟩
    have B4 := Lib.hid (B3.out.trans (hb4.mono B3.out.size))
    have f_f_4 := Lib.hid (f_f_3.out.step hb4)
    clear hb4 B3 f_f_3 HPI
    clear f_0 f_1
    have f_0 := f_f_4.out.x0
    have f_1 := f_f_4.out.x1
    go_wp2_with fail
    refine (HSZ.out _ f_f_4.out.ints).mono ?_
    rintro e w5 ⟨a5, c5, rfl, ho5, hb5⟩
    have B5 := Lib.hid (B4.out.trans (hb5.mono B4.out.size))
    have f_f_5 := Lib.hid (f_f_4.out.step hb5)
    have HY5 := Lib.hid (own_ints ho5)
    clear hb5 B4 f_f_4 HSZ ho5
    clear f_0 f_1
    have f_0 := f_f_5.out.x0
    have f_1 := f_f_5.out.x1
    obtain ⟨L, hL⟩ : ∃ L, L = ys.length := ⟨_, rfl⟩
    have HL := Lib.hid hL
    rw [← hL]
    rw [← hL] at hyl HTW HNO
    have hL8 : L ≤ 8 := by omega
    clear hyl
    have HT0 : Hid (twoTo ys 0 = true) := Lib.hid rfl
    clear hL
    go_wp2
    go_loop [13, 14] (fun s13 s14 => ∃ i : Nat, i ≤ L ∧ s14 = .int .i64 (i : Int) ∧ s13 = .bool (twoTo ys i)) (fun _ s14 => L - (intOf s14).toNat)
    case atStart => exact ⟨0, Nat.zero_le _, rfl, by rw [HT0.out]⟩
    case round =>
      obtain ⟨i, hi, rfl, rfl⟩ := hrel
      by_cases hlt : i < L
      · have hiI : (i : Int) < (L : Int) := by omega
        have hi0 : (0 : Int) ≤ (i : Int) := by omega
        obtain ⟨b9, o9, rfl, hb9, hc9⟩ := HY5.out.at_ (k := i) (by rw [← HL.out]; exact hlt)
        have HSU := Lib.hid (twoTo_succ (ys := ys) (i := i) (by rw [← HL.out]; exact hlt))
        obtain ⟨y, hy⟩ : ∃ y, y = ys[i]?.getD 0 := ⟨_, rfl⟩
        rw [← hy] at hc9 HSU
        clear hy
        obtain ⟨T, hTT⟩ : ∃ T, T = twoTo ys i := ⟨_, rfl⟩
        rw [← hTT] at HSU ⊢
        clear hTT
        cases T
        · have HE : Hid (twoTo ys (i + 1) = false) := Lib.hid (by rw [HSU.out]; rfl)
          go_wp2
          go_round
          case rel => exact ⟨i + 1, by omega, by go_num, by rw [HE.out]⟩
          case measure => simp [intOf]; omega
        · have HE : Hid (twoTo ys (i + 1) = decide (1 < y)) := Lib.hid (by rw [HSU.out]; rfl)
          go_wp2
          go_round
          case rel => exact ⟨i + 1, by omega, by go_num, by rw [HE.out]⟩
          case measure => simp [intOf]; omega
      · obtain rfl : i = L := by omega
        obtain ⟨T, hTT⟩ : ∃ T, T = twoTo ys i := ⟨_, rfl⟩
        rw [← hTT] at HTW ⊢
        clear hTT
        go_wp2
        go_loop [15, 16] (fun s15 s16 => ∃ j : Nat, j ≤ k ∧ s16 = .int .i64 (j : Int) ∧ s15 = .int .i64 ((q ^ j : Nat) : Int)) (fun _ s16 => k - (intOf s16).toNat)
        case atStart => exact ⟨0, Nat.zero_le _, rfl, by simp⟩
        case round =>
          obtain ⟨j, hj, rfl, rfl⟩ := hrel
          have hP := HPW.out j hj
          by_cases hlt2 : j < k
          · have hji : (j : Int) < (k : Int) := by omega
            have hj0 : (0 : Int) ≤ (j : Int) := by omega
            have hP2 := HPW.out (j + 1) hlt2
            have hmul : ((q ^ j : Nat) : Int) * (q : Int) = ((q ^ (j + 1) : Nat) : Int) := by rw [Nat.pow_succ]; norm_cast
            obtain ⟨P, hPP⟩ : ∃ P, P = q ^ j := ⟨_, rfl⟩
            obtain ⟨P2, hPP2⟩ : ∃ P2, P2 = q ^ (j + 1) := ⟨_, rfl⟩
            rw [← hPP, ← hPP2] at hmul
            rw [← hPP] at hP ⊢
            rw [← hPP2] at hP2
            have HPP2 := Lib.hid hPP2
            have hP2I : (P2 : Int) ≤ 4096 := by omega
            have hP20 : (0 : Int) ≤ (P2 : Int) := by omega
            clear hPP hPP2
            go_wp2
            go_round
            case rel => exact ⟨j + 1, by omega, by go_num, by rw [← HPP2.out]⟩
            case measure => simp [intOf]; omega
          · obtain rfl : j = k := by omega
            obtain ⟨P, hPP⟩ : ∃ P, P = q ^ j := ⟨_, rfl⟩
            rw [← hPP] at HNO hP ⊢
            clear hPP
            by_cases hq1 : (q : Int) = 0
            · by_cases hL1 : i = 0
              · obtain rfl : A = P := HNO.out hL1
                have hi0 : (i : Int) = 0 := by omega
                cases T
                · go_wp2
                  all_goals (go_ret; exact ⟨rfl, B5.out⟩)
                · have hAX : (X : Int) ≤ (A : Int) := by have := HTW.out rfl; omega
                  go_wp2
                  all_goals (go_ret; exact ⟨rfl, B5.out⟩)
              · have hi0 : 0 < (i : Int) := by omega
                cases T
                · go_wp2
                  all_goals (go_ret; exact ⟨rfl, B5.out⟩)
                · have hAX : (X : Int) ≤ (A : Int) := by have := HTW.out rfl; omega
                  go_wp2
                  all_goals (go_ret; exact ⟨rfl, B5.out⟩)
            · have hq2 : 0 < (q : Int) := by omega
              by_cases hL1 : i = 0
              · obtain rfl : A = P := HNO.out hL1
                have hi0 : (i : Int) = 0 := by omega
                cases T
                · go_wp2
                  all_goals (go_ret; exact ⟨rfl, B5.out⟩)
                · have hAX : (X : Int) ≤ (A : Int) := by have := HTW.out rfl; omega
                  go_wp2
                  all_goals (go_ret; exact ⟨rfl, B5.out⟩)
              · have hi0 : 0 < (i : Int) := by omega
                cases T
                · go_wp2
                  all_goals (go_ret; exact ⟨rfl, B5.out⟩)
                · have hAX : (X : Int) ≤ (A : Int) := by have := HTW.out rfl; omega
                  go_wp2
                  all_goals (go_ret; exact ⟨rfl, B5.out⟩)

end Go.Proofs.YtphddemilibooaaDoor

/- It is proved that the most clubs that get a member of a set are all clubs but as many as the worst set of places falls short by; conditions: those of each statement. -/
namespace Go.Proofs.YtphddemilibooaaDoor
open Go.RowKit

set_option maxRecDepth 100000 in
theorem woP_bit_fin : ∀ s : Fin 64, ∀ v : Fin 6, ∀ i : Fin 6, (woP s.val v.val).testBit i.val = (s.val.testBit i.val && decide (i ≠ v)) := by decide +kernel

theorem woP_bit {s v i : Nat} (hs : s < 64) (hv : v < 6) : (woP s v).testBit i = (s.testBit i && decide (i ≠ v)) := by
  by_cases hi : i < 6
  · have := woP_bit_fin ⟨s, hs⟩ ⟨v, hv⟩ ⟨i, hi⟩
    simp only [Fin.mk.injEq, ne_eq] at this
    rw [this]
  · have h1 : s.testBit i = false := Nat.testBit_lt_two_pow (Nat.lt_of_lt_of_le hs (Nat.pow_le_pow_right (n := 2) (i := 6) (by decide) (by omega)))
    rw [h1, Bool.false_and]
    unfold woP
    rw [Nat.testBit_and, h1, Bool.false_and]

end Go.Proofs.YtphddemilibooaaDoor

/- It is proved what the reference model's pairs are; conditions: those of each statement. -/
namespace Go.Proofs.YtphddemilibooaaDoor
open Go.RowKit

/-- The other members of the clubs with a member. -/
def prU (zs : List Int) (v : Nat) : Nat := zs.foldl (fun t z => if Bt v z then t ||| woP z.toNat v else t) 0

theorem prU_snoc (zs : List Int) (z : Int) (v : Nat) : prU (zs ++ [z]) v = if Bt v z then prU zs v ||| woP z.toNat v else prU zs v := by simp [prU]
theorem prU_bit {v w : Nat} (hv : v < 6) : ∀ (zs : List Int), (∀ z ∈ zs, z.toNat < 64) → prU zs v < 64 ∧ ((prU zs v).testBit w = (decide (w ≠ v) && zs.any fun z => Bt v z && Bt w z)) := by
  have H : ∀ r : List Int, ∀ zs, zs = r.reverse → (∀ z ∈ zs, z.toNat < 64) → prU zs v < 64 ∧ ((prU zs v).testBit w = (decide (w ≠ v) && zs.any fun z => Bt v z && Bt w z)) := by
    intro r
    induction r with
    | nil => rintro zs rfl _; simp [prU]
    | cons z r ih =>
      rintro zs rfl h
      rw [List.reverse_cons] at h ⊢
      obtain ⟨h1, h2⟩ := ih _ rfl (fun y hy => h y (by simp only [List.mem_append]; exact .inl hy))
      have hz := h z (by simp)
      rw [prU_snoc, List.any_append]
      cases hb : Bt v z
      · simp only [Bool.false_eq_true, if_false]
        refine ⟨h1, ?_⟩
        rw [h2]; simp [hb]
      · simp only [if_true]
        refine ⟨Nat.or_lt_two_pow (n := 6) h1 (Nat.lt_of_le_of_lt (wo_le _ _) hz), ?_⟩
        rw [Nat.testBit_or, h2, woP_bit hz hv]
        simp only [List.any_cons, List.any_nil, hb, Bool.true_and, Bool.or_false]
        show _ = _
        unfold Bt
        cases (z.toNat).testBit w <;> cases (decide (w ≠ v)) <;> simp
  exact fun zs h => H zs.reverse zs (by simp) h

set_option maxRecDepth 100000 in
set_option maxHeartbeats 4000000 in
theorem l6ePairs_any (m : Nat) (hm1 : 1 ≤ m) (hm : m ≤ 6) (a : Option Addr) (c : Nat) (zs : List Int) (w : World) (ha : Ints w w.heap.size a zs) (hx : zs.length ≤ 1048576) (hz : Sets m zs) :
    Calls Tryd.prog 50 #[.agg #[.int .i64 (m : Int), .slice a zs.length c]] w fun e w' => ∃ g, e = .returned (.slice (some ⟨g, 0, none⟩) m m) ∧ w.heap.size ≤ g ∧ Nums w' g 3 (rowL (prU zs) m) ∧ Below w.heap.size w w' := by
  obtain ⟨n, hn⟩ : ∃ n, n = zs.length := ⟨_, rfl⟩
  have HN := Lib.hid hn
  obtain ⟨W1, hW1, b0, hs1, hb1⟩ : ∃ W1, w.alloc (.cells #[.int .i64 (m : Int), .slice a zs.length c] 25) = W1 ∧ HasBlk W1 w.heap.size #[.int .i64 (m : Int), .slice a zs.length c] 25 ∧ W1.heap.size = w.heap.size + 1 ∧ Below w.heap.size w W1 := ⟨_, rfl, alloc_new w _, by simp, below1 w _⟩
  have hmk := run_makeP m (by omega) W1
  obtain ⟨W2, hW2, q1, hb2⟩ : ∃ W2, W1.alloc (.cells (Array.replicate m (.int .i64 0)) 3) = W2 ∧ Nums W2 W1.heap.size 3 (rowL (prU []) m) ∧ Below W1.heap.size W1 W2 :=
    ⟨_, rfl, by
      have := alloc_new W1 (.cells (Array.replicate m (.int .i64 0)) 3)
      have e : rowL (prU []) m = List.replicate m 0 := by
        apply List.ext_getElem <;> simp [rowL, prU]
      rw [e]
      unfold Nums HasBlk iv
      simpa using this, below1 W1 _⟩
  rw [hW2] at hmk
  have x0 := (blk_cell b0 0).trans (cell2_0 _ _)
  have hz64 : ∀ z ∈ zs, 0 ≤ z ∧ z.toNat < 64 := fun z h => ⟨(hz z h).1, p64 hm (hz z h).2⟩
  have HKEEP : Hid (∀ W, Below W1.heap.size W1 W → W.cell? ⟨w.heap.size, 0, none⟩ = some (.int .i64 (m : Int)) ∧ W.cell? ⟨w.heap.size, 1, none⟩ = some (.slice a zs.length c)) := Lib.hid fun W hW =>
    ⟨(hW.cell (p := ⟨w.heap.size, 0, none⟩) (show w.heap.size < W1.heap.size by omega)).trans ((blk_cell b0 0).trans (cell2_0 _ _)), (hW.cell (p := ⟨w.heap.size, 1, none⟩) (show w.heap.size < W1.heap.size by omega)).trans ((blk_cell b0 1).trans (cell2_1 _ _))⟩
  have HI1 : Hid (Ints W1 w.heap.size a zs) := Lib.hid (ha.below hb1)
  have HB1 := Lib.hid hb1
  have HS1 := Lib.hid hs1
  have HZ64 := Lib.hid hz64
  have H0 : Hid (Nums W2 W1.heap.size 3 (rowL (prU (zs.take 0)) m) ∧ Below W1.heap.size W1 W2) := Lib.hid ⟨by simpa using q1, hb2⟩
  have hm1I : (1 : Int) ≤ (m : Int) := by omega
  have hm6I : (m : Int) ≤ 6 := by omega
  rw [← hn] at HKEEP hW1 ⊢
  rw [← hn] at hx
  clear ha hz hz64 b0 hb1 hs1 q1 hb2 hW2 hn
  go_enter Tryd.func50, Tryd.ntmps50
  go_wp2
  clear hmk hW1 x0
  go_loopw [4, 5] (fun s4 _ wr => ∃ i : Nat, i ≤ n ∧ s4 = .int .i64 (i : Int) ∧ Hid (Nums wr W1.heap.size 3 (rowL (prU (zs.take i)) m) ∧ Below W1.heap.size W1 wr)) (fun s4 _ _ => n - (intOf s4).toNat)
  case atStart => exact ⟨0, Nat.zero_le _, rfl, H0⟩
  case round =>
    obtain ⟨i, hi, rfl, HS⟩ := hrel
    obtain ⟨wo, rfl⟩ : ∃ wo, wo = wr := ⟨wr, rfl⟩
    clear H0
    obtain ⟨x0, x1⟩ := HKEEP.out _ HS.out.2
    by_cases hlt : i < n
    · have hiI : (i : Int) < (n : Int) := by omega
      have hi0 : (0 : Int) ≤ (i : Int) := by omega
      obtain ⟨z, hzz⟩ : ∃ z, z = zs[i]?.getD 0 := ⟨_, rfl⟩
      have hzm : z ∈ zs := by rw [hzz]; exact at_in (by rw [← HN.out]; exact hlt)
      obtain ⟨hz0, hz64⟩ := HZ64.out z hzm
      have htk : zs.take (i + 1) = zs.take i ++ [z] := by
        rw [List.take_succ_eq_append_getElem (by rw [← HN.out]; exact hlt), hzz, List.getElem?_eq_getElem (by rw [← HN.out]; exact hlt), Option.getD_some]
      obtain ⟨L, hL⟩ : ∃ L, L = prU (zs.take i) := ⟨_, rfl⟩
      obtain ⟨L', hL'⟩ : ∃ L', L' = prU (zs.take (i + 1)) := ⟨_, rfl⟩
      have HL' := Lib.hid hL'
      have HST : Hid (∀ v, L' v = if Bt v z then L v ||| woP z.toNat v else L v) := Lib.hid fun v => by rw [hL', hL, htk]; exact prU_snoc _ _ _
      have HLT : Hid (∀ v, v < 6 → L v < 64) := Lib.hid fun v hv => by
        rw [hL]
        exact (prU_bit (w := 0) hv (zs.take i) (fun y hy => (HZ64.out y (List.mem_of_mem_take hy)).2)).1
      have HV0 : Hid (Nums wo W1.heap.size 3 (halfL L L' m 0) ∧ Below W1.heap.size W1 wo) := Lib.hid ⟨by rw [half_zero, hL]; exact HS.out.1, HS.out.2⟩
      have HZZ := Lib.hid hzz
      clear hL hL' hzz hzm htk
      go_wp2
      go_loopw [5] (fun s5 wv => ∃ v : Nat, v ≤ m ∧ s5 = .int .i64 (v : Int) ∧ Hid (Nums wv W1.heap.size 3 (halfL L L' m v) ∧ Below W1.heap.size W1 wv)) (fun s5 _ => m - (intOf s5).toNat)
      case atStart => exact ⟨0, Nat.zero_le _, rfl, HV0⟩
      case round =>
        obtain ⟨v, hv, rfl, HV⟩ := hrel
        clear HV0 x0 x1
        obtain ⟨x0, x1⟩ := HKEEP.out _ HV.out.2
        by_cases hvm : v < m
        · have hvI : (v : Int) < (m : Int) := by omega
          have hv0 : (0 : Int) ≤ (v : Int) := by omega
          obtain ⟨ba, oa, rfl, hba, hca⟩ := (HI1.out.below (HV.out.2.mono (by have := HS1.out; omega))).at_ (k := i) (by rw [← HN.out]; exact hlt)
          rw [← HZZ.out] at hca
          have hbt := bt_int hz0 hz64 (show v < 6 by omega)
          cases hb : Bt v z
          · rw [hb] at hbt
            simp only [Bool.false_eq_true, if_false] at hbt
            have HV2 : Hid (Nums wr W1.heap.size 3 (halfL L L' m (v + 1)) ∧ Below W1.heap.size W1 wr) := Lib.hid (by rw [half_keep (by rw [HST.out, hb]; rfl)]; exact HV.out)
            clear hb
            go_wp2
            go_roundw
            case rel => exact ⟨v + 1, by omega, by go_num, HV2⟩
            case measure => simp [intOf]; omega
          · rw [hb] at hbt
            simp only [if_true] at hbt
            obtain ⟨y, rfl⟩ : ∃ y : Nat, z = (y : Int) := ⟨z.toNat, by omega⟩
            rw [Int.toNat_natCast] at hz64
            have hLv := HLT.out v (by omega)
            have hE : L' v = L v ||| woP y v := by rw [HST.out, hb, Int.toNat_natCast]; rfl
            have hwo := wow_at y v hz64 (by omega)
            have hwl : woP y v < 64 := Nat.lt_of_le_of_lt (wo_le _ _) hz64
            have hor := or6_at (L v) (woP y v) hLv hwl
            rw [← hE] at hor
            have c1 := HV.out.1.cell v (by unfold halfL; rw [rowL_len]; exact hvm)
            rw [half_at hvm] at c1
            have f1 := HV.out.1.frozen v
            obtain ⟨u, hu⟩ : ∃ u, u = woP y v := ⟨_, rfl⟩
            obtain ⟨p, hp⟩ : ∃ p, p = L v := ⟨_, rfl⟩
            obtain ⟨p', hp'⟩ : ∃ p', p' = L' v := ⟨_, rfl⟩
            rw [← hu] at hwo hor
            rw [← hp] at hor c1
            rw [← hp'] at hor
            have hp2 := p2_small v (by omega)
            have HR : Hid (Nums (wr.drew.setCell ⟨W1.heap.size, v, none⟩ (.int .i64 (p' : Int))) W1.heap.size 3 (halfL L L' m (v + 1)) ∧ Below W1.heap.size W1 (wr.drew.setCell ⟨W1.heap.size, v, none⟩ (.int .i64 (p' : Int)))) := Lib.hid ⟨by rw [half_set, hp']; exact Nums.set (W := wr.drew) HV.out.1 v _, (HV.out.2.drew).setCell (p := ⟨W1.heap.size, v, none⟩) (Nat.le_refl _) _⟩
            clear hb hE hu hp hp' hLv hwl
            go_wp2
            go_still_tail 16, (by kernel_rfl)
            repeat still_step
            try rw [hwo]
            repeat still_step
            try rw [hor]
            repeat still_step
            try refine wpStill_nil ?_
            change wpList _ _ _ _ _ wr.drew
            go_wp2
            go_roundw
            case rel => exact ⟨v + 1, by omega, by go_num, HR⟩
            case measure => simp [intOf]; omega
        · obtain rfl : v = m := by omega
          have HR : Hid (Nums wr W1.heap.size 3 (rowL (prU (zs.take (i + 1))) v) ∧ Below W1.heap.size W1 wr) := Lib.hid (by have := HV.out; rw [half_all, HL'.out] at this; exact this)
          go_wp2
          go_roundw
          case rel => exact ⟨i + 1, by omega, by go_num, HR⟩
          case measure => simp [intOf]; omega
    · obtain rfl : i = n := by omega
      have HR : Hid (Nums wo W1.heap.size 3 (rowL (prU zs) m) ∧ Below w.heap.size w wo) := Lib.hid ⟨by have := HS.out.1; rwa [HN.out, List.take_length] at this, HB1.out.trans (HS.out.2.mono (by have := HS1.out; omega))⟩
      go_wp2
      go_ret
      exact ⟨W1.heap.size, rfl, by have := HS1.out; omega, HR.out⟩

end Go.Proofs.YtphddemilibooaaDoor
