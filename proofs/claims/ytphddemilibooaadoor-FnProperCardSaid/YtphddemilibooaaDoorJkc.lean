/- It is proved that the call of the law FnProper returns true; conditions: those of each statement. -/
import Derived.RowKit
import Derived.Laws.CopyRow
import Derived.Lib.SlBuf
import Derived.Deep.QuietTactic
import Derived.RangeFuncNested
import Derived.RangeFuncBound
import Derived.RangeFuncCalls
import Derived.RangeFuncLeaves
import Derived.RangeFuncBox
import Derived.RangeFuncWrites
import Derived.StillTailTactics
import Derived.Maps.OwnIn
import Derived.Maps.Ext
import Derived.DeepKeys4
import Derived.MapKept
import Derived.Test.YtphddemilibooaaDoorRows
import Derived.WalkKit
import Derived.WalkSpells
import Derived.ProofKit
import Derived.OpenShut
import Derived.ShutString
import Derived.ChangeOld
import Derived.Below
import Derived.Deep.RegionHeld3
import Derived.BigQuiet
import Derived.Lib.Hide
import Derived.Lib.SmallJoins
import Derived.Outline
import Derived.Laws.MakeOwn
import Derived.Laws.OwnMore
import Derived.IntWalk
import Derived.Maps.AppendAt
import Derived.Sort.MapsRangeIn
import Derived.Deep.RegionLaw
import Derived.Deep.AppendLies
import Derived.Deep.RegionWith
import Derived.Lib.AppendZeros
import Derived.OwnWalk
import Derived.Lib.SlicesCompact
import Derived.Lib.OwnBridge
import Derived.OrdersIn
import Derived.TacticsIn
import Derived.Shelf.Sort.Plain
import Derived.Shelf.Slices.In.SortNone
import Derived.Shelf.Slices.CompactI
import Derived.Ground.Names2Prog
import Derived.Lib.SliceRun
import Derived.Shelf.RegionOpen
import Derived.Shelf.Abstract
import Derived.OwnWalkIn
import Derived.TacticsInMore
import Derived.LoopNIn
import Derived.LoopIn
import Derived.StillTail
import Derived.StillTactics
import Derived.Shelf.Spec.TrailingZeros
import Derived.Deep.LoopGhost
import Derived.Test.YtphddemilibooaaDoorRaac
import Derived.Test.YtphddemilibooaaDoorRaab
import Derived.Test.YtphddemilibooaaDoorDb
import Derived.Test.YtphddemilibooaaDoorRaar
import Derived.Test.YtphddemilibooaaDoorRaad
import Derived.Test.YtphddemilibooaaDoorRaas
import Derived.Test.YtphddemilibooaaDoorRabhxFnProp
import Derived.Test.YtphddemilibooaaDoorRabixFnProp
import Derived.Test.YtphddemilibooaaDoorRabtxFnProp
import Derived.Test.YtphddemilibooaaDoorRabkxFnProp
import Derived.Test.YtphddemilibooaaDoorRabmxFnProp
import Derived.Test.YtphddemilibooaaDoorRabnxFnProp
import Derived.Test.YtphddemilibooaaDoorRabuxFnProp
import Derived.Test.YtphddemilibooaaDoorRaal
import Derived.Test.YtphddemilibooaaDoorKc
import Derived.Test.YtphddemilibooaaDoorRaaz
import Derived.Test.YtphddemilibooaaDoorRaaj
import Derived.Test.YtphddemilibooaaDoorRabvxFnProp
import Derived.Test.YtphddemilibooaaDoorRabsxFnProp
import Derived.Test.YtphddemilibooaaDoorRaat
import Derived.Test.YtphddemilibooaaDoorRabd
import Derived.Test.YtphddemilibooaaDoorZc
namespace Go.Proofs.YtphddemilibooaaDoor
open Go.RowKit

def mostI (ys : List Int) (i : Nat) : Int := (ys.take i).foldl max 0
theorem mostI_succ {ys : List Int} {i : Nat} (h : i < ys.length) : mostI ys (i + 1) = max (mostI ys i) (ys[i]?.getD 0) := by
  unfold mostI
  rw [List.take_succ_eq_append_getElem h, List.foldl_append]
  simp [h]

theorem fold_max : ∀ (l : List Int) (a : Int), a ≤ l.foldl max a ∧ (∀ y ∈ l, y ≤ l.foldl max a) ∧ (l.foldl max a = a ∨ l.foldl max a ∈ l)
  | [], a => ⟨Int.le_refl _, by simp, .inl rfl⟩
  | x :: l, a => by
    obtain ⟨h1, h2, h3⟩ := fold_max l (max a x)
    rw [List.foldl_cons]
    refine ⟨by omega, fun y hy => ?_, ?_⟩
    · rcases List.mem_cons.1 hy with rfl | h
      · omega
      · exact h2 y h
    · rcases h3 with h | h
      · rw [h]
        rcases Int.le_total a x with h4 | h4
        · right; rw [Int.max_eq_right h4]; simp
        · left; exact Int.max_eq_left h4
      · right; simp [h]

theorem mostI_big {ys : List Int} {q : Int} (hq : 0 ≤ q) (h : q < mostI ys ys.length) : ∃ y ∈ ys, q < y := by
  unfold mostI at h
  rw [List.take_length] at h
  rcases (fold_max ys 0).2.2 with e | e
  · omega
  · exact ⟨_, e, h⟩

theorem mostI_all {ys : List Int} : ∀ y ∈ ys, y ≤ mostI ys ys.length := fun y hy => by
  unfold mostI
  rw [List.take_length]
  exact (fold_max ys 0).2.1 y hy

theorem mostI_nn {ys : List Int} (i : Nat) : 0 ≤ mostI ys i := (fold_max _ 0).1
theorem mostI_le {ys : List Int} {b : Int} (hb : 0 ≤ b) (h : ∀ y ∈ ys, y ≤ b) (i : Nat) : mostI ys i ≤ b := by
  unfold mostI
  rcases (fold_max (ys.take i) 0).2.2 with e | e
  · rw [e]; exact hb
  · exact h _ (List.mem_of_mem_take e)

theorem proper_zero {m k : Nat} (hm : m ≤ 6) {zs : List Int} (hz : Sets m zs) {z : Int} (hzz : z ∈ zs) (hk : k < (mem z.toNat).length) : cntCP m zs k = 0 := by
  unfold cntCP
  rw [List.countP_eq_zero]
  intro c hc hp
  obtain ⟨hcl, hcm⟩ := (wordsL_mem _ _ _).1 hc
  have h1 := List.all_eq_true.1 hp z hzz
  unfold propZ at h1
  rw [decide_eq_true_eq, show (mem z.toNat).length = (colsZ c z).length from by simp [colsZ], kinds_all] at h1
  have hsub : ∀ x ∈ colsZ c z, x ∈ palI k := fun x hx => by
    obtain ⟨v, hv, rfl⟩ := List.mem_map.1 hx
    have hvm := mem_lt m hm _ (hz z hzz).2 v hv
    rw [List.getElem?_eq_getElem (by omega), Option.getD_some]
    exact hcm _ (List.getElem_mem _)
  have := h1.length_le_of_subset hsub
  rw [palI_len] at this
  simp [colsZ] at this
  omega

theorem proper_pos {m k : Nat} (hm : m ≤ 6) (hk1 : 1 ≤ k) {zs : List Int} (hz : Sets m zs) (hs : ∀ z ∈ zs, (mem z.toNat).length ≤ k) (hf : (redZ m zs).length ≤ 1) : 0 < cntCP m zs k := by
  obtain ⟨x, hx1, hx2⟩ := falls_prop hm hk1 hz hs hf
  unfold cntCP
  rw [List.countP_pos_iff]
  refine ⟨(List.range m).map fun v => ((x v : Nat) : Int), (wordsL_mem _ _ _).2 ⟨by simp, fun c hc => ?_⟩, ?_⟩
  · obtain ⟨v, -, rfl⟩ := List.mem_map.1 hc
    rw [palI_mem]
    have := hx1 v
    omega
  · unfold proB
    rw [List.all_eq_true]
    intro z hzz
    rw [propZ_iff]
    intro v hv w hw e
    have h64 := p64 hm (hz z hzz).2
    have hvm := mem_lt m hm _ (hz z hzz).2 v hv
    have hwm := mem_lt m hm _ (hz z hzz).2 w hw
    simp [hvm, hwm] at e
    exact hx2 z hzz v w ((mem_bt h64).1 hv) ((mem_bt h64).1 hw) (by omega)

set_option maxRecDepth 100000 in
set_option maxHeartbeats 8000000 in
theorem walkFnProper (a : Option Addr) (n cap : Nat) (w : World) (hb : Bys w w.heap.size a n) (hT : Tab w) (hn : n ≤ 1048576) (hc : n ≤ cap) (hc2 : cap ≤ 9223372036854775807) :
    Calls Tryd.prog 6 #[.slice a n cap] w fun e w' => e = .returned (.bool true) ∧ Below w.heap.size w w' := by
  have HBy := Lib.hid hb
  have HT := Lib.hid hT
  clear hb hT
  go_enter Tryd.func6, Tryd.ntmps6
  go_wp2_with fail
  refine (drawColourProper_any a n cap w HBy.out hn hc hc2).mono ?_
  rintro e w1 ⟨m, a1, zs, c1, q, rfl, hl, ho1, hb1⟩
  have F1 := FB.start (m := m) (c := c1) (own_ints ho1)
  have B1 := Lib.hid (hb1.trans ((below1 w1 (.cells #[.int .i64 m, .slice a1 zs.length c1] 25)).mono hb1.size))
  have hln : zs.length ≤ 1048576 := by omega
  have f_f_1 := Lib.hid F1
  clear F1 ho1 hb1
  have f_0 := f_f_1.out.x0
  have f_1 := f_f_1.out.x1
  obtain ⟨O, hO⟩ : ∃ O, O = outCP m zs q := ⟨_, rfl⟩
  obtain ⟨K, hK⟩ : ∃ K, K = okCP m zs q := ⟨_, rfl⟩
  have HI := Lib.hid (fun W hi hT => implColourProper_any m q a1 c1 zs W hi hT hln)
  have HSP := Lib.hid (fun W hi => specColourProper_any m q a1 c1 zs W hi hln)
  have HSZ := Lib.hid (fun W hi => implSizes_any m a1 c1 zs W hi hln)
  have HFA := Lib.hid (fun W hi hT => implFalls_any m a1 c1 zs W hi hT hln)
  rw [← hO, ← hK] at HI HSP
  have HO := Lib.hid hO
  have HK := Lib.hid hK
  clear hO hK
  go_wp2_with fail
  refine (HI.out _ f_f_1.out.ints (HT.out.below B1.out HT.out.lt)).mono ?_
  rintro e w2 ⟨rfl, hb2⟩
  have B2 := Lib.hid (B1.out.trans (hb2.mono B1.out.size))
  have f_f_2 := Lib.hid (f_f_1.out.step hb2)
  clear hb2 B1 f_f_1
  clear f_0 f_1
  have f_0 := f_f_2.out.x0
  have f_1 := f_f_2.out.x1
  go_wp2_with fail
  refine (HSP.out _ f_f_2.out.ints).mono ?_
  rintro e w3 ⟨rfl, hb3⟩
  have B3 := Lib.hid (B2.out.trans (hb3.mono B2.out.size))
  have f_f_3 := Lib.hid (f_f_2.out.step hb3)
  clear hb3 B2 f_f_2
  clear f_0 f_1
  have f_0 := f_f_3.out.x0
  have f_1 := f_f_3.out.x1
  clear HI HSP
  cases K
  · clear HK HO HSZ HFA
    go_wp2
    go_ret
    exact ⟨rfl, B3.out⟩
  · have hok := HK.out
    unfold okCP at hok
    obtain ⟨hfm, hcl⟩ : famIn m zs = true ∧ colIn q 0 = true := by
      have := hok.symm
      rwa [Bool.and_eq_true] at this
    obtain ⟨q, rfl, hq4, -⟩ := colIn_nat (Int.le_refl 0) hcl
    obtain ⟨k, hmk, hk1, hk6, hset, hl8⟩ := fam_nat2 hfm
    subst hmk
    have hz64 : ∀ z ∈ zs, 0 ≤ z ∧ z.toNat < 64 := fun z h => ⟨(hset z h).1, p64 hk6 (hset z h).2⟩
    have hOe : O = ((cntCP k zs q : Nat) : Int) := by rw [HO.out]; unfold outCP; rw [hfm, hcl]; rfl
    rw [hfm, show sizesZ (k : Int) zs = zs.map pop by unfold sizesZ; rw [hfm]; rfl] at HSZ
    obtain ⟨F, hF⟩ : ∃ F, F = fallsB (k : Int) zs := ⟨_, rfl⟩
    obtain ⟨ys, hys⟩ : ∃ ys, ys = zs.map pop := ⟨_, rfl⟩
    have hyl : ys.length = zs.length := by rw [hys, List.length_map]
    have hrm : cntCP k zs q % q = 0 := proper_rem hk1 hk6 hset
    have HBIG : Hid ((q : Int) < mostI ys ys.length → cntCP k zs q = 0) := Lib.hid fun h => by
      obtain ⟨y, hy, hqy⟩ := mostI_big (by omega) h
      rw [hys] at hy
      obtain ⟨z, hzz, rfl⟩ := List.mem_map.1 hy
      rw [popZ_mem (hz64 z hzz).1 (hz64 z hzz).2] at hqy
      exact proper_zero hk6 hset hzz (by omega)
    have HPOS : Hid (F = true → 1 ≤ q → mostI ys ys.length ≤ (q : Int) → 0 < cntCP k zs q) := Lib.hid fun hf hq1 h => by
      refine proper_pos hk6 hq1 hset (fun z hzz => ?_) ?_
      · have h1 := mostI_all (ys := ys) (pop z) (by rw [hys]; exact List.mem_map.2 ⟨z, hzz, rfl⟩)
        rw [popZ_mem (hz64 z hzz).1 (hz64 z hzz).2] at h1
        omega
      · rw [hF] at hf
        unfold fallsB at hf
        rw [hfm, Bool.true_and, Int.toNat_natCast, Nat.ble_eq] at hf
        exact hf
    have hYB : ∀ y ∈ ys, 0 ≤ y ∧ y ≤ 8 := by rw [hys]; exact pop_bound hz64
    have HMN := Lib.hid (fun i => mostI_nn (ys := ys) i)
    have HML := Lib.hid (fun i => mostI_le (ys := ys) (b := 8) (by omega) (fun y hy => (hYB y hy).2) i)
    rw [← hys] at HSZ
    rw [← hF] at HFA
    have hPle := cntCP_le k zs q
    have hpw : q ^ k ≤ 4096 := Nat.le_trans (Nat.pow_le_pow_left hq4 k) (Nat.le_trans (Nat.pow_le_pow_right (n := 4) (by decide) hk6) (by decide))
    obtain ⟨A, hA⟩ : ∃ A, A = cntCP k zs q := ⟨_, rfl⟩
    rw [← hA] at hOe hPle hrm HBIG HPOS
    have hA4 : (A : Int) ≤ 4096 := by omega
    have hA0 : (0 : Int) ≤ (A : Int) := by omega
    have hq0 : (0 : Int) ≤ (q : Int) := by omega
    have hq4I : (q : Int) ≤ 4 := by omega
    have hremI : Int.tmod (A : Int) (q : Int) = 0 := by rw [← Int.ofNat_tmod, hrm]; rfl
    have HYB := Lib.hid hYB
    subst hOe
    clear hok hfm hcl hset hz64 hys hA hF HK HO hrm hYB
    go_wp2_with fail
    refine (HSZ.out _ f_f_3.out.ints).mono ?_
    rintro e w5 ⟨a5, c5, rfl, ho5, hb5⟩
    have B5 := Lib.hid (B3.out.trans (hb5.mono B3.out.size))
    have f_f_5 := Lib.hid (f_f_3.out.step hb5)
    have HY5 := Lib.hid (own_ints ho5)
    clear hb5 B3 f_f_3 HSZ ho5
    clear f_0 f_1
    have f_0 := f_f_5.out.x0
    have f_1 := f_f_5.out.x1
    obtain ⟨L, hL⟩ : ∃ L, L = ys.length := ⟨_, rfl⟩
    have HL := Lib.hid hL
    rw [← hL]
    rw [← hL] at hyl HBIG HPOS
    have hL8 : L ≤ 8 := by omega
    clear hyl
    have HT0 : Hid (mostI ys 0 = 0) := Lib.hid rfl
    clear hL
    go_wp2
    go_loop [11, 12] (fun s11 s12 => ∃ i : Nat, i ≤ L ∧ s12 = .int .i64 (i : Int) ∧ s11 = .int .i64 (mostI ys i)) (fun _ s12 => L - (intOf s12).toNat)
    case atStart => exact ⟨0, Nat.zero_le _, rfl, by rw [HT0.out]⟩
    case round =>
      obtain ⟨i, hi, rfl, rfl⟩ := hrel
      have hM0 := HMN.out i
      have hM8 := HML.out i
      by_cases hlt : i < L
      · have hiI : (i : Int) < (L : Int) := by omega
        have hi0 : (0 : Int) ≤ (i : Int) := by omega
        obtain ⟨b9, o9, rfl, hb9, hc9⟩ := HY5.out.at_ (k := i) (by rw [← HL.out]; exact hlt)
        have HSU := Lib.hid (mostI_succ (ys := ys) (i := i) (by rw [← HL.out]; exact hlt))
        obtain ⟨y, hy⟩ : ∃ y, y = ys[i]?.getD 0 := ⟨_, rfl⟩
        have hyb := HYB.out y (by rw [hy]; exact at_in (by rw [← HL.out]; exact hlt))
        rw [← hy] at hc9 HSU
        obtain ⟨M, hM⟩ : ∃ M, M = mostI ys i := ⟨_, rfl⟩
        rw [← hM] at HSU hM0 hM8 ⊢
        obtain ⟨hy0, hy8⟩ := hyb
        clear hy hM
        go_wp2
        go_round
        case rel => exact ⟨i + 1, by omega, by go_num, by rw [HSU.out]⟩
        case measure => simp [intOf]; omega
      · obtain rfl : i = L := by omega
        obtain ⟨M, hM⟩ : ∃ M, M = mostI ys i := ⟨_, rfl⟩
        rw [← hM] at HBIG HPOS hM0 hM8 ⊢
        clear hM
        by_cases hq1 : (q : Int) = 0
        · by_cases hqm : (q : Int) < M
          · have hA00 : (A : Int) = 0 := by have := HBIG.out hqm; omega
            go_wp2_with fail
            refine (HFA.out _ f_f_5.out.ints (HT.out.below B5.out HT.out.lt)).mono ?_
            rintro e w6 ⟨rfl, hb6⟩
            have B6 := Lib.hid (B5.out.trans (hb6.mono B5.out.size))
            have hmx : (q : Int) < max 1 M := by omega
            clear hb6
            cases F
            all_goals
              go_wp2
              all_goals (go_ret; exact ⟨rfl, B6.out⟩)
          · have hqm2 : M ≤ (q : Int) := by omega
            go_wp2_with fail
            refine (HFA.out _ f_f_5.out.ints (HT.out.below B5.out HT.out.lt)).mono ?_
            rintro e w6 ⟨rfl, hb6⟩
            have B6 := Lib.hid (B5.out.trans (hb6.mono B5.out.size))
            have hmx : (q : Int) < max 1 M := by omega
            clear hb6
            cases F
            all_goals
              go_wp2
              all_goals (go_ret; exact ⟨rfl, B6.out⟩)
        · have hq2 : 0 < (q : Int) := by omega
          by_cases hqm : (q : Int) < M
          · have hA00 : (A : Int) = 0 := by have := HBIG.out hqm; omega
            go_wp2_with fail
            refine (HFA.out _ f_f_5.out.ints (HT.out.below B5.out HT.out.lt)).mono ?_
            rintro e w6 ⟨rfl, hb6⟩
            have B6 := Lib.hid (B5.out.trans (hb6.mono B5.out.size))
            have hmx : (q : Int) < max 1 M := by omega
            clear hb6
            cases F
            all_goals
              go_wp2
              all_goals (go_ret; exact ⟨rfl, B6.out⟩)
          · have hqm2 : M ≤ (q : Int) := by omega
            go_wp2_with fail
            refine (HFA.out _ f_f_5.out.ints (HT.out.below B5.out HT.out.lt)).mono ?_
            rintro e w6 ⟨rfl, hb6⟩
            have B6 := Lib.hid (B5.out.trans (hb6.mono B5.out.size))
            have hmx : max 1 M ≤ (q : Int) := by omega
            clear hb6
            cases F
            · go_wp2
              all_goals (go_ret; exact ⟨rfl, B6.out⟩)
            · have hA1 : 0 < (A : Int) := by have := HPOS.out rfl (by omega) hqm2; omega
              have hE : (decide ((q : Int) < max 1 M) || decide (0 < A)) = true := by rw [decide_eq_true (show 0 < A by omega), Bool.or_true]
              go_wp2
              all_goals (go_ret; first | exact ⟨rfl, B6.out⟩ | exact ⟨congrArg (fun b => Ending.returned (.bool b)) hE, B6.out⟩)

end Go.Proofs.YtphddemilibooaaDoor
