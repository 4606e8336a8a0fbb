/- It is proved that the call of the law FnColourLeast returns true; conditions: those of each statement. -/
import Derived.RowKit
import Derived.Laws.CopyRow
import Derived.Lib.SlBuf
import Derived.Deep.QuietTactic
import Derived.RangeFuncNested
import Derived.RangeFuncBound
import Derived.RangeFuncCalls
import Derived.RangeFuncLeaves
import Derived.RangeFuncBox
import Derived.RangeFuncWrites
import Derived.StillTailTactics
import Derived.Maps.OwnIn
import Derived.Maps.Ext
import Derived.DeepKeys4
import Derived.MapKept
import Derived.Test.YtacglafoahmcnaaDoorRows
import Derived.WalkKit
import Derived.WalkSpells
import Derived.ProofKit
import Derived.OpenShut
import Derived.ShutString
import Derived.ChangeOld
import Derived.Below
import Derived.Deep.RegionHeld3
import Derived.BigQuiet
import Derived.Lib.Hide
import Derived.Lib.SmallJoins
import Derived.Outline
import Derived.Laws.MakeOwn
import Derived.Laws.OwnMore
import Derived.IntWalk
import Derived.Maps.AppendAt
import Derived.Sort.MapsRangeIn
import Derived.Deep.RegionLaw
import Derived.Deep.AppendLies
import Derived.Deep.RegionWith
import Derived.Lib.AppendZeros
import Derived.OwnWalk
import Derived.Lib.SlicesCompact
import Derived.Lib.OwnBridge
import Derived.OrdersIn
import Derived.TacticsIn
import Derived.Orders
import Derived.Tactics
import Derived.Shelf.Sort.Plain
import Derived.Shelf.Slices.In.SortNone
import Derived.Shelf.Slices.CompactI
import Derived.Ground.Names2Prog
import Derived.Lib.SliceRun
import Derived.Shelf.RegionOpen
import Derived.Shelf.Abstract
import Derived.OwnWalkIn
import Derived.TacticsInMore
import Derived.LoopNIn
import Derived.LoopIn
import Derived.StillTail
import Derived.StillTactics
import Derived.Shelf.Spec.TrailingZeros
import Derived.Deep.LoopGhost
import Derived.Test.YtacglafoahmcnaaDoorRaac
import Derived.Test.YtacglafoahmcnaaDoorDb
import Derived.Test.YtacglafoahmcnaaDoorRaap
import Derived.Test.YtacglafoahmcnaaDoorRaaw
import Derived.Test.YtacglafoahmcnaaDoorRaad
import Derived.Test.YtacglafoahmcnaaDoorRaazxFnColo
import Derived.Test.YtacglafoahmcnaaDoorRabexFnColo
import Derived.Test.YtacglafoahmcnaaDoorRabgxFnColo
import Derived.Test.YtacglafoahmcnaaDoorRabhxFnColo
import Derived.Test.YtacglafoahmcnaaDoorRabmxFnColo
import Derived.Test.YtacglafoahmcnaaDoorRaboxFnColo
import Derived.Test.YtacglafoahmcnaaDoorRaal
import Derived.Test.YtacglafoahmcnaaDoorRaam
import Derived.Test.YtacglafoahmcnaaDoorRabbxFnColo
import Derived.Test.YtacglafoahmcnaaDoorRaae
import Derived.Test.YtacglafoahmcnaaDoorYa
import Derived.Test.YtacglafoahmcnaaDoorYt
import Derived.Test.YtacglafoahmcnaaDoorRabqxFnColo
namespace Go.Proofs.YtacglafoahmcnaaDoor
open Go.RowKit

theorem least_facts {m : Nat} (hm1 : 1 ≤ m) (hm6 : m ≤ 6) {zs : List Int} (hz : Sets m zs) (ha : ablB zs = true) :
    ∃ k, k < m ∧ leastC m zs = k + 1 ∧ 0 < cntCM m zs (k + 1) ∧ ∀ j, j < k → cntCM m zs (j + 1) = 0 := by
  have hf := cnt_full hm6 hz ha
  obtain ⟨k, hk, h1, h2⟩ := least_node (P := fun i => 0 < cntCM m zs (i + 1)) (n := m - 1) (by show 0 < cntCM m zs (m - 1 + 1); rw [show m - 1 + 1 = m by omega]; exact hf)
  have h0 : ∀ j, j < k → cntCM m zs (j + 1) = 0 := fun j hj => by have := h2 j hj; omega
  exact ⟨k, by omega, leastC_is (by omega) h0 h1, h1, h0⟩

theorem one_int : ∀ b : Bool, (if b = true then (1 : Int) else 0) = (((if b = true then 1 else 0 : Nat)) : Int) := by decide
theorem neg_int : ∀ b : Bool, (if b = true then (-1 : Int) else 0) = -(((if b = true then 1 else 0 : Nat)) : Int) := by decide
theorem even_two {x : Nat → Bool} {z : Int} (hz : z.toNat < 64) (h : Even1 x z) (h2 : 2 ≤ (mem z.toNat).length) : ∃ v ∈ mem z.toNat, ∃ w ∈ mem z.toNat, x v ≠ x w := by
  by_cases hx : ∃ v ∈ mem z.toNat, ∃ w ∈ mem z.toNat, x v ≠ x w
  · exact hx
  · exfalso
    obtain ⟨u, hu⟩ : ∃ u, u ∈ mem z.toNat := by
      match hm : mem z.toNat with
      | [] => rw [hm] at h2; simp at h2
      | u :: _ => exact ⟨u, by simp⟩
    have hd : ∀ v, disc1 x z v = if Bt v z = true then (if x u then 1 else -1) else 0 := fun v => by
      unfold disc1
      by_cases hb : Bt v z = true
      · rw [if_pos hb, if_pos hb]
        have : x v = x u := by
          by_cases e : x v = x u
          · exact e
          · exact absurd ⟨v, (mem_bt hz).2 hb, u, hu, e⟩ hx
        rw [this]
      · rw [if_neg hb, if_neg hb]
    have hc := memK_bt hz
    rw [mem8 hz] at hc
    unfold Even1 disc at h
    simp only [hd] at h
    cases hxu : x u
    · simp only [hxu, Bool.false_eq_true, if_false, neg_int] at h
      generalize (if Bt 0 z = true then 1 else 0 : Nat) = p0 at h hc
      generalize (if Bt 1 z = true then 1 else 0 : Nat) = p1 at h hc
      generalize (if Bt 2 z = true then 1 else 0 : Nat) = p2 at h hc
      generalize (if Bt 3 z = true then 1 else 0 : Nat) = p3 at h hc
      generalize (if Bt 4 z = true then 1 else 0 : Nat) = p4 at h hc
      generalize (if Bt 5 z = true then 1 else 0 : Nat) = p5 at h hc
      omega
    · simp only [hxu, if_true, one_int] at h
      generalize (if Bt 0 z = true then 1 else 0 : Nat) = p0 at h hc
      generalize (if Bt 1 z = true then 1 else 0 : Nat) = p1 at h hc
      generalize (if Bt 2 z = true then 1 else 0 : Nat) = p2 at h hc
      generalize (if Bt 3 z = true then 1 else 0 : Nat) = p3 at h hc
      generalize (if Bt 4 z = true then 1 else 0 : Nat) = p4 at h hc
      generalize (if Bt 5 z = true then 1 else 0 : Nat) = p5 at h hc
      omega

theorem forest_many {m : Nat} (hm : m ≤ 6) {zs : List Int} (hz : Sets m zs) (ha : ablB zs = true) (hb : Br (bZ zs)) : 0 < cntCM m zs 2 := by
  obtain ⟨x, hx⟩ := forest_even hm hz hb
  unfold cntCM
  rw [List.countP_pos_iff]
  refine ⟨(List.range m).map fun v => if x v then (1 : Int) else 0, (wordsL_mem _ _ _).2 ⟨by simp, fun c hc => ?_⟩, ?_⟩
  · obtain ⟨v, -, rfl⟩ := List.mem_map.1 hc
    rw [palI_mem]
    cases x v <;> simp
  · unfold mixB
    rw [List.all_eq_true]
    intro z hzz
    have h64 := p64 hm (hz z hzz).2
    have h2 : 2 ≤ (mem z.toNat).length := by
      have := List.all_eq_true.1 ha z hzz
      unfold ablZ at this
      rw [decide_eq_true_eq] at this
      rw [← mem8 h64]
      exact this
    obtain ⟨v, hv, u, hu, hne⟩ := even_two h64 (hx z hzz) h2
    rw [mixZ_iff]
    refine ⟨v, hv, u, hu, fun e => hne ?_⟩
    have hvm := mem_lt m hm _ (hz z hzz).2 v hv
    have hum := mem_lt m hm _ (hz z hzz).2 u hu
    simp [hvm, hum] at e
    cases h1 : x v <;> cases h3 : x u <;> simp [h1, h3] at e ⊢

/-- What is known of least colours. -/
theorem least_law {m : Int} {zs : List Int} (h : okCL m zs = true) :
    1 ≤ outCL m zs ∧ outCL m zs ≤ 6 ∧ okCM m zs (min (outCL m zs) 4) = true ∧ okCM m zs (min (outCL m zs - 1) 4) = true ∧
      (outCL m zs ≤ 4 → 0 < outCM m zs (min (outCL m zs) 4) ∧ outCM m zs (min (outCL m zs - 1) 4) = 0) ∧ (forestB m zs = true → outCL m zs ≤ 2) := by
  have h' := h
  unfold okCL at h'
  rw [Bool.and_eq_true] at h'
  obtain ⟨hf, ha⟩ := h'
  obtain ⟨k, rfl, hk1, hk6, hset, hl8⟩ := fam_nat2 hf
  obtain ⟨l, hl, hlc, hpos, hzero⟩ := least_facts hk1 hk6 hset ha
  have ho : outCL (k : Int) zs = ((l + 1 : Nat) : Int) := by unfold outCL; rw [hf, ha]; simp only [Bool.and_self, if_true, Int.toNat_natCast]; rw [hlc]
  have hcol : ∀ q : Int, 0 ≤ q → q ≤ 4 → colIn q 0 = true := fun q h0 h4 => by unfold colIn; rw [Bool.and_eq_true, decide_eq_true_eq, decide_eq_true_eq]; omega
  rw [ho]
  refine ⟨by omega, by omega, ?_, ?_, fun h4 => ?_, fun hfo => ?_⟩
  · unfold okCM; rw [hf, hcol _ (by omega) (by omega)]; rfl
  · unfold okCM; rw [hf, hcol _ (by omega) (by omega)]; rfl
  · rw [show min ((l + 1 : Nat) : Int) 4 = ((l + 1 : Nat) : Int) by omega, show min (((l + 1 : Nat) : Int) - 1) 4 = ((l : Nat) : Int) by omega]
    unfold outCM
    rw [hf, hcol _ (by omega) (by omega), hcol _ (by omega) (by omega)]
    simp only [Bool.and_self, if_true, Int.toNat_natCast]
    refine ⟨by omega, ?_⟩
    cases l with
    | zero =>
      have := cntCM_le k zs 0
      rw [Nat.zero_pow (by omega)] at this
      omega
    | succ l => rw [hzero l (by omega)]; rfl
  · have hp2 := forest_many hk6 hset ha (forest_br hk6 hset hfo)
    rcases Nat.lt_or_ge 1 l with h1 | h1
    · have : cntCM k zs 2 = 0 := hzero 1 h1
      omega
    · omega

set_option maxRecDepth 100000 in
set_option maxHeartbeats 8000000 in
theorem walkFnColourLeast (a : Option Addr) (n cap : Nat) (w : World) (hb : Bys w w.heap.size a n) (hT : Tab w) (hn : n ≤ 1048576) (hc : n ≤ cap) (hc2 : cap ≤ 9223372036854775807) :
    Calls Tryd.prog 6 #[.slice a n cap] w fun e w' => e = .returned (.bool true) ∧ Below w.heap.size w w' := by
  have HBy := Lib.hid hb
  have HT := Lib.hid hT
  clear hb hT
  go_enter Tryd.func6, Tryd.ntmps6
  go_wp2_with fail
  refine (drawColourLeast_any a n cap w HBy.out hn hc hc2).mono ?_
  rintro e w1 ⟨m, a1, zs, c1, rfl, hl, ho1, hb1⟩
  have F1 := FB.start (m := m) (c := c1) (own_ints ho1)
  have B1 := Lib.hid (hb1.trans ((below1 w1 (.cells #[.int .i64 m, .slice a1 zs.length c1] 25)).mono hb1.size))
  have hln : zs.length ≤ 1048576 := by omega
  have f_f_1 := Lib.hid F1
  clear F1 ho1 hb1
  have f_0 := f_f_1.out.x0
  have f_1 := f_f_1.out.x1
  have HLL := Lib.hid (least_law (m := m) (zs := zs))
  have HI := Lib.hid (fun W hi hT => implColourLeast_any m a1 c1 zs W hi hT hln)
  have HSP := Lib.hid (fun W hi => specColourLeast_any m a1 c1 zs W hi hln)
  have HM1 := Lib.hid (fun W hi hT => implColourMany_any m (min (outCL m zs) 4) a1 c1 zs W hi hT hln)
  have HM2 := Lib.hid (fun W hi hT => implColourMany_any m (min (outCL m zs - 1) 4) a1 c1 zs W hi hT hln)
  have HFO := Lib.hid (fun W hi hT => implForest_any m a1 c1 zs W hi hT hln)
  obtain ⟨K, hK⟩ : ∃ K, K = okCL m zs := ⟨_, rfl⟩
  obtain ⟨G, hG⟩ : ∃ G, G = forestB m zs := ⟨_, rfl⟩
  obtain ⟨P1, hP1⟩ : ∃ P1, P1 = okCM m zs (min (outCL m zs) 4) := ⟨_, rfl⟩
  obtain ⟨P2, hP2⟩ : ∃ P2, P2 = okCM m zs (min (outCL m zs - 1) 4) := ⟨_, rfl⟩
  obtain ⟨A, hA⟩ : ∃ A, A = outCM m zs (min (outCL m zs) 4) := ⟨_, rfl⟩
  obtain ⟨B, hB⟩ : ∃ B, B = outCM m zs (min (outCL m zs - 1) 4) := ⟨_, rfl⟩
  rw [← hK, ← hP1, ← hP2, ← hA, ← hB, ← hG] at HLL
  rw [← hA, ← hP1] at HM1
  rw [← hB, ← hP2] at HM2
  rw [← hG] at HFO
  rw [← hK] at HI HSP
  obtain ⟨O, hO⟩ : ∃ O, O = outCL m zs := ⟨_, rfl⟩
  rw [← hO] at HLL HI HSP HM1 HM2
  clear hK hG hP1 hP2 hA hB hO
  go_wp2_with fail
  refine (HI.out _ f_f_1.out.ints (HT.out.below B1.out HT.out.lt)).mono ?_
  rintro e w2 ⟨rfl, hb2⟩
  have B2 := Lib.hid (B1.out.trans (hb2.mono B1.out.size))
  have f_f_2 := Lib.hid (f_f_1.out.step hb2)
  clear hb2 B1 f_f_1
  clear f_0 f_1
  have f_0 := f_f_2.out.x0
  have f_1 := f_f_2.out.x1
  go_wp2_with fail
  refine (HSP.out _ f_f_2.out.ints).mono ?_
  rintro e w3 ⟨rfl, hb3⟩
  have B3 := Lib.hid (B2.out.trans (hb3.mono B2.out.size))
  have f_f_3 := Lib.hid (f_f_2.out.step hb3)
  clear hb3 B2 f_f_2
  clear f_0 f_1
  have f_0 := f_f_3.out.x0
  have f_1 := f_f_3.out.x1
  clear HI HSP
  cases K
  · clear HLL HM1 HM2 HFO
    go_wp2
    go_ret
    exact ⟨rfl, B3.out⟩
  · obtain ⟨hO1, hO6, rfl, rfl, h4, h2⟩ := HLL.out rfl
    have H4 := Lib.hid h4
    have H2 := Lib.hid h2
    clear h4 h2 HLL
    go_wp2_with fail
    refine (HM1.out _ f_f_3.out.ints (HT.out.below B3.out HT.out.lt)).mono ?_
    rintro e w4 ⟨rfl, hb4⟩
    have B4 := Lib.hid (B3.out.trans (hb4.mono B3.out.size))
    have f_f_4 := Lib.hid (f_f_3.out.step hb4)
    clear hb4 B3 f_f_3 HM1
    clear f_0 f_1
    have f_0 := f_f_4.out.x0
    have f_1 := f_f_4.out.x1
    go_wp2_with fail
    refine (HM2.out _ f_f_4.out.ints (HT.out.below B4.out HT.out.lt)).mono ?_
    rintro e w5 ⟨rfl, hb5⟩
    have B5 := Lib.hid (B4.out.trans (hb5.mono B4.out.size))
    have f_f_5 := Lib.hid (f_f_4.out.step hb5)
    clear hb5 B4 f_f_4 HM2
    clear f_0 f_1
    have f_0 := f_f_5.out.x0
    have f_1 := f_f_5.out.x1
    by_cases hg : 4 < O
    · have hG : G = false := by
        cases G
        · rfl
        · have := H2.out rfl; omega
      subst hG
      go_wp2_with fail
      refine (HFO.out _ f_f_5.out.ints (HT.out.below B5.out HT.out.lt)).mono ?_
      rintro e w6 ⟨rfl, hb6⟩
      have B6 := Lib.hid (B5.out.trans (hb6.mono B5.out.size))
      clear hb6
      go_wp2
      all_goals (go_ret; exact ⟨rfl, B6.out⟩)
    · obtain ⟨hA0, hB0⟩ := H4.out (by omega)
      subst hB0
      have hg' : O ≤ 4 := by omega
      clear hg
      go_wp2_with fail
      refine (HFO.out _ f_f_5.out.ints (HT.out.below B5.out HT.out.lt)).mono ?_
      rintro e w6 ⟨rfl, hb6⟩
      have B6 := Lib.hid (B5.out.trans (hb6.mono B5.out.size))
      clear hb6
      cases G
      · go_wp2
        all_goals (go_ret; exact ⟨rfl, B6.out⟩)
      · have hO2 := H2.out rfl
        go_wp2
        all_goals (go_ret; exact ⟨rfl, B6.out⟩)

end Go.Proofs.YtacglafoahmcnaaDoor
