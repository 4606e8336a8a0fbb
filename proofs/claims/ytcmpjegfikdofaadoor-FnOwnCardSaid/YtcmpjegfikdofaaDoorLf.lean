/- It is proved that the call of the law FnOwn returns true; conditions: those of each statement. -/
import Derived.RowKit
import Derived.Laws.CopyRow
import Derived.Lib.SlBuf
import Derived.Deep.QuietTactic
import Derived.RangeFuncNested
import Derived.RangeFuncBound
import Derived.RangeFuncCalls
import Derived.RangeFuncLeaves
import Derived.RangeFuncBox
import Derived.RangeFuncWrites
import Derived.StillTailTactics
import Derived.Maps.OwnIn
import Derived.Maps.Ext
import Derived.DeepKeys4
import Derived.MapKept
import Derived.Test.YtcmpjegfikdofaaDoorRows
import Derived.WalkKit
import Derived.WalkSpells
import Derived.ProofKit
import Derived.OpenShut
import Derived.ShutString
import Derived.ChangeOld
import Derived.Below
import Derived.Deep.RegionHeld3
import Derived.BigQuiet
import Derived.Lib.Hide
import Derived.Lib.SmallJoins
import Derived.Outline
import Derived.Laws.MakeOwn
import Derived.Laws.OwnMore
import Derived.IntWalk
import Derived.Maps.AppendAt
import Derived.Deep.RegionLaw
import Derived.Deep.AppendLies
import Derived.Lib.AppendZeros
import Derived.OwnWalk
import Derived.Lib.SlicesCompact
import Derived.Lib.OwnBridge
import Derived.OrdersIn
import Derived.TacticsIn
import Derived.Shelf.Sort.Plain
import Derived.Shelf.Slices.In.SortNone
import Derived.Shelf.Slices.CompactI
import Derived.Ground.Names2Prog
import Derived.Lib.SliceRun
import Derived.Shelf.Abstract
import Derived.Shelf.RegionOpen
import Derived.OwnWalkIn
import Derived.TacticsInMore
import Derived.LoopNIn
import Derived.LoopIn
import Derived.StillTail
import Derived.StillTactics
import Derived.Shelf.Spec.TrailingZeros
import Derived.Test.YtcmpjegfikdofaaDoorMrae
import Derived.Test.YtcmpjegfikdofaaDoorMrac
import Derived.Test.YtcmpjegfikdofaaDoorDb
import Derived.Test.YtcmpjegfikdofaaDoorMraf
import Derived.Test.YtcmpjegfikdofaaDoorMrao
import Derived.Test.YtcmpjegfikdofaaDoorMraa
import Derived.Test.YtcmpjegfikdofaaDoorMrag
import Derived.Test.YtcmpjegfikdofaaDoorMrak
import Derived.Test.YtcmpjegfikdofaaDoorKa
import Derived.Test.YtcmpjegfikdofaaDoorKc
import Derived.Test.YtcmpjegfikdofaaDoorMraz
import Derived.Test.YtcmpjegfikdofaaDoorKo
import Derived.Test.YtcmpjegfikdofaaDoorKu
import Derived.Test.YtcmpjegfikdofaaDoorLg
import Derived.Test.YtcmpjegfikdofaaDoorPzB
import Derived.Test.YtcmpjegfikdofaaDoorMrab
namespace Go.Proofs.YtcmpjegfikdofaaDoor
open Go.RowKit

theorem rev_count (N : Nat) (f : Nat → Bool) : (List.range N).countP (fun s => f (N - 1 - s)) = (List.range N).countP f := by
  induction N with
  | zero => rfl
  | succ N ih =>
    have e1 : (List.range (N + 1)).countP (fun s => f (N + 1 - 1 - s)) = (List.range N).countP (fun s => f (N - 1 - s)) + (if f N = true then 1 else 0) := by
      rw [List.range_succ_eq_map, List.countP_cons, List.countP_map]
      have e : (List.range N).countP ((fun s => f (N + 1 - 1 - s)) ∘ Nat.succ) = (List.range N).countP (fun s => f (N - 1 - s)) := by
        apply List.countP_congr
        intro s _
        show f (N + 1 - 1 - (s + 1)) = true ↔ f (N - 1 - s) = true
        rw [show N + 1 - 1 - (s + 1) = N - 1 - s by omega]
      rw [e]
      rfl
    have e2 : (List.range (N + 1)).countP f = (List.range N).countP f + (if f N = true then 1 else 0) := by
      rw [List.range_succ, List.countP_append, List.countP_cons, List.countP_nil, Nat.zero_add]
    rw [e1, e2, ih]

theorem comp_bit {k s i : Nat} (hs : s < 2 ^ k) : (2 ^ k - 1 - s).testBit i = (decide (i < k) && !s.testBit i) := by
  rw [show 2 ^ k - 1 - s = 2 ^ k - (s + 1) by omega]
  exact Nat.testBit_two_pow_sub_succ hs i

theorem club_cov {k : Nat} (hk : k ≤ 6) {zs : List Int} (hS : Sets k zs) (hO : lcL k zs = unbeaten leG zs) {z : Int} (hz : z ∈ zs) : ∃ t : Nat, ((t : Nat) : Int) ∈ zs ∧ t &&& z.toNat = t ∧ covB zs t = true ∧ covB zs z.toNat = true := by
  have h64 : ∀ z ∈ zs, 0 ≤ z ∧ z < 64 := fun y hy => by
    obtain ⟨h0, h1⟩ := hS y hy
    have := p64 hk h1
    omega
  obtain ⟨o, ho, hle⟩ := least_below zs h64 _ z rfl hz
  have ho' := ho
  rw [← hO] at ho'
  obtain ⟨t, rfl, ht, htm⟩ := lcL_mem.1 ho'
  have hc := ((minB_iff hk ht).1 htm).1
  have h1 := h64 z hz
  have h3 : leG ((t : Nat) : Int) ((z.toNat : Nat) : Int) = true := by rw [Int.toNat_of_nonneg h1.1]; exact hle
  rw [leG_nat _ _ (p64 hk ht) (by omega), decide_eq_true_eq] at h3
  exact ⟨t, ((unbeaten_mem _ _ _).1 ho).1, h3, hc, covB_mono hc h3⟩

theorem own_flip {k : Nat} (hk : k ≤ 6) {zs : List Int} (hS : Sets k zs) (hO : lcL k zs = unbeaten leG zs) {s : Nat} (hs : s < 2 ^ k) : covB zs (2 ^ k - 1 - s) = !covB zs s := by
  cases h : covB zs s
  · show covB zs (2 ^ k - 1 - s) = true
    have h' : ¬ ∀ z ∈ zs, z.toNat &&& s ≠ 0 := by rw [← covB_iff, h]; decide
    have h'' : ∃ z, z ∈ zs ∧ z.toNat &&& s = 0 := by
      apply Classical.byContradiction
      intro hn
      exact h' fun z hz e => hn ⟨z, hz, e⟩
    obtain ⟨z, hz, e⟩ := h''
    obtain ⟨t, -, -, -, hcz⟩ := club_cov hk hS hO hz
    refine covB_mono hcz ?_
    apply Nat.eq_of_testBit_eq
    intro i
    rw [Nat.testBit_and, comp_bit hs]
    have hi := congrArg (fun x => Nat.testBit x i) e
    simp only [Nat.testBit_and, Nat.zero_testBit] at hi
    by_cases hik : i < k
    · cases hz1 : z.toNat.testBit i
      · rfl
      · rw [hz1, Bool.true_and] at hi
        simp [hi, hik]
    · rw [Nat.testBit_lt_two_pow (Nat.lt_of_lt_of_le (hS z hz).2 (Nat.pow_le_pow_right (by decide) (by omega)))]
      rfl
  · show covB zs (2 ^ k - 1 - s) = false
    rw [← Bool.not_eq_true]
    intro hc
    obtain ⟨t, ht1, ht2, ht3⟩ := min_below hk s s (Nat.le_refl _) hs h
    have hm : ((t : Nat) : Int) ∈ lcL k zs := lcL_mem.2 ⟨t, rfl, ht2, ht3⟩
    rw [hO] at hm
    have hz := ((unbeaten_mem _ _ _).1 hm).1
    refine covB_iff.1 hc _ hz ?_
    rw [Int.toNat_natCast]
    apply Nat.eq_of_testBit_eq
    intro i
    rw [Nat.testBit_and, comp_bit hs, Nat.zero_testBit]
    have hi := congrArg (fun x => Nat.testBit x i) ht1
    simp only [Nat.testBit_and] at hi
    cases h1 : t.testBit i
    · rfl
    · rw [h1, Bool.true_and] at hi
      rw [hi]
      simp

theorem own_half {k : Nat} (hk : k ≤ 6) {zs : List Int} (hS : Sets k zs) (hO : lcL k zs = unbeaten leG zs) : 2 * manyC k zs = 2 ^ k := by
  have h1 := rev_count (2 ^ k) (covB zs)
  have h2 : (List.range (2 ^ k)).countP (fun s => covB zs (2 ^ k - 1 - s)) = (List.range (2 ^ k)).countP (fun s => !covB zs s) := by
    apply List.countP_congr
    intro s hs
    rw [own_flip hk hS hO (List.mem_range.1 hs)]
  have h3 := List.length_eq_countP_add_countP (covB zs) (l := List.range (2 ^ k))
  rw [List.length_range] at h3
  have h4 : (List.range (2 ^ k)).countP (fun s => decide (¬ covB zs s = true)) = (List.range (2 ^ k)).countP (fun s => !covB zs s) := by
    apply List.countP_congr
    intro s _
    cases covB zs s <;> simp
  unfold manyC
  rw [← List.countP_eq_length_filter]
  omega

theorem own_facts {m : Int} {zs : List Int} (h : ownB m zs = true) :
    famIn m zs = true ∧ 1 ≤ m ∧ m ≤ 6 ∧ (∀ j, j < zs.length → ∀ i, i < zs.length → (bits .and .i64 (zs[j]?.getD 0) (zs[i]?.getD 0) == 0) = false) ∧ coverZ m zs = 2 ^ (m.toNat - 1) := by
  unfold ownB at h
  rw [Bool.and_eq_true, decide_eq_true_eq] at h
  obtain ⟨hf, hO⟩ := h
  have hf' := hf
  obtain ⟨k, rfl, hk1, hk6, hS, -⟩ := fam_nat hf
  rw [Int.toNat_natCast] at hO
  refine ⟨hf', by omega, by omega, fun j hj i hi => ?_, ?_⟩
  · rw [List.getElem?_eq_getElem hj, List.getElem?_eq_getElem hi, Option.getD_some, Option.getD_some]
    have hz := List.getElem_mem hj
    have hy := List.getElem_mem hi
    generalize zs[j] = z at hz
    generalize zs[i] = y at hy
    obtain ⟨z0, z1⟩ := hS z hz
    obtain ⟨y0, y1⟩ := hS y hy
    obtain ⟨t, -, -, -, hc⟩ := club_cov hk6 hS hO hz
    have hne := covB_iff.1 hc y hy
    have := andF_fin ⟨z.toNat, p64 hk6 z1⟩ ⟨y.toNat, p64 hk6 y1⟩
    simp only [Int.toNat_of_nonneg z0, Int.toNat_of_nonneg y0] at this
    rw [this, beq_eq_false_iff_ne]
    rw [Nat.and_comm] at hne
    omega
  · have h2 := own_half hk6 hS hO
    unfold coverZ
    rw [hf', if_pos rfl, Int.toNat_natCast]
    obtain ⟨k', rfl⟩ : ∃ k', k = k' + 1 := ⟨k - 1, by omega⟩
    rw [Nat.pow_succ] at h2
    have h3 : manyC (k' + 1) zs = 2 ^ k' := by omega
    rw [h3, Nat.add_sub_cancel]
    norm_cast

set_option maxRecDepth 100000 in
set_option maxHeartbeats 8000000 in
theorem walkFnOwn (a : Option Addr) (n cap : Nat) (w : World) (hb : Bys w w.heap.size a n) (hT : Tab w) (hn : n ≤ 1048576) (hc : n ≤ cap) (hc2 : cap ≤ 9223372036854775807) :
    Calls Tryd.prog 8 #[.slice a n cap] w fun e w' => e = .returned (.bool true) ∧ Below w.heap.size w w' := by
  have HBy := Lib.hid hb
  have HT := Lib.hid hT
  clear hb hT
  go_enter Tryd.func8, Tryd.ntmps8
  go_wp2_with fail
  refine (drawCoverOwn_any a n cap w HBy.out hn hc hc2).mono ?_
  rintro e w1 ⟨m, a1, zs, c1, rfl, hl, ho1, hb1⟩
  have F1 := FB.start (m := m) (c := c1) (own_ints ho1)
  have B1 := Lib.hid (hb1.trans ((below1 w1 (.cells #[.int .i64 m, .slice a1 zs.length c1] 25)).mono hb1.size))
  have hln : zs.length ≤ 1048576 := by omega
  have f_f_1 := Lib.hid F1
  clear F1 ho1 hb1
  have f_0 := f_f_1.out.x0
  have f_1 := f_f_1.out.x1
  obtain ⟨A, hA⟩ : ∃ A, A = ownB m zs := ⟨_, rfl⟩
  have HA := Lib.hid hA
  clear hA
  go_wp2_with fail
  refine (implCoverOwn_any m a1 c1 zs _ f_f_1.out.ints hln).mono ?_
  rw [← HA.out]
  rintro e w2 ⟨rfl, hb2⟩
  have B2 := Lib.hid (B1.out.trans (hb2.mono B1.out.size))
  have f_f_2 := Lib.hid (f_f_1.out.step hb2)
  clear hb2 B1 f_f_1
  clear f_0 f_1
  have f_0 := f_f_2.out.x0
  have f_1 := f_f_2.out.x1
  go_wp2_with fail
  refine (specCoverOwn_any m a1 c1 zs _ f_f_2.out.ints hln).mono ?_
  rw [← HA.out]
  rintro e w3 ⟨rfl, hb3⟩
  have B3 := Lib.hid (B2.out.trans (hb3.mono B2.out.size))
  have f_f_3 := Lib.hid (f_f_2.out.step hb3)
  clear hb3 B2 f_f_2
  clear f_0 f_1
  have f_0 := f_f_3.out.x0
  have f_1 := f_f_3.out.x1
  cases hd : A
  · clear hd HA
    go_wp2
    go_ret
    exact ⟨rfl, B3.out⟩
  · obtain ⟨e1, hm1, hm6, e2, e3⟩ := own_facts (HA.out.symm.trans hd)
    obtain ⟨N, hN⟩ : ∃ N, N = coverZ m zs := ⟨_, rfl⟩
    rw [← hN] at e3
    have HN := Lib.hid hN
    have HF := Lib.hid e1
    have HE := Lib.hid e2
    have HW := Lib.hid e3
    clear hd HA e1 e2 e3 hN
    go_wp2_with fail
    refine (implCoverMany_any m a1 c1 zs _ f_f_3.out.ints hln).mono ?_
    rw [HF.out]
    rw [← HN.out]
    rintro e w4 ⟨rfl, hb4⟩
    have B4 := Lib.hid (B3.out.trans (hb4.mono B3.out.size))
    have f_f_4 := Lib.hid (f_f_3.out.step hb4)
    clear hb4 B3 f_f_3
    clear f_0 f_1
    obtain ⟨Y, hY⟩ : ∃ Y, Y = zs.length := ⟨_, rfl⟩
    have HY := Lib.hid hY
    have hY1 : Y ≤ 1048576 := by rw [hY]; exact hln
    have hs1 : w1.heap.size < w4.heap.size := lt_of_some f_f_4.out.blk
    clear hl hY HN HF
    go_wp2
    go_loopw [8] (fun i wr => ∃ k : Nat, k ≤ Y ∧ i = .int .i64 (k : Int) ∧ Below w4.heap.size w4 wr) (fun i _ => Y - (intOf i).toNat)
    case atStart => exact ⟨0, Nat.zero_le _, rfl, Below.refl _ _⟩
    case round =>
      obtain ⟨k, hk, rfl, hB⟩ := hrel
      obtain ⟨wo, hwo⟩ : ∃ wo, wo = wr := ⟨wr, rfl⟩
      subst hwo
      have FR := Lib.hid (f_f_4.out.step hB)
      have g1 : wo.cell? ⟨w1.heap.size, 1, none⟩ = some (.slice a1 Y c1) := by rw [HY.out]; exact FR.out.x1
      by_cases hlt : k < Y
      · obtain ⟨b1, o1, ha1, hb1, hc1⟩ := FR.out.ints.at_ (k := k) (by rw [← HY.out]; exact hlt)
        have E1 := HE.out k (by rw [← HY.out]; exact hlt)
        obtain ⟨q, hq⟩ : ∃ q, q = zs[k]?.getD 0 := ⟨_, rfl⟩
        rw [← hq] at hc1 E1
        have HE1 := Lib.hid E1
        have HBR := Lib.hid hB
        have V1 := Lib.hid hc1
        clear hB hc1 hq E1
        go_wp2
        clear g1
        go_loopw [9] (fun i wr => ∃ k2 : Nat, k2 ≤ Y ∧ i = .int .i64 (k2 : Int) ∧ Below wo.heap.size wo wr) (fun i _ => Y - (intOf i).toNat)
        case atStart => exact ⟨0, Nat.zero_le _, rfl, Below.refl _ _⟩
        case round =>
          obtain ⟨k2, hk2, rfl, hBi⟩ := hrel
          have FI := Lib.hid (FR.out.step hBi)
          by_cases hlt2 : k2 < Y
          · obtain ⟨b2, o2, ha2, hb2, hc2'⟩ := FI.out.ints.at_ (k := k2) (by rw [← HY.out]; exact hlt2)
            have hz := HE1.out k2 (by rw [← HY.out]; exact hlt2)
            obtain ⟨z, hz1⟩ : ∃ z, z = zs[k2]?.getD 0 := ⟨_, rfl⟩
            rw [← hz1] at hc2' hz
            have g1 : wr.cell? ⟨w1.heap.size, 1, none⟩ = some (.slice a1 Y c1) := by rw [HY.out]; exact FI.out.x1
            obtain ⟨rfl, rfl⟩ : b2 = b1 ∧ o2 = o1 := by
              have e := ha2.symm.trans ha1
              injection e with e
              injection e with h1 h2
              exact ⟨h1, h2⟩
            subst ha1
            have v1 := (hBi.cell (p := ⟨b2, o2 + k, none⟩) hb1).trans V1.out
            have HBI := Lib.hid hBi
            clear hz1 hb2 hBi ha2 hb1 FI
            go_wp2
            go_quiet (fail)
            go_wp2
            go_roundw
            case rel => exact ⟨k2 + 1, by omega, by go_num, below_drewN HBI.out _⟩
            case measure => simp [intOf]; omega
          · obtain rfl : k2 = Y := by omega
            have g1 : wr.cell? ⟨w1.heap.size, 1, none⟩ = some (.slice a1 k2 c1) := by rw [HY.out]; exact FI.out.x1
            have HBF := Lib.hid (HBR.out.trans (hBi.mono HBR.out.size))
            clear hBi FI
            go_wp2
            go_roundw
            case rel => exact ⟨k + 1, by omega, by go_num, HBF.out⟩
            case measure => simp [intOf]; omega
      · obtain rfl : k = Y := by omega
        have HR := Lib.hid (B4.out.trans (hB.mono B4.out.size))
        have g0 := FR.out.x0
        clear hB FR HE HY f_f_4 HBy HT
        rcases m16 hm1 hm6 with rfl | rfl | rfl | rfl | rfl | rfl
        all_goals
          obtain rfl := HW.out
          go_wp2
          go_ret
          exact ⟨by first | rfl | decide, HR.out⟩

end Go.Proofs.YtcmpjegfikdofaaDoor
