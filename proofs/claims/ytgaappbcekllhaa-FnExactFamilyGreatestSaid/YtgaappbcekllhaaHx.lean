/- It is proved what l1Least, l1Greatest, FamilyLeast and FamilyGreatest of the model return; conditions: those of each statement. -/
import Derived.Test.YtgaappbcekllhaaRows
import Derived.WalkKit
import Derived.WalkSpells
import Derived.ProofKit
import Derived.OpenShut
import Derived.ShutString
import Derived.ChangeOld
import Derived.Below
import Derived.Deep.RegionHeld3
import Derived.Deep.QuietTactic
import Derived.BigQuiet
import Derived.Lib.Hide
import Derived.Lib.SmallJoins
import Derived.Outline
import Derived.Laws.MakeOwn
import Derived.Laws.OwnMore
import Derived.IntWalk
import Derived.Lib.AppendZeros
import Derived.Maps.AppendAt
import Derived.Deep.AppendLies
import Derived.OwnWalk
import Derived.Lib.SlicesCompact
import Derived.Lib.OwnBridge
import Derived.Shelf.Sort.Plain
import Derived.Shelf.Slices.In.SortNone
import Derived.Shelf.Slices.CompactI
import Derived.Ground.Names2Prog
import Derived.Lib.SliceRun
import Derived.RangeFuncNested
import Derived.RangeFuncBound
import Derived.RangeFuncCalls
import Derived.RangeFuncLeaves
import Derived.RangeFuncBox
import Derived.Shelf.Abstract
import Derived.Shelf.RegionOpen
import Derived.OwnWalkIn
import Derived.TacticsInMore
import Derived.LoopNIn
import Derived.LoopIn
import Derived.Test.YtgaappbcekllhaaB
import Derived.Test.YtgaappbcekllhaaC
import Derived.Test.YtgaappbcekllhaaD
import Derived.Test.YtgaappbcekllhaaE
import Derived.Test.YtgaappbcekllhaaF
import Derived.Test.YtgaappbcekllhaaG
import Derived.Test.YtgaappbcekllhaaGa
import Derived.Test.YtgaappbcekllhaaGb
import Derived.Test.YtgaappbcekllhaaHb
import Derived.Test.YtgaappbcekllhaaHc
import Derived.Test.YtgaappbcekllhaaHu
import Derived.Test.YtgaappbcekllhaaHw
import Derived.Test.YtgaappbcekllhaaK
import Derived.Test.YtgaappbcekllhaaL
import Derived.Test.YtgaappbcekllhaaOw
import Derived.Test.YtgaappbcekllhaaP
import Derived.Test.YtgaappbcekllhaaSa
namespace Go.Proofs.Ytgaappbcekllhaa
open Go.RowKit

/-- Of the first k, none but the i-th beats the i-th. -/
def okUp (g : Int → Int → Bool) (ys : List Int) (i k : Nat) : Bool := (List.range k).all fun j => j == i || !g (ys[j]?.getD 0) (ys[i]?.getD 0)

theorem okUp_zero (g : Int → Int → Bool) (ys : List Int) (i : Nat) : okUp g ys i 0 = true := rfl
theorem okUp_succ (g : Int → Int → Bool) (ys : List Int) (i k : Nat) : okUp g ys i (k + 1) = (okUp g ys i k && (k == i || !g (ys[k]?.getD 0) (ys[i]?.getD 0))) := by
  simp [okUp, List.range_succ]

theorem okUp_all (g : Int → Int → Bool) (zs : List Int) (i : Nat) (hi : i < (simpZ zs).length) : okUp g (simpZ zs) i (simpZ zs).length = !beaten g zs ((simpZ zs)[i]?.getD 0) := by
  have hasc := simpZ_asc zs
  have e : (simpZ zs)[i]?.getD 0 = (simpZ zs)[i] := by simp [hi]
  rw [e]
  cases hb : beaten g zs (simpZ zs)[i]
  · unfold beaten at hb
    rw [List.any_eq_false] at hb
    unfold okUp
    simp only [Bool.not_false, List.all_eq_true, List.mem_range]
    intro j hj
    rw [e]
    have ej : (simpZ zs)[j]?.getD 0 = (simpZ zs)[j] := by simp [hj]
    rw [ej]
    by_cases hji : j = i
    · simp [hji]
    · have hm : (simpZ zs)[j] ∈ zs := (simpZ_mem zs _).1 (List.getElem_mem _)
      have h1 := hb _ hm
      have hne : (simpZ zs)[j] ≠ (simpZ zs)[i] := by
        rcases Nat.lt_or_gt_of_ne hji with hlt | hlt
        · have := List.pairwise_iff_getElem.1 hasc j i hj hi hlt
          omega
        · have := List.pairwise_iff_getElem.1 hasc i j hi hj hlt
          omega
      have h2 : ((simpZ zs)[j] != (simpZ zs)[i]) = true := by rw [bne_iff_ne]; exact hne
      unfold beatBy at h1
      rw [h2] at h1
      simp at h1
      simp [h1]
  · unfold beaten at hb
    rw [List.any_eq_true] at hb
    obtain ⟨o, ho, h1⟩ := hb
    unfold beatBy at h1
    rw [Bool.and_eq_true] at h1
    obtain ⟨j, hj, rfl⟩ := List.getElem_of_mem ((simpZ_mem zs o).2 ho)
    unfold okUp
    rw [Bool.not_true, List.all_eq_false]
    refine ⟨j, List.mem_range.2 hj, ?_⟩
    rw [e, show (simpZ zs)[j]?.getD 0 = (simpZ zs)[j] by simp [hj]]
    have hji : j ≠ i := by
      rintro rfl
      simp at h1
    simp [hji, h1.2]

theorem filter_at {ys : List Int} {f : Int → Bool} {k : Nat} (h : k < ys.length) : (ys.take (k + 1)).filter f = (ys.take k).filter f ++ (if f (ys[k]?.getD 0) then [ys[k]?.getD 0] else []) := by
  rw [List.take_succ_eq_append_getElem h, List.filter_append]
  have e : ys[k]?.getD 0 = ys[k] := by simp [h]
  rw [e]
  by_cases hf : f ys[k] <;> simp [hf]

theorem gt_of_not {n k : Nat} (h : ¬ k < n) (h2 : k ≤ n) : k = n := by omega
set_option maxRecDepth 100000 in
set_option maxHeartbeats 3200000 in
theorem l1Greatest_any (a : Option Addr) (c : Nat) (zs : List Int) (w : World) (ha : Ints w w.heap.size a zs) (hx : zs.length < 1048576) :
    Calls Try.prog 37 #[.slice a zs.length c] w (RetOwn w (unbeaten geG zs)) := by
  obtain ⟨i0, hi0, hz0, hz1, hz2⟩ := info_parts Try.info3
  have HA := Lib.hid ha
  clear ha
  go_enter Try.func37, Try.ntmps37
  go_wp2_with fail
  refine (l1Simple_any _ _ zs _ HA.out hx).mono ?_
  rintro e w1 ⟨g, c1, rfl, ho1, hb1⟩
  obtain ⟨n, hn⟩ : ∃ n, n = (simpZ zs).length := ⟨_, rfl⟩
  have HN : Hid (n = (simpZ zs).length) := Lib.hid hn
  have hn8 : n < 1048576 := by have := simpZ_le zs; omega
  rw [← hn] at ho1 ⊢
  have HO1 := Lib.hid ho1
  have HB1 := Lib.hid hb1
  have hs1 : w.heap.size ≤ w1.heap.size := hb1.size
  clear ho1 hb1 hn
  go_wp2
  go_loopw [4, 5, 6, 7] (fun v i _ _ wr => ∃ (k n' : Nat) (a' : Option Addr) (c' : Nat), k ≤ n ∧ i = .int .i64 k ∧ v = .slice a' n' c' ∧ n' ≤ k ∧ a' ≠ none ∧ OwnN wr w1.heap.size a' n' c' (((simpZ zs).take k).filter fun z => !beaten geG zs z) ∧ Below w1.heap.size w1 wr) (fun _ i _ _ _ => n - (intOf i).toNat)
  case atStart => exact ⟨0, _, _, _, Nat.zero_le _, rfl, rfl, Nat.le_refl _, by simp, own_empty (alloc_new w1 _) (Nat.le_refl _), below1 _ _⟩
  case round =>
    obtain ⟨i, n', a', c', hi, rfl, rfl, hn', hnn, ho, hb⟩ := hrel
    obtain ⟨wo, rfl⟩ : ∃ wo, wo = wr := ⟨wr, rfl⟩
    have HO := Lib.hid ho
    have HB := Lib.hid hb
    clear ho hb
    by_cases hlt : i < n
    · go_wp2
      go_loopw [6, 7] (fun ok kk ws => ∃ k : Nat, k ≤ n ∧ kk = .int .i64 k ∧ ok = .bool (okUp geG (simpZ zs) i k) ∧ Below wo.heap.size wo ws) (fun _ kk _ => n - (intOf kk).toNat)
      case atStart => exact ⟨0, Nat.zero_le _, rfl, by rw [okUp_zero], Below.refl _ _⟩
      case round =>
        obtain ⟨k, hk, rfl, rfl, hbs⟩ := hrel
        have HBS := Lib.hid hbs
        have hsw : w1.heap.size ≤ wo.heap.size := HB.out.size
        have hw1s := HB.out.trans (hbs.mono hsw)
        have HW1 := Lib.hid hw1s
        by_cases hkn : k < n
        · have ck := (HO1.out.below hw1s).cell hkn
          have ci := (HO1.out.below hw1s).cell hlt
          have hki : (k : Int) < (n : Int) := by omega
          have hii : (i : Int) < (n : Int) := by omega
          have HS := Lib.hid (okUp_succ geG (simpZ zs) i k)
          clear hbs hw1s
          cases hok : okUp geG (simpZ zs) i k
          · have HK := Lib.hid hok
            clear hok
            go_wp2
            go_quiet (fail)
            go_wp2
            go_roundw
            case rel => exact ⟨k + 1, by omega, by go_num, by rw [HS.out, HK.out]; rfl, below_drewN HBS.out _⟩
            case measure => simp [intOf]; omega
          · have HK := Lib.hid hok
            clear hok
            by_cases hki2 : k = i
            · have hbe : ((k : Int) == (i : Int)) = true := by rw [hki2]; simp
              have HE : Hid (okUp geG (simpZ zs) i (k + 1) = true) := Lib.hid (by rw [HS.out, HK.out, hki2]; simp)
              clear hki2
              go_wp2
              go_quiet (fail)
              go_wp2
              go_roundw
              case rel => exact ⟨k + 1, by omega, by go_num, by rw [HE.out], below_drewN HBS.out _⟩
              case measure => simp [intOf]; omega
            · have hbe : ((k : Int) == (i : Int)) = false := by rw [beq_eq_false_iff_ne]; omega
              have hbn : (k == i) = false := by rw [beq_eq_false_iff_ne]; exact hki2
              cases hg : geG ((simpZ zs)[k]?.getD 0) ((simpZ zs)[i]?.getD 0)
              · have hne : (bits .andNot .i64 ((simpZ zs)[i]?.getD 0) ((simpZ zs)[k]?.getD 0) != 0) = true := by
                  have h := hg
                  simp only [leG, geG] at h
                  simp [bne, h]
                have HE : Hid (okUp geG (simpZ zs) i (k + 1) = true) := Lib.hid (by rw [HS.out, HK.out, hg, hbn]; rfl)
                clear hg
                go_wp2
                go_quiet (fail)
                go_wp2
                go_roundw
                case rel => exact ⟨k + 1, by omega, by go_num, by rw [HE.out], below_drewN HBS.out _⟩
                case measure => simp [intOf]; omega
              · have hne : (bits .andNot .i64 ((simpZ zs)[i]?.getD 0) ((simpZ zs)[k]?.getD 0) != 0) = false := by
                  have h := hg
                  simp only [leG, geG] at h
                  simp [bne, h]
                have HE : Hid (okUp geG (simpZ zs) i (k + 1) = false) := Lib.hid (by rw [HS.out, HK.out, hg, hbn]; rfl)
                clear hg
                go_wp2
                go_quiet (fail)
                go_wp2
                go_roundw
                case rel => exact ⟨k + 1, by omega, by go_num, by rw [HE.out], below_drewN HBS.out _⟩
                case measure => simp [intOf]; omega
        · obtain rfl : k = n := gt_of_not hkn hk
          have ci := (HO1.out.below hw1s).cell hlt
          have hii : (i : Int) < (k : Int) := by omega
          have HOS := Lib.hid (HO.out.below hbs)
          have HFA := Lib.hid (filter_at (ys := simpZ zs) (f := fun z => !beaten geG zs z) (by rw [← HN.out]; exact hlt))
          have hok : okUp geG (simpZ zs) i k = !beaten geG zs ((simpZ zs)[i]?.getD 0) := by rw [HN.out]; exact okUp_all geG zs i (by rw [← HN.out]; exact hlt)
          rw [hok]
          clear hbs hw1s hok
          cases hbt : beaten geG zs ((simpZ zs)[i]?.getD 0)
          · have HBT := Lib.hid hbt
            clear hbt
            have hsz := HW1.out.size
            go_wp2_with (at_builtin; refine wpList_append_own _ rfl _ _ 23 rfl w1.heap.size 3 i0 (.int .i64 0) 1 8 Try.underlying23 hi0 hz0 hz1 hz2 rfl (by decide) _ _ _ rfl (HOS.out.alloc _) ⟨wr.heap.size, 0, none⟩ 1 1 [.int .i64 ((simpZ zs)[i]?.getD 0)] rfl rfl (cell_one_new _ _ _) (by simp [Value.oneCell']) (by simp only [maxLen]; omega) (by omega) (by simp; omega) ?_; intro v' w3 hown hgrow _; obtain ⟨g', cap', rfl, _, _⟩ := World.ownsRow.form hown (by omega))
            go_roundw
            case rel => exact ⟨i + 1, n' + 1, _, cap', by omega, by go_num, rfl, by omega, by simp, by
              rw [HFA.out, HBT.out]
              have h1 := hown
              unfold OwnN
              rw [List.map_append]
              exact h1, (HW1.out.alloc (by omega) _).grown hgrow (by simp; omega) (fun g e => (World.ownsRow.lt HOS.out g e).1)⟩
            case measure => simp [intOf]; omega
          · have HBT := Lib.hid hbt
            clear hbt
            go_wp2
            go_roundw
            case rel => exact ⟨i + 1, n', a', c', by omega, by go_num, rfl, by omega, hnn, by
              rw [HFA.out, HBT.out]
              simpa using HOS.out, HW1.out⟩
            case measure => simp [intOf]; omega
    · obtain rfl : i = n := gt_of_not hlt hi
      have HF : Hid (((simpZ zs).take i).filter (fun z => !beaten geG zs z) = unbeaten geG zs) := Lib.hid (by rw [List.take_of_length_le (by rw [← HN.out]; exact Nat.le_refl _)]; rfl)
      have hl : n' = (unbeaten geG zs).length := by rw [← HF.out]; exact HO.out.len.symm
      subst hl
      obtain ⟨g', rfl⟩ : ∃ g', a' = some ⟨g', 0, none⟩ := by
        rcases HO.out.2 with ⟨e, _⟩ | ⟨g', cap', cur, e, _⟩
        · injection e with e1; exact absurd e1 hnn
        · injection e with e1; exact ⟨g', e1⟩
      go_wp2
      go_ret
      refine ⟨g', c', rfl, ?_, HB1.out.trans (HB.out.mono hs1)⟩
      have := HO.out.base hs1
      rw [HF.out] at this
      exact this

set_option maxRecDepth 100000 in
set_option maxHeartbeats 1600000 in
theorem specGreatest_no (m : Int) (a : Option Addr) (c : Nat) (zs : List Int) (w : World) (ha : Ints w w.heap.size a zs) (hx : zs.length ≤ 1048576) (hf : famIn m zs = false) :
    Calls Try.prog 14 #[.agg #[.int .i64 m, .slice a zs.length c]] w (RetFB w 0 [] false) := by
  have HB0 := Lib.hid (below2 w (.cells #[.int .i64 m, .slice a zs.length c] 25) (.cells #[.int .i64 0, .slice none 0 0] 25))
  have HA := Lib.hid (ha.below HB0.out)
  have HF := Lib.hid hf
  clear hf ha
  go_enter Try.func14, Try.ntmps14
  go_wp2_with fail
  refine (specFamilyIn_any _ _ _ zs _ (HA.out.mono (by simp; omega)) hx).mono ?_
  rintro e w1 ⟨rfl, hb⟩
  rw [HF.out]
  have b1 : w1.heap[w.heap.size + 1]? = some (.cells #[.int .i64 0, .slice none 0 0] 25 (0, 0)) := (hb.block _ (by simp)).trans (alloc2_1 w _ _)
  have HB := Lib.hid (HB0.out.trans (hb.mono (by simp; omega)))
  have z1 : w.heap.size + 1 < w1.heap.size := by have := hb.size; simp at this; omega
  clear hb
  go_wp2_with fail
  refine (l1None_any _).mono ?_
  rintro e w2 ⟨a2, c2, rfl, ho2, hb⟩
  have b2 := (hb.block _ z1).trans b1
  have d0 := blk_cell b2 0
  have d1 := blk_cell b2 1
  have f0 := blk_frozen b2 0
  have f1 := blk_frozen b2 1
  simp only [cell2_0, cell2_1] at d0 d1
  have z2 : w.heap.size + 1 < w2.heap.size := by have := hb.size; omega
  have HB2 := Lib.hid (HB.out.trans (hb.mono (by omega)))
  have HO := Lib.hid ho2
  clear hb b1 b2 ho2
  go_wp2
  refine bodyPost_ret (v := .tuple #[.agg #[.int .i64 0, .slice a2 0 c2], .bool false]) (by simp [results, Try.results14, go_sem, d0, d1]) rfl ?_
  refine ⟨a2, c2, rfl, ?_, ?_⟩
  · exact own_mono (ownsRow_setCell_below (ownsRow_setCell_below HO.out (by simp; omega) _) (by simp; omega) _) (by omega)
  · exact (HB2.out.setCell (p := ⟨w.heap.size + 1, 0, none⟩) (by simp) _).setCell (p := ⟨w.heap.size + 1, 1, none⟩) (by simp) _

set_option maxRecDepth 100000 in
set_option maxHeartbeats 3200000 in
theorem specGreatest_yes (m : Int) (a : Option Addr) (c : Nat) (zs : List Int) (w : World) (ha : Ints w w.heap.size a zs) (hx : zs.length ≤ 1048576) (hf : famIn m zs = true) :
    Calls Try.prog 14 #[.agg #[.int .i64 m, .slice a zs.length c]] w (RetFB w m (unbeaten geG zs) true) := by
  have HB0 := Lib.hid (below2 w (.cells #[.int .i64 m, .slice a zs.length c] 25) (.cells #[.int .i64 0, .slice none 0 0] 25))
  have HA := Lib.hid (ha.below HB0.out)
  have HF := Lib.hid hf
  have h8 : zs.length < 1048576 := by have := (famIn_out hf).2.2.1; omega
  clear hf ha
  go_enter Try.func14, Try.ntmps14
  go_wp2_with fail
  refine (specFamilyIn_any _ _ _ zs _ (HA.out.mono (by simp; omega)) hx).mono ?_
  rintro e w1 ⟨rfl, hb⟩
  rw [HF.out]
  have b0 : w1.heap[w.heap.size]? = some (.cells #[.int .i64 m, .slice a zs.length c] 25 (0, 0)) := (hb.block _ (by simp; omega)).trans (alloc2_0 w _ _)
  have b2 : w1.heap[w.heap.size + 1]? = some (.cells #[.int .i64 0, .slice none 0 0] 25 (0, 0)) := (hb.block _ (by simp)).trans (alloc2_1 w _ _)
  have x0 := blk_cell b0 0
  have x1 := blk_cell b0 1
  simp only [cell2_0, cell2_1] at x0 x1
  have HB := Lib.hid (HB0.out.trans (hb.mono (by simp; omega)))
  have HA1 := Lib.hid (HA.out.below (hb.mono (by simp; omega)))
  have B2 := Lib.hid b2
  have z1 : w.heap.size + 1 < w1.heap.size := by have := hb.size; simp at this; omega
  clear hb b0 b2
  have hH1 : w.heap.size < w1.heap.size := by omega
  go_wp2_with fail
  go_region_held3 (fun w' => w'.cell? ⟨w.heap.size, 0, none⟩ = some (.int .i64 m) ∧ w'.cell? ⟨w.heap.size, 1, none⟩ = some (.slice a zs.length c))
    (first
      | exact ⟨x0, x1⟩
      | exact ⟨(hb4.cell (p := ⟨w.heap.size, 0, none⟩) hH1).trans x0, (hb4.cell (p := ⟨w.heap.size, 1, none⟩) hH1).trans x1⟩
      | exact ⟨((hb4.trans (hb5.mono hb4.size)).cell (p := ⟨w.heap.size, 0, none⟩) hH1).trans x0, ((hb4.trans (hb5.mono hb4.size)).cell (p := ⟨w.heap.size, 1, none⟩) hH1).trans x1⟩
      | exact two_far (((hb4.trans (hb5.mono hb4.size)).cell (p := ⟨w.heap.size, 0, none⟩) hH1).trans x0) (((hb4.trans (hb5.mono hb4.size)).cell (p := ⟨w.heap.size, 1, none⟩) hH1).trans x1))
    (first
      | (go_at_call 37; refine (l1Greatest_any _ _ zs _ ((HA1.out.below (Below.drew (Below.refl _ _))).mono (Nat.le_of_lt hH1)) h8).mono ?_; rintro e w4 ⟨g4, c4, rfl, ho4, hb4'⟩; have hb4 : Below w1.heap.size w1 w4 := (Below.drew (Below.refl _ _)).trans hb4')
      | (go_at_call 32; refine (l1With_any _ _ _ _ _ _ _ _).mono ?_; rintro e w5 ⟨rfl, hb5⟩; have e2 := ((hb4.trans (hb5.mono hb4.size)).block _ z1).trans B2.out; have d0 := (blk_cell e2 0).trans (cell2_0 _ _); have d1 := (blk_cell e2 1).trans (cell2_1 _ _); have f0 := blk_frozen e2 0; have f1 := blk_frozen e2 1))
  have HO5 := Lib.hid (ho4.below hb5)
  have HB5 := Lib.hid (HB.out.trans ((hb4.trans (hb5.mono hb4.size)).mono (by omega)))
  clear hb4 hb5 e2 ho4 hb4'
  go_wp2
  refine bodyPost_ret (v := .tuple #[.agg #[.int .i64 m, .slice (some ⟨g4, 0, none⟩) (unbeaten geG zs).length c4], .bool true]) (by simp [results, Try.results14, go_sem, d0, d1]) rfl ?_
  refine ⟨_, c4, rfl, ?_, ?_⟩
  · have h1 := ownsRow_setCell_below (ownsRow_setCell_below HO5.out (a := ⟨w.heap.size + 1, 0, none⟩) z1 (.int .i64 m)) (a := ⟨w.heap.size + 1, 1, none⟩) z1 (.slice (some ⟨g4, 0, none⟩) (unbeaten geG zs).length c4)
    unfold OwnI
    simpa using ownsRow_base h1 (B := w.heap.size) (by show w.heap.size ≤ w1.heap.size; omega)
  · simpa using (HB5.out.setCell (p := ⟨w.heap.size + 1, 0, none⟩) (by simp) (.int .i64 m)).setCell (p := ⟨w.heap.size + 1, 1, none⟩) (by simp) (.slice (some ⟨g4, 0, none⟩) (unbeaten geG zs).length c4)

theorem specGreatest_any (m : Int) (a : Option Addr) (c : Nat) (zs : List Int) (w : World) (ha : Ints w w.heap.size a zs) (hx : zs.length ≤ 1048576) :
    Calls Try.prog 14 #[.agg #[.int .i64 m, .slice a zs.length c]] w (RetFB w (famM (famIn m zs) m) (famF (famIn m zs) (unbeaten geG) zs) (famIn m zs)) := by
  unfold famM famF
  cases hf : famIn m zs
  · exact specGreatest_no m a c zs w ha hx hf
  · exact specGreatest_yes m a c zs w ha hx hf

end Go.Proofs.Ytgaappbcekllhaa
