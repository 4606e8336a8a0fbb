/- It is proved that the call of the law FnTableMany returns true; conditions: those of each statement. -/
import Derived.RowKit
import Derived.Laws.CopyRow
import Derived.Lib.SlBuf
import Derived.Deep.QuietTactic
import Derived.RangeFuncNested
import Derived.RangeFuncBound
import Derived.RangeFuncCalls
import Derived.RangeFuncLeaves
import Derived.RangeFuncBox
import Derived.RangeFuncWrites
import Derived.StillTailTactics
import Derived.Maps.OwnIn
import Derived.Maps.Ext
import Derived.DeepKeys4
import Derived.MapKept
import Derived.Test.YtbiggilheicfjaaDoorRows
import Derived.WalkKit
import Derived.WalkSpells
import Derived.ProofKit
import Derived.OpenShut
import Derived.ShutString
import Derived.ChangeOld
import Derived.Below
import Derived.Deep.RegionHeld3
import Derived.BigQuiet
import Derived.Lib.Hide
import Derived.Lib.SmallJoins
import Derived.Outline
import Derived.Laws.MakeOwn
import Derived.Laws.OwnMore
import Derived.IntWalk
import Derived.Maps.AppendAt
import Derived.Sort.MapsRangeIn
import Derived.Deep.RegionLaw
import Derived.Deep.AppendLies
import Derived.Shelf.Slices.Reverse
import Derived.Sort.QuietIn
import Derived.Lib.AppendZeros
import Derived.OwnWalk
import Derived.Lib.SlicesCompact
import Derived.Lib.OwnBridge
import Derived.OrdersIn
import Derived.TacticsIn
import Derived.Shelf.Sort.Plain
import Derived.Shelf.Slices.In.SortNone
import Derived.Shelf.Slices.CompactI
import Derived.Ground.Names2Prog
import Derived.Shelf.Abstract
import Derived.Shelf.RegionOpen
import Derived.OwnWalkIn
import Derived.TacticsInMore
import Derived.LoopNIn
import Derived.LoopIn
import Derived.StillTail
import Derived.StillTactics
import Derived.Shelf.Spec.TrailingZeros
import Derived.Test.YtbiggilheicfjaaDoorMva
import Derived.Test.YtbiggilheicfjaaDoorEi
import Derived.Test.YtbiggilheicfjaaDoorEl
import Derived.Test.YtbiggilheicfjaaDoorEv
import Derived.Test.YtbiggilheicfjaaDoorEz
import Derived.Test.YtbiggilheicfjaaDoorFb
import Derived.Test.YtbiggilheicfjaaDoorRt
import Derived.Test.YtbiggilheicfjaaDoorRy
import Derived.Test.YtbiggilheicfjaaDoorT
namespace Go.Proofs.YtbiggilheicfjaaDoor
open Go.RowKit

theorem drawMany_any (a : Option Addr) (n cap : Nat) (w : World) (hb : Bys w w.heap.size a n) (hn : n ≤ 1048576) (hc : n ≤ cap) (hc2 : cap ≤ 9223372036854775807) :
    Calls Tryd.prog 24 #[.slice a n cap] w (DrawnTb w) := by
  have H := Lib.hid (tableD_any a n cap w hb hn hc hc2)
  clear hb
  go_enter Tryd.func24, Tryd.ntmps24
  go_wp2_with fail
  refine H.out.mono ?_
  rintro e w1 ⟨a1, b1, zs, ps, c, d, rfl, hl, ho, hp, hb⟩
  have HR : Hid (DrawnTb w (.returned (.tuple #[.slice a1 zs.length c, .slice b1 ps.length d])) w1) := Lib.hid ⟨a1, b1, zs, ps, c, d, rfl, hl, ho, hp, hb⟩
  clear ho hp hb
  go_wp2
  go_ret2
  exact HR.out

theorem own_capR {w : World} {B : Nat} {a : Option Addr} {c : Nat} {zs : List Int} (h : OwnI w B (.slice a zs.length c) zs) : zs.length ≤ c := by
  rcases h.2 with ⟨h2, h3⟩ | ⟨g, cp, cur, e, hb, hc, hle, r⟩
  · omega
  · injection e with e1 e2 e3
    omega

theorem numIn_rev {zs : List Int} : numIn zs.reverse = numIn zs := by
  rw [numIn, numIn, List.length_reverse, List.all_reverse]

theorem many_facts {zs ps : List Int} (h : tabIn zs ps = true) : tabIn zs.reverse ps.reverse = true ∧ manyZ zs.reverse ps.reverse = manyZ zs ps ∧ (manyZ zs ps = 0 ↔ tabIs zs ps = false) ∧ (0 < zs.length → tabIn ps zs = true ∧ manyZ ps zs = manyZ zs ps) := by
  obtain ⟨hz, hp⟩ := tabIn_out h
  obtain ⟨hz5, hzB⟩ := numIn_out hz
  obtain ⟨hp1, hp5, hpB⟩ := degIn_out hp
  have hr : tabIn zs.reverse ps.reverse = true := by
    rw [tabIn, degIn, numIn_rev, numIn_rev, List.length_reverse]; exact h
  have hpn : numIn ps = true := by
    rw [degIn, Bool.and_eq_true] at hp; exact hp.2
  refine ⟨hr, ?_, ?_, fun h0 => ?_⟩
  · rw [manyZ, manyZ, if_pos hr, if_pos h, cnt_perm2 (List.reverse_perm zs) (List.reverse_perm ps) (by rw [List.length_reverse]; exact hz5) (by rw [List.length_reverse]; exact hp5)]
  · have hi := cnt_is hz5 hzB hp5 (fun z hz => (hpB z hz).1)
    rw [manyZ, if_pos h, tabIs, h, Bool.true_and]
    cases hB : isB zs ps
    · rw [hB] at hi
      have : ¬ 0 < cntL zs ps := fun hh => by simpa using hi.1 hh
      simp; omega
    · rw [hB] at hi
      have := hi.2 rfl
      simp; omega
  · have ht : tabIn ps zs = true := by
      rw [tabIn, hpn, degIn, hz, decide_eq_true h0]; rfl
    exact ⟨ht, by rw [manyZ, manyZ, if_pos h, if_pos ht, cnt_turn zs ps hz5 hp5]⟩

theorem rev_take (zs : List Int) (j q : Nat) (h : j + q + 1 = zs.length) : zs.reverse.take (j + 1) = zs.reverse.take j ++ [zs[q]?.getD 0] := by
  rw [List.take_succ_eq_append_getElem (by rw [List.length_reverse]; omega), List.getElem_reverse]
  congr 2
  rw [List.getElem?_eq_getElem (by omega), Option.getD_some]
  congr 1
  omega

theorem rev_all (zs : List Int) : zs.reverse.take zs.length = zs.reverse := List.take_of_length_le (by rw [List.length_reverse]; exact Nat.le_refl _)
set_option maxRecDepth 100000 in
set_option maxHeartbeats 8000000 in
theorem walkFnTableMany (a : Option Addr) (n cap : Nat) (w : World) (hb : Bys w w.heap.size a n) (hT : Tab w) (hn : n ≤ 1048576) (hc : n ≤ cap) (hc2 : cap ≤ 9223372036854775807) :
    Calls Tryd.prog 5 #[.slice a n cap] w fun e w' => e = .returned (.bool true) ∧ Below w.heap.size w w' := by
  obtain ⟨i0, hi0, hz0, hz1, hz2⟩ := info_parts Tryd.info3
  have HBy := Lib.hid hb
  have HT := Lib.hid hT
  clear hb hT
  go_enter Tryd.func5, Tryd.ntmps5
  go_wp2_with fail
  refine (drawMany_any a n cap w HBy.out hn hc hc2).mono ?_
  rintro e w1 ⟨a1, b1, zs, ps, c1, d1, rfl, ⟨hzl, hpl⟩, ho1, hp1, hb1⟩
  have f_1 := Lib.hid (own_ints ho1)
  have p_1 := Lib.hid (own_ints hp1)
  have B1 := Lib.hid hb1
  have T1 := Lib.hid (HT.out.below hb1 HT.out.lt)
  have hln : zs.length ≤ 1048576 := by omega
  have hlp : ps.length ≤ 1048576 := by omega
  have hcap := own_capR ho1
  clear ho1 hp1 hb1
  obtain ⟨N, hN⟩ : ∃ N, N = manyZ zs ps := ⟨_, rfl⟩
  obtain ⟨p, hp⟩ : ∃ p, p = tabIn zs ps := ⟨_, rfl⟩
  have HN := Lib.hid hN
  have HP := Lib.hid hp
  clear hN hp
  go_wp2_with fail
  refine (implMany_any a1 b1 c1 d1 zs ps _ f_1.out p_1.out T1.out hln hlp).mono ?_
  rw [← HN.out, ← HP.out]
  rintro e w2 ⟨rfl, hb2⟩
  have B2 := Lib.hid (B1.out.trans (hb2.mono B1.out.size))
  have f_2 := Lib.hid (f_1.out.step hb2)
  have p_2 := Lib.hid (p_1.out.step hb2)
  clear hb2 B1 f_1 p_1 T1
  go_wp2_with fail
  refine (specMany_any a1 b1 c1 d1 zs ps _ f_2.out p_2.out hcap hln hlp).mono ?_
  rw [← HN.out, ← HP.out]
  rintro e w3 ⟨rfl, hb3⟩
  have B3 := Lib.hid (B2.out.trans (hb3.mono B2.out.size))
  have f_3 := Lib.hid (f_2.out.step hb3)
  have p_3 := Lib.hid (p_2.out.step hb3)
  clear hb3 B2 f_2 p_2
  cases p
  · go_wp2
    go_ret
    exact ⟨rfl, B3.out⟩
  · have hF := many_facts HP.out.symm
    rw [← HN.out] at hF
    have HF := Lib.hid hF
    clear hF HP HN
    have t0 := alloc2_0 w3 (.cells #[] 3) (.cells #[] 3)
    have t1 := alloc2_1 w3 (.cells #[] 3) (.cells #[] 3)
    have bT := below2 w3 (.cells #[] 3) (.cells #[] 3)
    obtain ⟨V, hV⟩ : ∃ V, (w3.alloc (.cells #[] 3)).alloc (.cells #[] 3) = V := ⟨_, rfl⟩
    rw [hV] at t0 t1 bT
    have HA : Hid (OwnN V w3.heap.size (some ⟨w3.heap.size, 0, none⟩) 0 0 []) := Lib.hid (own_empty t0 (by omega))
    have HC : Hid (OwnN V w3.heap.size (some ⟨w3.heap.size + 1, 0, none⟩) 0 0 []) := Lib.hid (own_empty t1 (by omega))
    have HB := Lib.hid bT
    have hYa : (Value.slice (some ⟨w3.heap.size, 0, none⟩) 0 0).ownBlock ≠ some (w3.heap.size + 1) := by simp [Value.ownBlock]
    clear t0 t1 bT
    have hwl : IntKind.i64.wrap ((zs.length : Int) - 1) = (zs.length : Int) - 1 := by rw [IntKind.wrap_i64]; omega
    have hwp : IntKind.i64.wrap ((ps.length : Int) - 1) = (ps.length : Int) - 1 := by rw [IntKind.wrap_i64]; omega
    go_wp2
    go_loopw [9, 11] (fun v i wr => ∃ (j : Nat) (a' : Option Addr) (c' : Nat) (us : List Int), j ≤ zs.length ∧ i = .int .i64 ((zs.length : Int) - 1 - (j : Int)) ∧ v = .slice a' j c' ∧ us = zs.reverse.take j ∧ OwnN wr w3.heap.size a' j c' us ∧ Below w3.heap.size w3 wr ∧ OwnN wr w3.heap.size (some ⟨w3.heap.size + 1, 0, none⟩) 0 0 [] ∧ (Value.slice a' j c').ownBlock ≠ some (w3.heap.size + 1)) (fun _ i _ => (intOf i + 1).toNat)
    case atStart => exact ⟨0, _, _, [], Nat.zero_le _, by simp, rfl, by simp, HA.out, HB.out, HC.out, hYa⟩
    case round =>
      obtain ⟨j, a', c', us, hj, rfl, rfl, hus, ho, hd, hc', hne⟩ := hrel
      obtain ⟨wo, hwo⟩ : ∃ wo, wo = wr := ⟨wr, rfl⟩
      subst hwo
      have HUS := Lib.hid hus
      have HO := Lib.hid ho
      have HD := Lib.hid hd
      have HK := Lib.hid hc'
      have HNE := Lib.hid hne
      clear ho hd hc' hne hus
      by_cases hlt : j < zs.length
      · obtain ⟨q, hq⟩ : ∃ q : Nat, (zs.length : Int) - 1 - (j : Int) = (q : Int) := ⟨zs.length - 1 - j, by omega⟩
        rw [hq]
        have hqn : j + q + 1 = zs.length := by omega
        have HQ := Lib.hid hq
        clear hq
        obtain ⟨g1, o1, ha1, hb1, hc1⟩ := f_3.out.at_ (k := q) (by omega)
        have ha1' := Lib.hid ha1
        subst ha1
        have v1 := (HD.out.cell (p := ⟨g1, o1 + q, none⟩) hb1).trans hc1
        obtain ⟨x, hx⟩ : ∃ x, x = zs[q]?.getD 0 := ⟨_, rfl⟩
        rw [← hx] at v1
        have HX := Lib.hid hx
        have hwq : (q : Int) - 1 = (zs.length : Int) - 1 - ((j + 1 : Nat) : Int) := by omega
        have HWQ := Lib.hid hwq
        have HQN := Lib.hid hqn
        have hq0 : (0 : Int) ≤ (q : Int) := by omega
        have hql : (q : Int) < (zs.length : Int) := by omega
        clear hb1 hc1 hx hwq hqn ha1'
        have hYs := (World.ownsRow.lt HK.out (w3.heap.size + 1) rfl).2
        go_wp2_with (at_builtin; refine wpList_append_own_at _ rfl _ _ 23 rfl w3.heap.size 3 i0 (.int .i64 0) 1 8 Tryd.underlying23 hi0 hz0 hz1 hz2 rfl (by decide) _ _ _ rfl (HO.out.alloc _) ⟨wo.heap.size, 0, none⟩ 1 1 [.int .i64 x] rfl rfl (cell_one_new _ _ _) (by simp [Value.oneCell']) (by simp only [maxLen]; omega) (by omega) (by simp; omega) ?_; intro v' w9 hown hgrow _ hat; obtain ⟨g', cap', rfl, _, _⟩ := World.ownsRow.form hown (by omega))
        go_roundw
        case rel =>
          refine ⟨j + 1, _, _, _, by omega, by rw [HWQ.out], rfl, ?_, own_more hown, (HD.out.trans ((below1 wo _).mono HD.out.size)).grown hgrow (by have := HD.out.size; simp; omega) (fun g e => (World.ownsRow.lt HO.out g e).1), own_spared (HK.out.alloc _) hgrow (fun g e h => HNE.out (h.trans e.symm)), ?_⟩
          · rw [rev_take zs j q HQN.out, HUS.out, HX.out]
          · intro e
            rcases hat with h | h
            · exact HNE.out (h.symm.trans e)
            · rw [World.size_alloc] at h
              have e' := h.symm.trans e
              injection e' with e'
              omega
        case measure => simp only [intOf]; omega
      · obtain rfl : j = zs.length := by omega
        obtain rfl : us = zs.reverse := by rw [HUS.out, rev_all]
        have haY : ∀ g, (Value.slice a' zs.length c').ownBlock = some g → (Value.slice (some ⟨w3.heap.size + 1, 0, none⟩) 0 0).ownBlock ≠ some g := fun g e h => HNE.out (by rw [e]; exact h.symm)
        clear HNE HUS HA HC HB hYa
        go_wp2
        go_loopw [10, 12] (fun v i wr => ∃ (k : Nat) (b' : Option Addr) (d' : Nat) (vs : List Int), k ≤ ps.length ∧ i = .int .i64 ((ps.length : Int) - 1 - (k : Int)) ∧ v = .slice b' k d' ∧ vs = ps.reverse.take k ∧ OwnN wr w3.heap.size b' k d' vs ∧ Below w3.heap.size w3 wr ∧ OwnN wr w3.heap.size a' zs.length c' zs.reverse ∧ (∀ g, (Value.slice a' zs.length c').ownBlock = some g → (Value.slice b' k d').ownBlock ≠ some g)) (fun _ i _ => (intOf i + 1).toNat)
        case atStart => exact ⟨0, _, _, [], Nat.zero_le _, by simp, rfl, by simp, HK.out, HD.out, HO.out, haY⟩
        case round =>
          obtain ⟨k, b', d', vs, hk, rfl, rfl, hvs, ho', hd', hc'', hne'⟩ := hrel
          obtain ⟨wp, hwp'⟩ : ∃ wp, wp = wr := ⟨wr, rfl⟩
          subst hwp'
          have HVS := Lib.hid hvs
          have HO' := Lib.hid ho'
          have HD' := Lib.hid hd'
          have HK' := Lib.hid hc''
          have HNE' := Lib.hid hne'
          clear ho' hd' hc'' hne' hvs
          by_cases hlt' : k < ps.length
          · obtain ⟨q, hq⟩ : ∃ q : Nat, (ps.length : Int) - 1 - (k : Int) = (q : Int) := ⟨ps.length - 1 - k, by omega⟩
            rw [hq]
            have hqn : k + q + 1 = ps.length := by omega
            clear hq
            obtain ⟨g1, o1, ha1, hb1, hc1⟩ := p_3.out.at_ (k := q) (by omega)
            subst ha1
            have v1 := (HD'.out.cell (p := ⟨g1, o1 + q, none⟩) hb1).trans hc1
            obtain ⟨x, hx⟩ : ∃ x, x = ps[q]?.getD 0 := ⟨_, rfl⟩
            rw [← hx] at v1
            have HX := Lib.hid hx
            have hwq : (q : Int) - 1 = (ps.length : Int) - 1 - ((k + 1 : Nat) : Int) := by omega
            have HWQ := Lib.hid hwq
            have HQN := Lib.hid hqn
            have hq0 : (0 : Int) ≤ (q : Int) := by omega
            have hql : (q : Int) < (ps.length : Int) := by omega
            clear hb1 hc1 hx hwq hqn
            go_wp2_with (at_builtin; refine wpList_append_own_at _ rfl _ _ 23 rfl w3.heap.size 3 i0 (.int .i64 0) 1 8 Tryd.underlying23 hi0 hz0 hz1 hz2 rfl (by decide) _ _ _ rfl (HO'.out.alloc _) ⟨wp.heap.size, 0, none⟩ 1 1 [.int .i64 x] rfl rfl (cell_one_new _ _ _) (by simp [Value.oneCell']) (by simp only [maxLen]; omega) (by omega) (by have := HD'.out.size; simp; omega) ?_; intro v' w9 hown hgrow _ hat; obtain ⟨g', cap', rfl, _, _⟩ := World.ownsRow.form hown (by omega))
            go_roundw
            case rel =>
              refine ⟨k + 1, _, _, _, by omega, by rw [HWQ.out], rfl, ?_, own_more hown, (HD'.out.trans ((below1 wp _).mono HD'.out.size)).grown hgrow (by have := HD'.out.size; simp; omega) (fun g e => (World.ownsRow.lt HO'.out g e).1), own_spared (HK'.out.alloc _) hgrow (fun g e h => HNE'.out g e h), ?_⟩
              · rw [rev_take ps k q HQN.out, HVS.out, HX.out]
              · intro g eg e
                rcases hat with h | h
                · exact HNE'.out g eg (h.symm.trans e)
                · rw [World.size_alloc] at h
                  have e' := h.symm.trans e
                  injection e' with e'
                  have := (World.ownsRow.lt HK'.out g eg).2
                  omega
            case measure => simp only [intOf]; omega
          · obtain rfl : k = ps.length := by omega
            obtain rfl : vs = ps.reverse := by rw [HVS.out, rev_all]
            have r_4 : Ints wp wp.heap.size a' zs.reverse := own_ints (B := w3.heap.size) (cap := c') (by unfold OwnI; rw [List.length_reverse]; exact HK'.out)
            have s_4 : Ints wp wp.heap.size b' ps.reverse := own_ints (B := w3.heap.size) (cap := d') (by unfold OwnI; rw [List.length_reverse]; exact HO'.out)
            have B4 := Lib.hid (B3.out.trans (HD'.out.mono B3.out.size))
            have f_4 := Lib.hid (f_3.out.step HD'.out)
            have p_4 := Lib.hid (p_3.out.step HD'.out)
            have hM := implMany_any a' b' c' d' zs.reverse ps.reverse wp r_4 s_4 (HT.out.below B4.out HT.out.lt) (by rw [List.length_reverse]; exact hln) (by rw [List.length_reverse]; exact hlp)
            rw [HF.out.1, HF.out.2.1, List.length_reverse, List.length_reverse] at hM
            have HM := Lib.hid hM
            clear hM r_4 s_4 HNE' HVS HO' HD' HK' HO HD HK haY f_3 p_3 B3
            go_wp2_with fail
            refine HM.out.mono ?_
            rintro e w5 ⟨rfl, hb5⟩
            have B5 := Lib.hid (B4.out.trans (hb5.mono B4.out.size))
            have f_5 := Lib.hid (f_4.out.step hb5)
            have p_5 := Lib.hid (p_4.out.step hb5)
            clear hb5 B4 f_4 p_4 HM
            by_cases hN0 : N = 0
            · subst hN0
              have ht : tabIs zs ps = false := HF.out.2.2.1.1 rfl
              have hI := implIs_any a1 b1 c1 d1 zs ps w5 f_5.out p_5.out hln hlp
              rw [ht] at hI
              have HI := Lib.hid hI
              clear hI ht
              go_wp2_with fail
              refine HI.out.mono ?_
              rintro e w6 ⟨rfl, hb6⟩
              have B6 := Lib.hid (B5.out.trans (hb6.mono B5.out.size))
              have f_6 := Lib.hid (f_5.out.step hb6)
              have p_6 := Lib.hid (p_5.out.step hb6)
              clear hb6 B5 f_5 p_5 HI
              go_wp2_with fail
              refine (implMany_any b1 a1 d1 c1 ps zs _ p_6.out f_6.out (HT.out.below B6.out HT.out.lt) hlp hln).mono ?_
              rintro e w7 ⟨rfl, hb7⟩
              have B7 := Lib.hid (B6.out.trans (hb7.mono B6.out.size))
              clear hb7 B6 f_6 p_6
              by_cases hz9 : zs.length = 0
              · have hz8 : (zs.length : Int) = 0 := by omega
                clear hz9
                go_wp2
                all_goals
                  go_ret
                  exact ⟨rfl, B7.out⟩
              · rw [(HF.out.2.2.2 (by omega)).1, (HF.out.2.2.2 (by omega)).2]
                have hz8 : ¬ ((zs.length : Int) = 0) := by omega
                clear hz9
                go_wp2
                all_goals
                  go_ret
                  exact ⟨rfl, B7.out⟩
            · have ht : tabIs zs ps = true := by
                cases h : tabIs zs ps
                · exact absurd (HF.out.2.2.1.2 h) hN0
                · rfl
              have hI := implIs_any a1 b1 c1 d1 zs ps w5 f_5.out p_5.out hln hlp
              rw [ht] at hI
              have HI := Lib.hid hI
              clear hI ht
              go_wp2_with fail
              refine HI.out.mono ?_
              rintro e w6 ⟨rfl, hb6⟩
              have B6 := Lib.hid (B5.out.trans (hb6.mono B5.out.size))
              have f_6 := Lib.hid (f_5.out.step hb6)
              have p_6 := Lib.hid (p_5.out.step hb6)
              clear hb6 B5 f_5 p_5 HI
              go_wp2_with fail
              refine (implMany_any b1 a1 d1 c1 ps zs _ p_6.out f_6.out (HT.out.below B6.out HT.out.lt) hlp hln).mono ?_
              rintro e w7 ⟨rfl, hb7⟩
              have B7 := Lib.hid (B6.out.trans (hb7.mono B6.out.size))
              clear hb7 B6 f_6 p_6
              by_cases hz9 : zs.length = 0
              · have hz8 : (zs.length : Int) = 0 := by omega
                clear hz9
                go_wp2
                all_goals
                  go_ret
                  exact ⟨rfl, B7.out⟩
              · rw [(HF.out.2.2.2 (by omega)).1, (HF.out.2.2.2 (by omega)).2]
                have hz8 : ¬ ((zs.length : Int) = 0) := by omega
                clear hz9
                go_wp2
                all_goals
                  go_ret
                  exact ⟨rfl, B7.out⟩

end Go.Proofs.YtbiggilheicfjaaDoor
