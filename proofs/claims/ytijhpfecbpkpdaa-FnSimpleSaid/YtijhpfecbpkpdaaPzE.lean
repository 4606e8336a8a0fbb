/- It is proved that the call of the law FnSimple returns true; conditions: those of each statement. -/
import Derived.Test.YtijhpfecbpkpdaaRows
import Derived.WalkKit
import Derived.WalkSpells
import Derived.ProofKit
import Derived.OpenShut
import Derived.ShutString
import Derived.ChangeOld
import Derived.Below
import Derived.Deep.RegionHeld3
import Derived.Deep.QuietTactic
import Derived.BigQuiet
import Derived.Lib.Hide
import Derived.Lib.SmallJoins
import Derived.Outline
import Derived.Laws.MakeOwn
import Derived.Laws.OwnMore
import Derived.IntWalk
import Derived.Deep.RegionLaw
import Derived.Deep.AppendLies
import Derived.Lib.AppendZeros
import Derived.Maps.AppendAt
import Derived.OwnWalk
import Derived.Lib.SlicesCompact
import Derived.Lib.OwnBridge
import Derived.Shelf.Sort.Plain
import Derived.Shelf.Slices.In.SortNone
import Derived.Shelf.Slices.CompactI
import Derived.Ground.Names2Prog
import Derived.RangeFuncNested
import Derived.RangeFuncBound
import Derived.RangeFuncCalls
import Derived.RangeFuncLeaves
import Derived.RangeFuncBox
import Derived.Shelf.Abstract
import Derived.Shelf.RegionOpen
import Derived.OwnWalkIn
import Derived.TacticsInMore
import Derived.LoopNIn
import Derived.LoopIn
import Derived.Shelf.Spec.TrailingZeros
import Derived.Test.YtijhpfecbpkpdaaD
import Derived.Test.YtijhpfecbpkpdaaDa
import Derived.Test.YtijhpfecbpkpdaaDb
import Derived.Test.YtijhpfecbpkpdaaDd
import Derived.Test.YtijhpfecbpkpdaaDe
import Derived.Test.YtijhpfecbpkpdaaE
import Derived.Test.YtijhpfecbpkpdaaF
import Derived.Test.YtijhpfecbpkpdaaFb
import Derived.Test.YtijhpfecbpkpdaaH
import Derived.Test.YtijhpfecbpkpdaaHb
import Derived.Test.YtijhpfecbpkpdaaHc
import Derived.Test.YtijhpfecbpkpdaaHt
import Derived.Test.YtijhpfecbpkpdaaP
import Derived.Test.YtijhpfecbpkpdaaSa
namespace Go.Proofs.Ytijhpfecbpkpdaa
open Go.RowKit

theorem simple_facts {m : Int} {zs : List Int} (h : famIn m zs = true) : famM (famIn (famM (famIn m zs) m) (famF (famIn m zs) simpZ zs)) (famM (famIn m zs) m) = famM (famIn m zs) m ∧
    famF (famIn (famM (famIn m zs) m) (famF (famIn m zs) simpZ zs)) simpZ (famF (famIn m zs) simpZ zs) = famF (famIn m zs) simpZ zs ∧ famIn (famM (famIn m zs) m) (famF (famIn m zs) simpZ zs) = true ∧
    (∀ t, t + 1 < (famF (famIn m zs) simpZ zs).length → (famF (famIn m zs) simpZ zs)[t]?.getD 0 < (famF (famIn m zs) simpZ zs)[t + 1]?.getD 0) ∧
    ∀ i, i < zs.length → ∃ k, k < (famF (famIn m zs) simpZ zs).length ∧ (famF (famIn m zs) simpZ zs)[k]?.getD 0 = zs[i]?.getD 0 := by
  have e1 : famM (famIn m zs) m = m := by simp [famM, h]
  have e2 : famF (famIn m zs) simpZ zs = simpZ zs := by simp [famF, h]
  rw [e1, e2]
  obtain ⟨h1, h2, h3, h4⟩ := famIn_out h
  have hf : famIn m (simpZ zs) = true := by
    simp only [famIn, Bool.and_eq_true, decide_eq_true_eq, List.all_eq_true]
    refine ⟨inB_true h1 h2, Nat.le_trans (simpZ_le zs) h3, fun z hz => ?_⟩
    have := h4 z ((simpZ_mem zs z).1 hz)
    exact inB_true this.1 this.2
  have hs : simpZ (simpZ zs) = simpZ zs := (simpZ_of (simpZ_asc zs) (fun z => Iff.rfl)).symm
  refine ⟨by simp [famM, hf], by rw [famF, if_pos hf, hs], hf, ?_, ?_⟩
  · intro t ht
    have := List.pairwise_iff_getElem.1 (simpZ_asc zs) t (t + 1) (by omega) ht (by omega)
    rw [List.getElem?_eq_getElem (by omega), List.getElem?_eq_getElem ht]
    exact this
  · intro i hi
    have hm : zs[i] ∈ simpZ zs := (simpZ_mem zs _).2 (List.getElem_mem _)
    obtain ⟨k, hk, he⟩ := List.getElem_of_mem hm
    exact ⟨k, hk, by rw [List.getElem?_eq_getElem hk, List.getElem?_eq_getElem hi, Option.getD_some, Option.getD_some, he]⟩

set_option maxRecDepth 100000 in
set_option maxHeartbeats 8000000 in
theorem walkFnSimple (a : Option Addr) (n cap : Nat) (w : World) (hb : Bys w w.heap.size a n) (hn : n ≤ 1048576) (hc : n ≤ cap) (hc2 : cap ≤ 9223372036854775807) :
    Calls Try.prog 7 #[.slice a n cap] w fun e w' => e = .returned (.bool true) ∧ Below w.heap.size w w' := by
  have HBy := Lib.hid hb
  clear hb
  go_enter Try.func7, Try.ntmps7
  go_wp2_with fail
  refine (drawSimple_any a n cap w HBy.out hn hc hc2).mono ?_
  rintro e w1 ⟨m, a1, zs, c1, rfl, hl, ho1, hb1⟩
  have F1 := FB.start (m := m) (c := c1) (own_ints ho1)
  have B1 := Lib.hid (hb1.trans ((below1 w1 (.cells #[.int .i64 m, .slice a1 zs.length c1] 25)).mono hb1.size))
  have hln : zs.length ≤ 1048576 := by omega
  have f_f_1 := Lib.hid F1
  clear F1 ho1 hb1
  have f_0 := f_f_1.out.x0
  have f_1 := f_f_1.out.x1
  obtain ⟨M, hM⟩ : ∃ M, M = famM (famIn m zs) m := ⟨_, rfl⟩
  obtain ⟨ys, hys⟩ : ∃ ys, ys = famF (famIn m zs) simpZ zs := ⟨_, rfl⟩
  have hyl : ys.length ≤ 1048576 := by rw [hys]; exact famF_len _ _ _ hln (simpZ_le _)
  have HI := Lib.hid (fun W hz => implSimple_any m a1 c1 zs W hz hln)
  have HSp := Lib.hid (fun W hz => specSimple_any m a1 c1 zs W hz hln)
  rw [← hM, ← hys] at HI HSp
  have HM := Lib.hid hM
  have HYS := Lib.hid hys
  clear hM hys
  go_wp2_with fail
  refine (HI.out _ f_f_1.out.ints).mono ?_
  rintro e w2 ⟨a2, c2, rfl, ho2, hb2⟩
  have F2 := FB.start (m := M) (c := c2) (own_ints ho2)
  have hb2x := hb2.trans ((below1 w2 (.cells #[.int .i64 (M), .slice a2 (ys).length c2] 25)).mono hb2.size)
  have B2 := Lib.hid (B1.out.trans (hb2x.mono B1.out.size))
  have f_f_2 := Lib.hid (f_f_1.out.step hb2x)
  have f_out_2 := Lib.hid F2
  clear F2 ho2 hb2 hb2x B1 f_f_1
  clear f_0 f_1
  have f_0 := f_f_2.out.x0
  have f_1 := f_f_2.out.x1
  go_wp2_with fail
  refine (HSp.out _ f_f_2.out.ints).mono ?_
  rintro e w3 ⟨a3, c3, rfl, ho3, hb3⟩
  have F3 := FB.start (m := M) (c := c3) (own_ints ho3)
  have hb3x := hb3.trans ((below1 w3 (.cells #[.int .i64 (M), .slice a3 (ys).length c3] 25)).mono hb3.size)
  have B3 := Lib.hid (B2.out.trans (hb3x.mono B2.out.size))
  have f_f_3 := Lib.hid (f_f_2.out.step hb3x)
  have f_out_3 := Lib.hid (f_out_2.out.step hb3x)
  have f_want_3 := Lib.hid F3
  clear F3 ho3 hb3 hb3x B2 f_f_2 f_out_2
  clear f_0 f_1
  have out_0 := f_out_3.out.x0
  have out_1 := f_out_3.out.x1
  have want_0 := f_want_3.out.x0
  have want_1 := f_want_3.out.x1
  clear HI HSp
  cases hd : famIn m zs
  · clear hd HM HYS
    go_wp2_with fail
    refine (sameFamily_any _ _ _ _ _ _ _ _ _ f_out_3.out.ints f_want_3.out.ints hyl hyl).mono ?_
    rintro e w4 ⟨rfl, hb4⟩
    rw [sameF_self]
    have B4 := Lib.hid (B3.out.trans (hb4.mono B3.out.size))
    have f_f_4 := Lib.hid (f_f_3.out.step hb4)
    have f_out_4 := Lib.hid (f_out_3.out.step hb4)
    have f_want_4 := Lib.hid (f_want_3.out.step hb4)
    clear hb4 B3 f_f_3 f_out_3 f_want_3
    clear out_0 out_1
    clear want_0 want_1
    have out_0 := f_out_4.out.x0
    have out_1 := f_out_4.out.x1
    have want_0 := f_want_4.out.x0
    have want_1 := f_want_4.out.x1
    go_wp2_with fail
    refine (sameFamily_any _ _ _ _ _ _ _ _ _ f_out_4.out.ints f_want_4.out.ints hyl hyl).mono ?_
    rintro e w5 ⟨rfl, hb5⟩
    rw [sameF_self]
    have B5 := Lib.hid (B4.out.trans (hb5.mono B4.out.size))
    have f_f_5 := Lib.hid (f_f_4.out.step hb5)
    have f_out_5 := Lib.hid (f_out_4.out.step hb5)
    have f_want_5 := Lib.hid (f_want_4.out.step hb5)
    clear hb5 B4 f_f_4 f_out_4 f_want_4
    clear out_0 out_1
    clear want_0 want_1
    go_wp2
    go_ret
    exact ⟨rfl, B5.out⟩
  · have HD := Lib.hid hd
    clear hd
    go_wp2_with fail
    refine (sameFamily_any _ _ _ _ _ _ _ _ _ f_out_3.out.ints f_want_3.out.ints hyl hyl).mono ?_
    rintro e w4 ⟨rfl, hb4⟩
    rw [sameF_self]
    have B4 := Lib.hid (B3.out.trans (hb4.mono B3.out.size))
    have f_f_4 := Lib.hid (f_f_3.out.step hb4)
    have f_out_4 := Lib.hid (f_out_3.out.step hb4)
    have f_want_4 := Lib.hid (f_want_3.out.step hb4)
    clear hb4 B3 f_f_3 f_out_3 f_want_3
    clear out_0 out_1
    clear want_0 want_1
    clear f_want_4
    have HE : Hid (famM (famIn M ys) M = M ∧ famF (famIn M ys) simpZ ys = ys ∧ famIn M ys = true ∧ (∀ t, t + 1 < ys.length → ys[t]?.getD 0 < ys[t + 1]?.getD 0) ∧ ∀ i, i < zs.length → ∃ k, k < ys.length ∧ ys[k]?.getD 0 = zs[i]?.getD 0) := Lib.hid (by rw [HM.out, HYS.out]; exact simple_facts HD.out)
    have out_0 := f_out_4.out.x0
    have out_1 := f_out_4.out.x1
    go_wp2_with fail
    refine (implSimple_any M a2 c2 ys _ f_out_4.out.ints hyl).mono ?_
    rw [HE.out.1]
    rw [HE.out.2.1]
    rw [HE.out.2.2.1]
    rintro e w5 ⟨a5, c5, rfl, ho5, hb5⟩
    have F5 := FB.start (m := M) (c := c5) (own_ints ho5)
    have hb5x := hb5.trans ((below1 w5 (.cells #[.int .i64 (M), .slice a5 (ys).length c5] 25)).mono hb5.size)
    have B5 := Lib.hid (B4.out.trans (hb5x.mono B4.out.size))
    have f_f_5 := Lib.hid (f_f_4.out.step hb5x)
    have f_out_5 := Lib.hid (f_out_4.out.step hb5x)
    have f_x_5 := Lib.hid F5
    clear F5 ho5 hb5 hb5x B4 f_f_4 f_out_4
    clear out_0 out_1
    have HASC := Lib.hid HE.out.2.2.2.1
    have HMEM := Lib.hid HE.out.2.2.2.2
    have HFO := Lib.hid f_out_5.out
    have HFF := Lib.hid f_f_5.out
    have HFX := Lib.hid f_x_5.out
    have HBB := Lib.hid B5.out
    obtain ⟨V, hV⟩ : ∃ V, V = w5.alloc (.cells #[.int .i64 (M), .slice a5 (ys).length c5] 25) := ⟨_, rfl⟩
    rw [← hV] at HFO HFF HFX HBB
    have HV := Lib.hid hV
    clear hV
    obtain ⟨Z, hZ⟩ : ∃ Z, Z = ys.length := ⟨_, rfl⟩
    have HZ := Lib.hid hZ
    have hZ1 : Z ≤ 1048576 := by rw [hZ]; exact hyl
    obtain ⟨Y, hY⟩ : ∃ Y, Y = zs.length := ⟨_, rfl⟩
    have HY := Lib.hid hY
    have hY1 : Y ≤ 1048576 := by rw [hY]; exact hln
    have HYL := Lib.hid hyl
    have HLN := Lib.hid hln
    have X1 : Hid (V.cell? ⟨w1.heap.size, 1, none⟩ = some (.slice a1 Y c1)) := Lib.hid (by rw [hY]; exact HFF.out.x1)
    have Y1 : Hid (V.cell? ⟨w2.heap.size, 1, none⟩ = some (.slice a2 Z c2)) := Lib.hid (by rw [hZ]; exact HFO.out.x1)
    have hs1 : w1.heap.size < V.heap.size := lt_of_some HFF.out.blk
    have hs2 : w2.heap.size < V.heap.size := lt_of_some HFO.out.blk
    clear hZ hY HE HM HYS hyl hln hl
    have hlen5 : w5.heap.size < V.heap.size := by rw [HV.out]; simp
    go_wp2_with fail
    rw [← HV.out]
    go_loopw [10] (fun i wr => ∃ t : Nat, i = .int .i64 ((t : Int) + 1) ∧ t ≤ Z ∧ Below V.heap.size V wr) (fun i _ => Z + 1 - (intOf i).toNat)
    case atStart => exact ⟨0, rfl, Nat.zero_le _, Below.refl _ _⟩
    case round =>
      obtain ⟨t, rfl, htZ, hB⟩ := hrel
      have y1 := (hB.cell (p := ⟨w2.heap.size, 1, none⟩) hs2).trans Y1.out
      by_cases hlt : t + 1 < Z
      · obtain ⟨b1, o1, ha1, hb1, hc1⟩ := HFO.out.ints.at_ (k := t + 1) (by rw [← HZ.out]; exact hlt)
        obtain ⟨b2, o2, ha2, hb2, hc2⟩ := HFO.out.ints.at_ (k := t) (by rw [← HZ.out]; omega)
        subst ha1
        injection ha2 with ha2
        injection ha2 with e1 e2
        subst e1
        subst e2
        have v1 := (hB.cell (p := ⟨b1, o1 + (t + 1), none⟩) hb1).trans hc1
        have v2 := (hB.cell (p := ⟨b1, o1 + t, none⟩) hb1).trans hc2
        have hpq := HASC.out t (by rw [← HZ.out]; exact hlt)
        obtain ⟨p, hp⟩ : ∃ p, p = ys[t + 1]?.getD 0 := ⟨_, rfl⟩
        obtain ⟨q, hq⟩ : ∃ q, q = ys[t]?.getD 0 := ⟨_, rfl⟩
        rw [← hp] at v1 hpq
        rw [← hq] at v2 hpq
        have hpq2 : decide (p ≤ q) = false := by simp; omega
        have hlt2 : decide ((t : Int) + 1 < (Z : Int)) = true := by simp; omega
        have hj0 : (0 : Int) ≤ (t : Int) + 1 := by omega
        have hj1 : (t : Int) + 1 < (Z : Int) := by omega
        have hj2 : (0 : Int) ≤ (t : Int) := by omega
        have hj3 : (t : Int) < (Z : Int) := by omega
        have hw1 : IntKind.i64.wrap ((t : Int) + 1 - 1) = (t : Int) := by rw [IntKind.wrap_i64]; omega
        have hw2 : ((t : Int) + 1).toNat = t + 1 := by omega
        have HB := Lib.hid hB
        clear hB hc1 hc2 hp hq
        go_wp2
        go_quiet (fail)
        clear hw1 hw2
        go_wp2
        go_roundw
        case rel => exact ⟨t + 1, by simp, by omega, below_drewN HB.out _⟩
        case measure => simp [intOf]; omega
      · have HB0 := Lib.hid hB
        clear hB
        go_wp2
        clear y1
        go_loopw [11] (fun i wr => ∃ i' : Nat, i' ≤ Y ∧ i = .int .i64 (i' : Int) ∧ Below V.heap.size V wr) (fun i _ => Y - (intOf i).toNat)
        case atStart => exact ⟨0, Nat.zero_le _, rfl, HB0.out⟩
        case round =>
          obtain ⟨i, hi, rfl, hB⟩ := hrel
          obtain ⟨wp, hwp⟩ : ∃ wp, wp = wr := ⟨wr, rfl⟩
          subst hwp
          have x1 := (hB.cell (p := ⟨w1.heap.size, 1, none⟩) hs1).trans X1.out
          have HB3 := Lib.hid hB
          clear hB
          by_cases hli : i < Y
          · go_wp2
            go_loopw [12, 13] (fun v k wr => ∃ (k' : Nat) (b' : Bool), k' ≤ Z ∧ k = .int .i64 (k' : Int) ∧ v = .bool b' ∧ (b' = false → ∀ q, q < k' → ys[q]?.getD 0 ≠ zs[i]?.getD 0) ∧ Below V.heap.size V wr) (fun _ k _ => Z - (intOf k).toNat)
            case atStart => exact ⟨0, false, Nat.zero_le _, rfl, rfl, fun _ q hq => by omega, HB3.out⟩
            case round =>
              obtain ⟨k, bb, hk, rfl, rfl, hbb, hB⟩ := hrel
              obtain ⟨wi, hwi⟩ : ∃ wi, wi = wr := ⟨wr, rfl⟩
              subst hwi
              have y1 := (hB.cell (p := ⟨w2.heap.size, 1, none⟩) hs2).trans Y1.out
              have x1 := (hB.cell (p := ⟨w1.heap.size, 1, none⟩) hs1).trans X1.out
              have HB4 := Lib.hid hB
              have HBI := Lib.hid hbb
              by_cases hlk : k < Z
              · cases bb
                · obtain ⟨b1, o1, ha1, hb1, hc1⟩ := HFO.out.ints.at_ (k := k) (by rw [← HZ.out]; exact hlk)
                  obtain ⟨b2, o2, ha2, hb2, hc2⟩ := HFF.out.ints.at_ (k := i) (by rw [← HY.out]; exact hli)
                  subst ha1
                  subst ha2
                  have v1 := (hB.cell (p := ⟨b1, o1 + k, none⟩) hb1).trans hc1
                  have v2 := (hB.cell (p := ⟨b2, o2 + i, none⟩) hb2).trans hc2
                  obtain ⟨yk, hyk⟩ : ∃ yk, yk = ys[k]?.getD 0 := ⟨_, rfl⟩
                  obtain ⟨zi, hzi⟩ : ∃ zi, zi = zs[i]?.getD 0 := ⟨_, rfl⟩
                  rw [← hyk] at v1
                  rw [← hzi] at v2
                  have HYK := Lib.hid hyk
                  have HZI := Lib.hid hzi
                  have hi0 : (0 : Int) ≤ (i : Int) := by omega
                  have hi1 : (i : Int) < (Y : Int) := by omega
                  have hk0 : (0 : Int) ≤ (k : Int) := by omega
                  have hk1 : (k : Int) < (Z : Int) := by omega
                  clear hB hbb hc1 hc2 hyk hzi
                  cases hp : (yk == zi)
                  · have HP : Hid (yk ≠ zi) := Lib.hid (by simpa using hp)
                    go_wp2
                    go_quiet (fail)
                    go_wp2
                    go_roundw
                    case rel => exact ⟨k + 1, false, by omega, by go_num, rfl, fun h q hq => by
                      rcases Nat.lt_succ_iff_lt_or_eq.1 hq with h2 | rfl
                      · exact HBI.out (by trivial) q h2
                      · rw [← HYK.out, ← HZI.out]; exact HP.out, below_drewN HB4.out _⟩
                    case measure => simp [intOf]; omega
                  · go_wp2
                    go_quiet (fail)
                    go_wp2
                    go_roundw
                    case rel => exact ⟨k + 1, true, by omega, by go_num, rfl, fun h => (by cases h), below_drewN HB4.out _⟩
                    case measure => simp [intOf]; omega
                · clear hB hbb
                  go_wp2
                  go_quiet (fail)
                  go_wp2
                  go_roundw
                  case rel => exact ⟨k + 1, true, by omega, by go_num, rfl, fun h => (by cases h), below_drewN HB4.out _⟩
                  case measure => simp [intOf]; omega
              · obtain rfl : k = Z := by omega
                have hbt : bb = true := by
                  cases bb
                  · obtain ⟨q, hq, hp⟩ := HMEM.out i (by rw [← HY.out]; exact hli)
                    exact absurd hp (hbb rfl q (by rw [HZ.out]; exact hq))
                  · rfl
                subst hbt
                clear hB hbb
                go_wp2
                go_roundw
                case rel => exact ⟨i + 1, by omega, by go_num, HB4.out⟩
                case measure => simp [intOf]; omega
          · have FX := Lib.hid (HFX.out.step HB3.out)
            have FO := Lib.hid (HFO.out.step HB3.out)
            have HB := Lib.hid (HBB.out.trans (HB3.out.mono HBB.out.size))
            have x0 := FX.out.x0
            have x1' := FX.out.x1
            have y0 := FO.out.x0
            have y1 := FO.out.x1
            go_wp2_with fail
            refine (sameFamily_any _ _ _ _ _ _ _ _ _ FX.out.ints FO.out.ints HYL.out HYL.out).mono ?_
            rintro e we ⟨rfl, hbe⟩
            rw [sameF_self]
            have HD2 := Lib.hid (HB.out.trans (hbe.mono HB.out.size))
            clear hbe x0 x1 x1' y0 y1
            go_wp2
            go_ret
            exact ⟨rfl, HD2.out⟩

end Go.Proofs.Ytijhpfecbpkpdaa
