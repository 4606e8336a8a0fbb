/- It is proved that the call of the law FnMeet returns true; conditions: those of each statement. -/
import Derived.Test.YtgpgocijacgkhaaRows
import Derived.WalkKit
import Derived.WalkSpells
import Derived.ProofKit
import Derived.OpenShut
import Derived.ShutString
import Derived.ChangeOld
import Derived.Below
import Derived.Deep.RegionHeld3
import Derived.Deep.QuietTactic
import Derived.BigQuiet
import Derived.Lib.Hide
import Derived.Lib.SmallJoins
import Derived.Outline
import Derived.Laws.MakeOwn
import Derived.Laws.OwnMore
import Derived.IntWalk
import Derived.Deep.RegionLaw
import Derived.Deep.AppendLies
import Derived.Deep.RegionWith
import Derived.RangeFuncNested
import Derived.RangeFuncBound
import Derived.RangeFuncCalls
import Derived.RangeFuncLeaves
import Derived.RangeFuncBox
import Derived.Shelf.Abstract
import Derived.Shelf.RegionOpen
import Derived.OwnWalkIn
import Derived.TacticsInMore
import Derived.LoopNIn
import Derived.LoopIn
import Derived.Maps.AppendAt
import Derived.OwnWalk
import Derived.Shelf.Spec.TrailingZeros
import Derived.Test.YtgpgocijacgkhaaD
import Derived.Test.YtgpgocijacgkhaaDa
import Derived.Test.YtgpgocijacgkhaaDb
import Derived.Test.YtgpgocijacgkhaaDd
import Derived.Test.YtgpgocijacgkhaaDe
import Derived.Test.YtgpgocijacgkhaaDk
import Derived.Test.YtgpgocijacgkhaaE
import Derived.Test.YtgpgocijacgkhaaF
import Derived.Test.YtgpgocijacgkhaaFb
import Derived.Test.YtgpgocijacgkhaaH
import Derived.Test.YtgpgocijacgkhaaP
import Derived.Test.YtgpgocijacgkhaaPzB
import Derived.Test.YtgpgocijacgkhaaYl
import Derived.Test.YtgpgocijacgkhaaZa
import Derived.Test.YtgpgocijacgkhaaZb
import Derived.Test.YtgpgocijacgkhaaZc
namespace Go.Proofs.Ytgpgocijacgkhaa
open Go.RowKit

set_option maxRecDepth 100000 in
theorem pop_and_fin : ∀ a b : Fin 64, pop ((a.val &&& b.val : Nat) : Int) ≤ pop (a.val : Int) := by decide +kernel

theorem meet_facts {m x : Int} {zs : List Int} (h : meetIn m zs x = true) : meetIn (meetM m zs x) (meetZ m zs x) x = true ∧ meetM (meetM m zs x) (meetZ m zs x) x = meetM m zs x ∧ meetZ (meetM m zs x) (meetZ m zs x) x = meetZ m zs x ∧ famIn m zs = true ∧ famIn (meetM m zs x) (meetZ m zs x) = true ∧
    (sizesZ (meetM m zs x) (meetZ m zs x)).length = (sizesZ m zs).length ∧ ∀ k, k < (sizesZ m zs).length → (sizesZ (meetM m zs x) (meetZ m zs x))[k]?.getD 0 ≤ (sizesZ m zs)[k]?.getD 0 := by
  have e1 : meetM m zs x = m := by simp [meetM, h]
  have e2 : meetZ m zs x = zs.map fun z => bits .and .i64 z x := by simp [meetZ, h]
  have hh := h
  simp only [meetIn, Bool.and_eq_true] at hh
  obtain ⟨hf, hx⟩ := hh
  obtain ⟨h1, h2, h3, h4⟩ := famIn_out hf
  have h5 := fullI_63 h1 h2
  obtain ⟨hx0, hx1⟩ := inB_out hx
  obtain ⟨y, rfl⟩ : ∃ y : Nat, x = (y : Int) := ⟨x.toNat, by omega⟩
  have key : ∀ z ∈ zs, ∃ t : Nat, z = (t : Int) ∧ t < 64 ∧ bits .and .i64 z (y : Int) = ((t &&& y : Nat) : Int) := fun z hz => by
    have := h4 z hz
    refine ⟨z.toNat, by omega, by omega, ?_⟩
    conv => lhs; rw [show z = ((z.toNat : Nat) : Int) by omega]
    exact bits_and_nat _ _ (by omega) (by omega)
  have hf2 : famIn m (zs.map fun z => bits .and .i64 z (y : Int)) = true := by
    simp only [famIn, Bool.and_eq_true, decide_eq_true_eq, List.all_eq_true, List.mem_map, List.length_map]
    refine ⟨inB_true h1 h2, h3, ?_⟩
    rintro _ ⟨z, hz, rfl⟩
    obtain ⟨t, e, ht, h6⟩ := key z hz
    rw [h6]
    have : t &&& y ≤ y := Nat.and_le_right
    exact inB_true (by omega) (by omega)
  have hi2 : meetIn m (zs.map fun z => bits .and .i64 z (y : Int)) (y : Int) = true := by rw [meetIn, hf2, hx]; rfl
  rw [e1, e2]
  refine ⟨hi2, by rw [meetM, if_pos hi2], ?_, hf, hf2, ?_, ?_⟩
  · rw [meetZ, if_pos hi2, List.map_map]
    apply List.map_congr_left
    intro z hz
    obtain ⟨t, e, ht, h6⟩ := key z hz
    have h7 : t &&& y ≤ t := Nat.and_le_left
    simp only [Function.comp]
    rw [h6, bits_and_nat _ _ (by omega) (by omega), Nat.and_assoc, Nat.and_self]
  · simp [sizesZ, hf, hf2]
  · intro k hk
    have s1 : sizesZ m zs = zs.map pop := by simp [sizesZ, hf]
    have s2 : sizesZ m (zs.map fun z => bits .and .i64 z (y : Int)) = (zs.map fun z => bits .and .i64 z (y : Int)).map pop := by rw [sizesZ, if_pos hf2]
    rw [s1] at hk ⊢
    rw [s2]
    have hk' : k < zs.length := by simpa using hk
    simp only [List.getElem?_map, List.getElem?_eq_getElem hk', Option.map_some, Option.getD_some]
    obtain ⟨t, e, ht, h6⟩ := key zs[k] (List.getElem_mem _)
    rw [h6, e]
    exact pop_and_fin ⟨t, ht⟩ ⟨y, by omega⟩

set_option maxRecDepth 100000 in
set_option maxHeartbeats 8000000 in
theorem walkFnMeet (a : Option Addr) (n cap : Nat) (w : World) (hb : Bys w w.heap.size a n) (hn : n ≤ 1048576) (hc : n ≤ cap) (hc2 : cap ≤ 9223372036854775807) :
    Calls Try.prog 4 #[.slice a n cap] w fun e w' => e = .returned (.bool true) ∧ Below w.heap.size w w' := by
  have HBy := Lib.hid hb
  clear hb
  go_enter Try.func4, Try.ntmps4
  go_wp2_with fail
  refine (drawMeet_any a n cap w HBy.out hn hc hc2).mono ?_
  rintro e w1 ⟨m, a1, zs, c1, x, rfl, hl, ho1, hb1⟩
  have F1 := FB.start (m := m) (c := c1) (own_ints ho1)
  have B1 := Lib.hid (hb1.trans ((below1 w1 (.cells #[.int .i64 m, .slice a1 zs.length c1] 25)).mono hb1.size))
  have hln : zs.length ≤ 1048576 := by omega
  have f_f_1 := Lib.hid F1
  clear F1 ho1 hb1
  have f_0 := f_f_1.out.x0
  have f_1 := f_f_1.out.x1
  obtain ⟨M, hM⟩ : ∃ M, M = meetM m zs x := ⟨_, rfl⟩
  obtain ⟨ys, hys⟩ : ∃ ys, ys = meetZ m zs x := ⟨_, rfl⟩
  have hyl : ys.length ≤ 1048576 := by rw [hys]; exact meetZ_len m zs x hln
  have HI := Lib.hid (fun W hz => implMeet_any m a1 c1 zs x W hz hln)
  have HSp := Lib.hid (fun W hz => specMeet_any m a1 c1 zs x W hz hln)
  rw [← hM, ← hys] at HI HSp
  have HM := Lib.hid hM
  have HYS := Lib.hid hys
  clear hM hys
  go_wp2_with fail
  refine (HI.out _ f_f_1.out.ints).mono ?_
  rintro e w2 ⟨a2, c2, rfl, ho2, hb2⟩
  have F2 := FB.start (m := M) (c := c2) (own_ints ho2)
  have hb2x := hb2.trans ((below1 w2 (.cells #[.int .i64 (M), .slice a2 (ys).length c2] 25)).mono hb2.size)
  have B2 := Lib.hid (B1.out.trans (hb2x.mono B1.out.size))
  have f_f_2 := Lib.hid (f_f_1.out.step hb2x)
  have f_out_2 := Lib.hid F2
  clear F2 ho2 hb2 hb2x B1 f_f_1
  clear f_0 f_1
  have f_0 := f_f_2.out.x0
  have f_1 := f_f_2.out.x1
  go_wp2_with fail
  refine (HSp.out _ f_f_2.out.ints).mono ?_
  rintro e w3 ⟨a3, c3, rfl, ho3, hb3⟩
  have F3 := FB.start (m := M) (c := c3) (own_ints ho3)
  have hb3x := hb3.trans ((below1 w3 (.cells #[.int .i64 (M), .slice a3 (ys).length c3] 25)).mono hb3.size)
  have B3 := Lib.hid (B2.out.trans (hb3x.mono B2.out.size))
  have f_f_3 := Lib.hid (f_f_2.out.step hb3x)
  have f_out_3 := Lib.hid (f_out_2.out.step hb3x)
  have f_want_3 := Lib.hid F3
  clear F3 ho3 hb3 hb3x B2 f_f_2 f_out_2
  clear f_0 f_1
  have out_0 := f_out_3.out.x0
  have out_1 := f_out_3.out.x1
  have want_0 := f_want_3.out.x0
  have want_1 := f_want_3.out.x1
  clear HI HSp
  cases hd : meetIn m zs x
  · clear hd HM HYS
    go_wp2_with fail
    refine (sameFamily_any _ _ _ _ _ _ _ _ _ f_out_3.out.ints f_want_3.out.ints hyl hyl).mono ?_
    rintro e w4 ⟨rfl, hb4⟩
    rw [sameF_self]
    have B4 := Lib.hid (B3.out.trans (hb4.mono B3.out.size))
    have f_f_4 := Lib.hid (f_f_3.out.step hb4)
    have f_out_4 := Lib.hid (f_out_3.out.step hb4)
    have f_want_4 := Lib.hid (f_want_3.out.step hb4)
    clear hb4 B3 f_f_3 f_out_3 f_want_3
    clear want_0 want_1
    clear out_0 out_1
    have out_0 := f_out_4.out.x0
    have out_1 := f_out_4.out.x1
    have want_0 := f_want_4.out.x0
    have want_1 := f_want_4.out.x1
    go_wp2_with fail
    refine (sameFamily_any _ _ _ _ _ _ _ _ _ f_out_4.out.ints f_want_4.out.ints hyl hyl).mono ?_
    rintro e w5 ⟨rfl, hb5⟩
    rw [sameF_self]
    have B5 := Lib.hid (B4.out.trans (hb5.mono B4.out.size))
    have f_f_5 := Lib.hid (f_f_4.out.step hb5)
    have f_out_5 := Lib.hid (f_out_4.out.step hb5)
    have f_want_5 := Lib.hid (f_want_4.out.step hb5)
    clear hb5 B4 f_f_4 f_out_4 f_want_4
    clear want_0 want_1
    clear out_0 out_1
    go_wp2
    go_ret
    exact ⟨rfl, B5.out⟩
  · have HD := Lib.hid hd
    clear hd
    go_wp2_with fail
    refine (sameFamily_any _ _ _ _ _ _ _ _ _ f_out_3.out.ints f_want_3.out.ints hyl hyl).mono ?_
    rintro e w4 ⟨rfl, hb4⟩
    rw [sameF_self]
    have B4 := Lib.hid (B3.out.trans (hb4.mono B3.out.size))
    have f_f_4 := Lib.hid (f_f_3.out.step hb4)
    have f_out_4 := Lib.hid (f_out_3.out.step hb4)
    have f_want_4 := Lib.hid (f_want_3.out.step hb4)
    clear hb4 B3 f_f_3 f_out_3 f_want_3
    clear want_0 want_1
    clear out_0 out_1
    clear f_want_4
    have HE : Hid (meetIn M ys x = true ∧ meetM M ys x = M ∧ meetZ M ys x = ys ∧ famIn m zs = true ∧ famIn M ys = true ∧ (sizesZ M ys).length = (sizesZ m zs).length ∧ ∀ k, k < (sizesZ m zs).length → (sizesZ M ys)[k]?.getD 0 ≤ (sizesZ m zs)[k]?.getD 0) := Lib.hid (by rw [HM.out, HYS.out]; exact meet_facts HD.out)
    have out_0 := f_out_4.out.x0
    have out_1 := f_out_4.out.x1
    go_wp2_with fail
    refine (implMeet_any M a2 c2 ys x _ f_out_4.out.ints hyl).mono ?_
    rw [HE.out.1]
    rw [HE.out.2.1]
    rw [HE.out.2.2.1]
    rintro e w5 ⟨a5, c5, rfl, ho5, hb5⟩
    have F5 := FB.start (m := M) (c := c5) (own_ints ho5)
    have hb5x := hb5.trans ((below1 w5 (.cells #[.int .i64 (M), .slice a5 (ys).length c5] 25)).mono hb5.size)
    have B5 := Lib.hid (B4.out.trans (hb5x.mono B4.out.size))
    have f_f_5 := Lib.hid (f_f_4.out.step hb5x)
    have f_out_5 := Lib.hid (f_out_4.out.step hb5x)
    have f_x_5 := Lib.hid F5
    clear F5 ho5 hb5 hb5x B4 f_f_4 f_out_4
    clear out_0 out_1
    have f_0 := f_f_5.out.x0
    have f_1 := f_f_5.out.x1
    obtain ⟨ps, has⟩ : ∃ ps, ps = sizesZ m zs := ⟨_, rfl⟩
    obtain ⟨qs, hbs⟩ : ∃ qs, qs = sizesZ M ys := ⟨_, rfl⟩
    have HAS := Lib.hid has
    have HBS := Lib.hid hbs
    have hal : ps.length ≤ 1048576 := by rw [has]; unfold sizesZ; split <;> simp; omega
    have hle : Hid (qs.length = ps.length ∧ ∀ k, k < ps.length → qs[k]?.getD 0 ≤ ps[k]?.getD 0) := Lib.hid (by rw [has, hbs]; exact HE.out.2.2.2.2.2)
    clear has hbs
    go_wp2_with fail
    refine (implSizes_any m a1 c1 zs _ f_f_5.out.ints hln).mono ?_
    rw [HE.out.2.2.2.1]
    rw [← HAS.out]
    rintro e w6 ⟨a6, c6, rfl, ho6, hb6⟩
    have G6 := Lib.hid (own_ints ho6)
    have B6 := Lib.hid (B5.out.trans (hb6.mono B5.out.size))
    have f_f_6 := Lib.hid (f_f_5.out.step hb6)
    have f_out_6 := Lib.hid (f_out_5.out.step hb6)
    have f_x_6 := Lib.hid (f_x_5.out.step hb6)
    clear ho6 hb6 B5 f_f_5 f_out_5 f_x_5
    clear f_0 f_1
    have out_0 := f_out_6.out.x0
    have out_1 := f_out_6.out.x1
    go_wp2_with fail
    refine (implSizes_any M a2 c2 ys _ f_out_6.out.ints hyl).mono ?_
    rw [HE.out.2.2.2.2.1]
    rw [← HBS.out]
    rintro e w7 ⟨a7, c7, rfl, ho7, hb7⟩
    have G7 := Lib.hid (own_ints ho7)
    have B7 := Lib.hid (B6.out.trans (hb7.mono B6.out.size))
    have f_f_7 := Lib.hid (f_f_6.out.step hb7)
    have f_out_7 := Lib.hid (f_out_6.out.step hb7)
    have f_x_7 := Lib.hid (f_x_6.out.step hb7)
    have l_la_7 := Lib.hid (G6.out.step hb7)
    clear ho7 hb7 B6 f_f_6 f_out_6 f_x_6 G6
    clear out_0 out_1
    clear f_f_7
    obtain ⟨Z, hZ⟩ : ∃ Z, Z = ps.length := ⟨_, rfl⟩
    have HZ := Lib.hid hZ
    have hZ1 : Z ≤ 1048576 := by rw [hZ]; exact hal
    have HBL := Lib.hid hle.out.1
    rw [HBL.out, ← hZ]
    clear hZ HAS HBS HM HYS hal hln
    go_wp2
    go_loopw [15] (fun i wr => ∃ k : Nat, k ≤ Z ∧ i = .int .i64 (k : Int) ∧ Below w7.heap.size w7 wr) (fun i _ => Z - (intOf i).toNat)
    case atStart => exact ⟨0, Nat.zero_le _, rfl, Below.refl _ _⟩
    case round =>
      obtain ⟨k, hk, rfl, hB⟩ := hrel
      by_cases hlt : k < Z
      · obtain ⟨b1, o1, ha1, hb1, hc1⟩ := l_la_7.out.at_ (k := k) (by rw [← HZ.out]; exact hlt)
        obtain ⟨b2, o2, ha2, hb2, hc2⟩ := G7.out.at_ (k := k) (by rw [HBL.out, ← HZ.out]; exact hlt)
        subst ha1
        subst ha2
        have v1 := (hB.cell (p := ⟨b1, o1 + k, none⟩) hb1).trans hc1
        have v2 := (hB.cell (p := ⟨b2, o2 + k, none⟩) hb2).trans hc2
        have hpq := hle.out.2 k (by rw [← HZ.out]; exact hlt)
        obtain ⟨p, hp⟩ : ∃ p, p = ps[k]?.getD 0 := ⟨_, rfl⟩
        obtain ⟨q, hq⟩ : ∃ q, q = qs[k]?.getD 0 := ⟨_, rfl⟩
        rw [← hp] at v1 hpq
        rw [← hq] at v2 hpq
        have hpq2 : decide (p < q) = false := by simp; omega
        have hj0 : (0 : Int) ≤ (k : Int) := by omega
        have hj1 : (k : Int) < (Z : Int) := by omega
        have HB := Lib.hid hB
        clear hB hc1 hc2 hp hq
        go_wp2
        go_quiet (fail)
        go_wp2
        go_roundw
        case rel => exact ⟨k + 1, by omega, by go_num, below_drewN HB.out _⟩
        case measure => simp [intOf]; omega
      · have FX := Lib.hid (f_x_7.out.step hB)
        have FO := Lib.hid (f_out_7.out.step hB)
        have HB := Lib.hid (B7.out.trans (hB.mono B7.out.size))
        clear hB
        have x0 := FX.out.x0
        have x1 := FX.out.x1
        have y0 := FO.out.x0
        have y1 := FO.out.x1
        go_wp2_with fail
        refine (sameFamily_any _ _ _ _ _ _ _ _ _ FX.out.ints FO.out.ints hyl hyl).mono ?_
        rintro e we ⟨rfl, hbe⟩
        rw [sameF_self]
        have HD2 := Lib.hid (HB.out.trans (hbe.mono HB.out.size))
        clear hbe x0 x1 y0 y1
        go_wp2
        go_ret
        exact ⟨rfl, HD2.out⟩

end Go.Proofs.Ytgpgocijacgkhaa
