/- It is proved that the call of the law FnDegrees returns true; conditions: those of each statement. -/
import Derived.Test.YtgpgocijacgkhaaDoorRows
import Derived.WalkKit
import Derived.WalkSpells
import Derived.ProofKit
import Derived.OpenShut
import Derived.ShutString
import Derived.ChangeOld
import Derived.Below
import Derived.Deep.RegionHeld3
import Derived.Deep.QuietTactic
import Derived.BigQuiet
import Derived.Lib.Hide
import Derived.Lib.SmallJoins
import Derived.Outline
import Derived.Laws.MakeOwn
import Derived.Laws.OwnMore
import Derived.IntWalk
import Derived.Deep.RegionLaw
import Derived.Deep.AppendLies
import Derived.RangeFuncNested
import Derived.RangeFuncBound
import Derived.RangeFuncCalls
import Derived.RangeFuncLeaves
import Derived.RangeFuncBox
import Derived.Shelf.Abstract
import Derived.Shelf.RegionOpen
import Derived.OwnWalkIn
import Derived.TacticsInMore
import Derived.LoopNIn
import Derived.LoopIn
import Derived.Maps.AppendAt
import Derived.OwnWalk
import Derived.StillTail
import Derived.StillTactics
import Derived.OrdersIn
import Derived.TacticsIn
import Derived.Shelf.Spec.TrailingZeros
import Derived.StillTailTactics
import Derived.Test.YtgpgocijacgkhaaDoorRaab
import Derived.Test.YtgpgocijacgkhaaDoorDb
import Derived.Test.YtgpgocijacgkhaaDoorRaag
import Derived.Test.YtgpgocijacgkhaaDoorDe
import Derived.Test.YtgpgocijacgkhaaDoorRaan
import Derived.Test.YtgpgocijacgkhaaDoorRaah
import Derived.Test.YtgpgocijacgkhaaDoorRaac
import Derived.Test.YtgpgocijacgkhaaDoorRaay
import Derived.Test.YtgpgocijacgkhaaDoorTc
import Derived.Test.YtgpgocijacgkhaaDoorTd
import Derived.Test.YtgpgocijacgkhaaDoorRaae
import Derived.Test.YtgpgocijacgkhaaDoorRaaz
namespace Go.Proofs.YtgpgocijacgkhaaDoor
open Go.RowKit

theorem degrees_facts {m : Int} {zs : List Int} (h : famIn m zs = true) (hd : dualIn m zs = true) : famIn (dualM m zs) (dualZ m zs) = true ∧ sizesZ (dualM m zs) (dualZ m zs) = famDeg m zs := by
  obtain ⟨h1, h2, h3, h4⟩ := famIn_out h
  obtain ⟨k, rfl⟩ : ∃ k : Nat, m = (k : Int) := ⟨m.toNat, by omega⟩
  have hd' : famIn (k : Int) zs = true ∧ 1 ≤ zs.length ∧ zs.length ≤ 6 := by simpa [dualIn] using hd
  have hdd := (dual_dual k zs h hd'.2.1 hd'.2.2).1
  have e1 : dualM (k : Int) zs = (zs.length : Int) := by rw [dualM, if_pos hd]
  have e2 : dualZ (k : Int) zs = dualL k (prsP (pairs zs zs.length)) := by rw [dualZ, if_pos hd]; rfl
  rw [e1, e2]
  have hf : famIn (zs.length : Int) (dualL k (prsP (pairs zs zs.length))) = true := by
    simp only [dualIn, Bool.and_eq_true] at hdd
    exact hdd.1
  refine ⟨hf, ?_⟩
  rw [sizesZ, if_pos hf, dual_sizes h hd'.2.2, famDeg, if_pos h, Int.toNat_natCast]

set_option maxRecDepth 100000 in
set_option maxHeartbeats 8000000 in
theorem walkFnDegrees (a : Option Addr) (n cap : Nat) (w : World) (hb : Bys w w.heap.size a n) (hT : Tab w) (hn : n ≤ 1048576) (hc : n ≤ cap) (hc2 : cap ≤ 9223372036854775807) :
    Calls Tryd.prog 4 #[.slice a n cap] w fun e w' => e = .returned (.bool true) ∧ Below w.heap.size w w' := by
  have HBy := Lib.hid hb
  have HT := Lib.hid hT
  clear hb hT
  go_enter Tryd.func4, Tryd.ntmps4
  go_wp2_with fail
  refine (drawDegrees_any a n cap w HBy.out hn hc hc2).mono ?_
  rintro e w1 ⟨m, a1, zs, c1, rfl, hl, ho1, hb1⟩
  have F1 := FB.start (m := m) (c := c1) (own_ints ho1)
  have B1 := Lib.hid (hb1.trans ((below1 w1 (.cells #[.int .i64 m, .slice a1 zs.length c1] 25)).mono hb1.size))
  have hln : zs.length ≤ 1048576 := by omega
  have f_f_1 := Lib.hid F1
  clear F1 ho1 hb1
  have f_0 := f_f_1.out.x0
  have f_1 := f_f_1.out.x1
  obtain ⟨ys, hys⟩ : ∃ ys, ys = famDeg m zs := ⟨_, rfl⟩
  have hyl : ys.length ≤ 1048576 := by rw [hys]; exact famDeg_len m zs
  have HYS := Lib.hid hys
  clear hys
  go_wp2_with fail
  refine (implDegrees_any m a1 c1 zs _ f_f_1.out.ints (HT.out.below B1.out HT.out.lt) hln).mono ?_
  rw [← HYS.out]
  rintro e w2 ⟨a2, c2, rfl, ho2, hb2⟩
  have G2 := Lib.hid (own_ints ho2)
  have B2 := Lib.hid (B1.out.trans (hb2.mono B1.out.size))
  have f_f_2 := Lib.hid (f_f_1.out.step hb2)
  clear ho2 hb2 B1 f_f_1
  clear f_0 f_1
  have f_0 := f_f_2.out.x0
  have f_1 := f_f_2.out.x1
  go_wp2_with fail
  refine (specDegrees_any m a1 c1 zs _ f_f_2.out.ints hln).mono ?_
  rw [← HYS.out]
  rintro e w3 ⟨a3, c3, rfl, ho3, hb3⟩
  have G3 := Lib.hid (own_ints ho3)
  have B3 := Lib.hid (B2.out.trans (hb3.mono B2.out.size))
  have f_f_3 := Lib.hid (f_f_2.out.step hb3)
  have l_out_3 := Lib.hid (G2.out.step hb3)
  clear ho3 hb3 B2 f_f_2 G2
  clear f_0 f_1
  cases hd : famIn m zs
  · clear hd HYS
    go_wp2_with fail
    refine (sameInts_any _ _ _ _ _ _ _ l_out_3.out G3.out hyl hyl).mono ?_
    rintro e w4 ⟨rfl, hb4⟩
    rw [sameB_refl]
    have B4 := Lib.hid (B3.out.trans (hb4.mono B3.out.size))
    have f_f_4 := Lib.hid (f_f_3.out.step hb4)
    have l_out_4 := Lib.hid (l_out_3.out.step hb4)
    have l_want_4 := Lib.hid (G3.out.step hb4)
    clear hb4 B3 f_f_3 l_out_3 G3
    go_wp2_with fail
    refine (sameInts_any _ _ _ _ _ _ _ l_out_4.out l_want_4.out hyl hyl).mono ?_
    rintro e w5 ⟨rfl, hb5⟩
    rw [sameB_refl]
    have B5 := Lib.hid (B4.out.trans (hb5.mono B4.out.size))
    have f_f_5 := Lib.hid (f_f_4.out.step hb5)
    have l_out_5 := Lib.hid (l_out_4.out.step hb5)
    have l_want_5 := Lib.hid (l_want_4.out.step hb5)
    clear hb5 B4 f_f_4 l_out_4 l_want_4
    go_wp2
    go_ret
    exact ⟨rfl, B5.out⟩
  · have HD := Lib.hid hd
    clear hd
    go_wp2_with fail
    refine (sameInts_any _ _ _ _ _ _ _ l_out_3.out G3.out hyl hyl).mono ?_
    rintro e w4 ⟨rfl, hb4⟩
    rw [sameB_refl]
    have B4 := Lib.hid (B3.out.trans (hb4.mono B3.out.size))
    have f_f_4 := Lib.hid (f_f_3.out.step hb4)
    have l_out_4 := Lib.hid (l_out_3.out.step hb4)
    have l_want_4 := Lib.hid (G3.out.step hb4)
    clear hb4 B3 f_f_3 l_out_3 G3
    have f_0 := f_f_4.out.x0
    have f_1 := f_f_4.out.x1
    clear l_want_4
    obtain ⟨M, hM⟩ : ∃ M, M = dualM m zs := ⟨_, rfl⟩
    obtain ⟨es, hes⟩ : ∃ es, es = dualZ m zs := ⟨_, rfl⟩
    have hel : es.length ≤ 1048576 := by rw [hes]; exact dualZ_len m zs
    obtain ⟨xs, hxs⟩ : ∃ xs, xs = sizesZ M es := ⟨_, rfl⟩
    have HXS := Lib.hid hxs
    have HM := Lib.hid hM
    have HES := Lib.hid hes
    have hxl : xs.length ≤ 1048576 := by rw [hxs]; unfold sizesZ; split <;> simp; exact hel
    have HE : Hid (dualIn m zs = true → famIn M es = true ∧ xs = ys) := Lib.hid (by rw [hxs, hM, hes, HYS.out]; exact degrees_facts HD.out)
    clear hM hes hxs
    go_wp2_with fail
    refine (implDual_any m a1 c1 zs _ f_f_4.out.ints (HT.out.below B4.out HT.out.lt) hln).mono ?_
    rw [← HM.out]
    rw [← HES.out]
    rintro e w5 ⟨a5, c5, rfl, ho5, hb5⟩
    have F5 := FB.start (m := M) (c := c5) (own_ints ho5)
    have hb5x := hb5.trans ((below1 w5 (.cells #[.int .i64 (M), .slice a5 (es).length c5] 25)).mono hb5.size)
    have B5 := Lib.hid (B4.out.trans (hb5x.mono B4.out.size))
    have f_f_5 := Lib.hid (f_f_4.out.step hb5x)
    have l_out_5 := Lib.hid (l_out_4.out.step hb5x)
    have f_d_5 := Lib.hid F5
    clear F5 ho5 hb5 hb5x B4 f_f_4 l_out_4
    clear f_0 f_1
    have d_0 := f_d_5.out.x0
    have d_1 := f_d_5.out.x1
    go_wp2_with fail
    refine (implSizes_any M a5 c5 es _ f_d_5.out.ints hel).mono ?_
    rw [← HXS.out]
    rintro e w6 ⟨a6, c6, rfl, ho6, hb6⟩
    have G6 := Lib.hid (own_ints ho6)
    have B6 := Lib.hid (B5.out.trans (hb6.mono B5.out.size))
    have f_f_6 := Lib.hid (f_f_5.out.step hb6)
    have f_d_6 := Lib.hid (f_d_5.out.step hb6)
    have l_out_6 := Lib.hid (l_out_5.out.step hb6)
    clear ho6 hb6 B5 f_f_5 f_d_5 l_out_5
    clear d_0 d_1
    cases hdd : dualIn m zs
    · clear hdd HE HYS HM HES HXS
      go_wp2
      go_ret
      exact ⟨rfl, B6.out⟩
    · obtain ⟨hfe, hxy⟩ := HE.out hdd
      have HXY := Lib.hid hxy
      have HFE := Lib.hid hfe
      clear hdd hfe hxy HE
      rw [HFE.out]
      go_wp2_with fail
      refine (sameInts_any _ _ _ _ xs ys _ G6.out l_out_6.out hxl hyl).mono ?_
      rintro e w7 ⟨rfl, hb7⟩
      rw [HXY.out]
      rw [sameB_refl]
      have B7 := Lib.hid (B6.out.trans (hb7.mono B6.out.size))
      have f_f_7 := Lib.hid (f_f_6.out.step hb7)
      have f_d_7 := Lib.hid (f_d_6.out.step hb7)
      have l_out_7 := Lib.hid (l_out_6.out.step hb7)
      have l_x_7 := Lib.hid (G6.out.step hb7)
      clear hb7 B6 f_f_6 f_d_6 l_out_6 G6
      go_wp2
      go_ret
      exact ⟨rfl, B7.out⟩

end Go.Proofs.YtgpgocijacgkhaaDoor
