/- It is proved that the call of the law FnNamed returns true; conditions: those of each statement. -/
import Derived.Test.YtgpgocijacgkhaaDoorRows
import Derived.WalkKit
import Derived.WalkSpells
import Derived.ProofKit
import Derived.OpenShut
import Derived.ShutString
import Derived.ChangeOld
import Derived.Below
import Derived.Deep.RegionHeld3
import Derived.Deep.QuietTactic
import Derived.BigQuiet
import Derived.Lib.Hide
import Derived.Lib.SmallJoins
import Derived.Outline
import Derived.Laws.MakeOwn
import Derived.Laws.OwnMore
import Derived.IntWalk
import Derived.Deep.RegionLaw
import Derived.Deep.AppendLies
import Derived.Deep.RegionWith
import Derived.Lib.AppendZeros
import Derived.Maps.AppendAt
import Derived.OwnWalk
import Derived.RangeFuncNested
import Derived.RangeFuncBound
import Derived.RangeFuncCalls
import Derived.RangeFuncLeaves
import Derived.RangeFuncBox
import Derived.Shelf.Abstract
import Derived.Shelf.RegionOpen
import Derived.OwnWalkIn
import Derived.TacticsInMore
import Derived.LoopNIn
import Derived.LoopIn
import Derived.StillTail
import Derived.StillTactics
import Derived.OrdersIn
import Derived.TacticsIn
import Derived.Shelf.Spec.TrailingZeros
import Derived.StillTailTactics
import Derived.Test.YtgpgocijacgkhaaDoorRaab
import Derived.Test.YtgpgocijacgkhaaDoorDb
import Derived.Test.YtgpgocijacgkhaaDoorRaag
import Derived.Test.YtgpgocijacgkhaaDoorDe
import Derived.Test.YtgpgocijacgkhaaDoorDo
import Derived.Test.YtgpgocijacgkhaaDoorRaah
import Derived.Test.YtgpgocijacgkhaaDoorNf
import Derived.Test.YtgpgocijacgkhaaDoorNg
import Derived.Test.YtgpgocijacgkhaaDoorPq
import Derived.Test.YtgpgocijacgkhaaDoorRaac
import Derived.Test.YtgpgocijacgkhaaDoorTb
import Derived.Test.YtgpgocijacgkhaaDoorTc
import Derived.Test.YtgpgocijacgkhaaDoorTd
import Derived.Test.YtgpgocijacgkhaaDoorRaaz
namespace Go.Proofs.YtgpgocijacgkhaaDoor
open Go.RowKit

set_option maxRecDepth 100000 in
set_option maxHeartbeats 8000000 in
theorem walkFnNamed (a : Option Addr) (n cap : Nat) (w : World) (hb : Bys w w.heap.size a n) (hT : Tab w) (hn : n ≤ 1048576) (hc : n ≤ cap) (hc2 : cap ≤ 9223372036854775807) :
    Calls Tryd.prog 5 #[.slice a n cap] w fun e w' => e = .returned (.bool true) ∧ Below w.heap.size w w' := by
  have HBy := Lib.hid hb
  have HT := Lib.hid hT
  clear hb hT
  go_enter Tryd.func5, Tryd.ntmps5
  go_wp2_with fail
  refine (drawNamed_any a n cap w HBy.out hn hc hc2).mono ?_
  rintro e w1 ⟨m, a1, zs, c1, pa, ps, pc, rfl, ⟨hl, hpl0⟩, ho1, hop, hb1⟩
  have F1 := FB.start (m := m) (c := c1) (own_ints ho1)
  have B1 := Lib.hid (hb1.trans ((below1 w1 (.cells #[.int .i64 m, .slice a1 zs.length c1] 25)).mono hb1.size))
  have hln : zs.length ≤ 1048576 := by omega
  have f_f_1 := Lib.hid F1
  have l_p_1 := Lib.hid ((own_ints hop).step (below1 w1 (.cells #[.int .i64 m, .slice a1 zs.length c1] 25)))
  have hpl : ps.length ≤ 1048576 := by omega
  clear F1 ho1 hb1 hop
  have f_0 := f_f_1.out.x0
  have f_1 := f_f_1.out.x1
  obtain ⟨M, hM⟩ : ∃ M, M = namM m zs ps := ⟨_, rfl⟩
  obtain ⟨ys, hys⟩ : ∃ ys, ys = namZ m zs ps := ⟨_, rfl⟩
  have hyl : ys.length ≤ 1048576 := by rw [hys]; exact namZ_len m zs ps hln
  have HM := Lib.hid hM
  have HYS := Lib.hid hys
  clear hM hys
  go_wp2_with fail
  refine (implNamed_any m a1 pa c1 pc zs ps _ f_f_1.out.ints l_p_1.out hln hpl (HT.out.below B1.out HT.out.lt)).mono ?_
  rw [← HM.out]
  rw [← HYS.out]
  rintro e w2 ⟨a2, c2, rfl, ho2, hb2⟩
  have F2 := FB.start (m := M) (c := c2) (own_ints ho2)
  have hb2x := hb2.trans ((below1 w2 (.cells #[.int .i64 (M), .slice a2 (ys).length c2] 25)).mono hb2.size)
  have B2 := Lib.hid (B1.out.trans (hb2x.mono B1.out.size))
  have f_f_2 := Lib.hid (f_f_1.out.step hb2x)
  have l_p_2 := Lib.hid (l_p_1.out.step hb2x)
  have f_out_2 := Lib.hid F2
  clear F2 ho2 hb2 hb2x B1 f_f_1 l_p_1
  clear f_0 f_1
  have f_0 := f_f_2.out.x0
  have f_1 := f_f_2.out.x1
  go_wp2_with fail
  refine (specNamed_any m a1 pa c1 pc zs ps _ f_f_2.out.ints l_p_2.out hln hpl).mono ?_
  rw [← HM.out]
  rw [← HYS.out]
  rintro e w3 ⟨a3, c3, rfl, ho3, hb3⟩
  have F3 := FB.start (m := M) (c := c3) (own_ints ho3)
  have hb3x := hb3.trans ((below1 w3 (.cells #[.int .i64 (M), .slice a3 (ys).length c3] 25)).mono hb3.size)
  have B3 := Lib.hid (B2.out.trans (hb3x.mono B2.out.size))
  have f_f_3 := Lib.hid (f_f_2.out.step hb3x)
  have f_out_3 := Lib.hid (f_out_2.out.step hb3x)
  have l_p_3 := Lib.hid (l_p_2.out.step hb3x)
  have f_want_3 := Lib.hid F3
  clear F3 ho3 hb3 hb3x B2 f_f_2 f_out_2 l_p_2
  clear f_0 f_1
  have out_0 := f_out_3.out.x0
  have out_1 := f_out_3.out.x1
  have want_0 := f_want_3.out.x0
  have want_1 := f_want_3.out.x1
  cases hd : namIn m zs ps
  · clear hd HM HYS
    go_wp2_with fail
    refine (sameFamily_any _ _ _ _ _ _ _ _ _ f_out_3.out.ints f_want_3.out.ints hyl hyl).mono ?_
    rintro e w4 ⟨rfl, hb4⟩
    rw [sameF_self]
    have B4 := Lib.hid (B3.out.trans (hb4.mono B3.out.size))
    have f_f_4 := Lib.hid (f_f_3.out.step hb4)
    have f_out_4 := Lib.hid (f_out_3.out.step hb4)
    have f_want_4 := Lib.hid (f_want_3.out.step hb4)
    have l_p_4 := Lib.hid (l_p_3.out.step hb4)
    clear hb4 B3 f_f_3 f_out_3 f_want_3 l_p_3
    clear out_0 out_1
    clear want_0 want_1
    have out_0 := f_out_4.out.x0
    have out_1 := f_out_4.out.x1
    have want_0 := f_want_4.out.x0
    have want_1 := f_want_4.out.x1
    go_wp2_with fail
    refine (sameFamily_any _ _ _ _ _ _ _ _ _ f_out_4.out.ints f_want_4.out.ints hyl hyl).mono ?_
    rintro e w5 ⟨rfl, hb5⟩
    rw [sameF_self]
    have B5 := Lib.hid (B4.out.trans (hb5.mono B4.out.size))
    have f_f_5 := Lib.hid (f_f_4.out.step hb5)
    have f_out_5 := Lib.hid (f_out_4.out.step hb5)
    have f_want_5 := Lib.hid (f_want_4.out.step hb5)
    have l_p_5 := Lib.hid (l_p_4.out.step hb5)
    clear hb5 B4 f_f_4 f_out_4 f_want_4 l_p_4
    clear out_0 out_1
    clear want_0 want_1
    go_wp2
    go_ret
    exact ⟨rfl, B5.out⟩
  · have HD := Lib.hid hd
    clear hd
    go_wp2_with fail
    refine (sameFamily_any _ _ _ _ _ _ _ _ _ f_out_3.out.ints f_want_3.out.ints hyl hyl).mono ?_
    rintro e w4 ⟨rfl, hb4⟩
    rw [sameF_self]
    have B4 := Lib.hid (B3.out.trans (hb4.mono B3.out.size))
    have f_f_4 := Lib.hid (f_f_3.out.step hb4)
    have f_out_4 := Lib.hid (f_out_3.out.step hb4)
    have f_want_4 := Lib.hid (f_want_3.out.step hb4)
    have l_p_4 := Lib.hid (l_p_3.out.step hb4)
    clear hb4 B3 f_f_3 f_out_3 f_want_3 l_p_3
    clear out_0 out_1
    clear want_0 want_1
    have f_0 := f_f_4.out.x0
    have f_1 := f_f_4.out.x1
    clear f_want_4
    have hfm : famIn m zs = true := by have h := HD.out; simp only [namIn, Bool.and_eq_true] at h; exact h.1
    have hm1 : 1 ≤ m := (famIn_out hfm).1
    have hm6 : m ≤ 6 := (famIn_out hfm).2.1
    clear hfm
    obtain ⟨k0, hk0⟩ : ∃ k0 : Nat, m = (k0 : Int) := ⟨m.toNat, by omega⟩
    subst hk0
    obtain ⟨qs, hqs⟩ : ∃ qs, qs = sizesZ (k0 : Int) zs := ⟨_, rfl⟩
    obtain ⟨cs, hcs⟩ : ∃ cs, cs = famDeg (k0 : Int) zs := ⟨_, rfl⟩
    obtain ⟨ds, hds⟩ : ∃ ds, ds = famDeg (k0 : Int) ys := ⟨_, rfl⟩
    have HF : Hid (M = (k0 : Int) ∧ famIn (k0 : Int) zs = true ∧ famIn (k0 : Int) ys = true ∧ sizesZ (k0 : Int) ys = qs ∧ ps.length = k0 ∧ ∀ v, v < k0 → 0 ≤ ps[v]?.getD 0 ∧ ps[v]?.getD 0 < (k0 : Int) ∧ (degL k0 (allMem ys))[(ps[v]?.getD 0).toNat]?.getD 0 = (degL k0 (allMem zs))[v]?.getD 0) := Lib.hid (by rw [hqs, HM.out, HYS.out]; exact named_facts HD.out)
    have HCD : Hid (cs = degL k0 (allMem zs) ∧ ds = degL k0 (allMem ys)) := Lib.hid ⟨by rw [hcs, famDeg, if_pos HF.out.2.1]; rfl, by rw [hds, famDeg, if_pos HF.out.2.2.1]; rfl⟩
    have HQS := Lib.hid hqs
    have HCS := Lib.hid hcs
    have HDS := Lib.hid hds
    have hql : qs.length ≤ 1048576 := by rw [hqs]; unfold sizesZ; split <;> simp; exact hln
    clear hqs hcs hds
    have HMk := Lib.hid HF.out.1
    go_wp2_with fail
    refine (implSizes_any (k0 : Int) a1 c1 zs _ f_f_4.out.ints hln).mono ?_
    rw [HF.out.2.1]
    rw [← HQS.out]
    rintro e w5 ⟨a5, c5, rfl, ho5, hb5⟩
    have G5 := Lib.hid (own_ints ho5)
    have B5 := Lib.hid (B4.out.trans (hb5.mono B4.out.size))
    have f_f_5 := Lib.hid (f_f_4.out.step hb5)
    have f_out_5 := Lib.hid (f_out_4.out.step hb5)
    have l_p_5 := Lib.hid (l_p_4.out.step hb5)
    clear ho5 hb5 B4 f_f_4 f_out_4 l_p_4
    clear f_0 f_1
    have out_0 := f_out_5.out.x0
    have out_1 := f_out_5.out.x1
    rw [HMk.out]
    rw [HMk.out] at out_0
    go_wp2_with fail
    refine (implSizes_any (k0 : Int) a2 c2 ys _ f_out_5.out.ints hyl).mono ?_
    rw [HF.out.2.2.1]
    rw [HF.out.2.2.2.1]
    rintro e w6 ⟨a6, c6, rfl, ho6, hb6⟩
    have G6 := Lib.hid (own_ints ho6)
    have B6 := Lib.hid (B5.out.trans (hb6.mono B5.out.size))
    have f_f_6 := Lib.hid (f_f_5.out.step hb6)
    have f_out_6 := Lib.hid (f_out_5.out.step hb6)
    have l_p_6 := Lib.hid (l_p_5.out.step hb6)
    have l_la_6 := Lib.hid (G5.out.step hb6)
    clear ho6 hb6 B5 f_f_5 f_out_5 l_p_5 G5
    clear out_0 out_1
    have f_0 := f_f_6.out.x0
    have f_1 := f_f_6.out.x1
    go_wp2_with fail
    refine (implDegrees_any (k0 : Int) a1 c1 zs _ f_f_6.out.ints (HT.out.below B6.out HT.out.lt) hln).mono ?_
    rw [HF.out.2.1]
    rw [← HCS.out]
    rintro e w7 ⟨a7, c7, rfl, ho7, hb7⟩
    have G7 := Lib.hid (own_ints ho7)
    have B7 := Lib.hid (B6.out.trans (hb7.mono B6.out.size))
    have f_f_7 := Lib.hid (f_f_6.out.step hb7)
    have f_out_7 := Lib.hid (f_out_6.out.step hb7)
    have l_p_7 := Lib.hid (l_p_6.out.step hb7)
    have l_la_7 := Lib.hid (l_la_6.out.step hb7)
    have l_lb_7 := Lib.hid (G6.out.step hb7)
    clear ho7 hb7 B6 f_f_6 f_out_6 l_p_6 l_la_6 G6
    clear f_0 f_1
    have out_0 := f_out_7.out.x0
    have out_1 := f_out_7.out.x1
    rw [HMk.out] at out_0
    go_wp2_with fail
    refine (implDegrees_any (k0 : Int) a2 c2 ys _ f_out_7.out.ints (HT.out.below B7.out HT.out.lt) hyl).mono ?_
    rw [HF.out.2.2.1]
    rw [← HDS.out]
    rintro e w8 ⟨a8, c8, rfl, ho8, hb8⟩
    have G8 := Lib.hid (own_ints ho8)
    have B8 := Lib.hid (B7.out.trans (hb8.mono B7.out.size))
    have f_f_8 := Lib.hid (f_f_7.out.step hb8)
    have f_out_8 := Lib.hid (f_out_7.out.step hb8)
    have l_p_8 := Lib.hid (l_p_7.out.step hb8)
    have l_la_8 := Lib.hid (l_la_7.out.step hb8)
    have l_lb_8 := Lib.hid (l_lb_7.out.step hb8)
    have l_lc_8 := Lib.hid (G7.out.step hb8)
    clear ho8 hb8 B7 f_f_7 f_out_7 l_p_7 l_la_7 l_lb_7 G7
    clear out_0 out_1
    have HCL : Hid (cs.length = k0) := Lib.hid (by rw [HCD.out.1, degL_length])
    have HDL : Hid (ds.length = k0) := Lib.hid (by rw [HCD.out.2, degL_length])
    have HPL : Hid (ps.length = k0) := Lib.hid HF.out.2.2.2.2.1
    have HBIT := Lib.hid HF.out.2.2.2.2.2
    have hk06 : k0 ≤ 6 := by omega
    rw [HCL.out, HDL.out, HPL.out]
    clear hl hln hyl hpl hpl0 hm1 hm6 HM HYS HQS HCS HDS
    go_wp2
    go_loopw [17] (fun i wr => ∃ v : Nat, v ≤ k0 ∧ i = .int .i64 (v : Int) ∧ Below w8.heap.size w8 wr) (fun i _ => k0 - (intOf i).toNat)
    case atStart => exact ⟨0, Nat.zero_le _, rfl, Below.refl _ _⟩
    case round =>
      obtain ⟨v, hv, rfl, hB⟩ := hrel
      by_cases hlt : v < k0
      · obtain ⟨hp0, hpk, hpe⟩ := HBIT.out v hlt
        rw [← HCD.out.1, ← HCD.out.2] at hpe
        obtain ⟨b1, o1, ha1, hb1, hc1⟩ := l_lc_8.out.at_ (k := v) (by rw [HCL.out]; exact hlt)
        obtain ⟨b3, o3, ha3, hb3, hc3⟩ := l_p_8.out.at_ (k := v) (by rw [HPL.out]; exact hlt)
        obtain ⟨q, hq⟩ : ∃ q : Nat, ps[v]?.getD 0 = (q : Int) := ⟨(ps[v]?.getD 0).toNat, by omega⟩
        rw [hq] at hp0 hpk hpe hc3
        have hqk : q < k0 := by omega
        obtain ⟨b2, o2, ha2, hb2, hc2⟩ := G8.out.at_ (k := q) (by rw [HDL.out]; exact hqk)
        simp only [Int.toNat_natCast] at hpe
        subst ha1
        subst ha2
        subst ha3
        have v1 := (hB.cell (p := ⟨b1, o1 + v, none⟩) hb1).trans hc1
        have v2 := (hB.cell (p := ⟨b2, o2 + q, none⟩) hb2).trans hc2
        have v3 := (hB.cell (p := ⟨b3, o3 + v, none⟩) hb3).trans hc3
        rw [hpe] at v2
        obtain ⟨d, hd⟩ : ∃ d, d = cs[v]?.getD 0 := ⟨_, rfl⟩
        rw [← hd] at v1 v2
        have hj0 : (0 : Int) ≤ (v : Int) := by omega
        have hj1 : (v : Int) < (k0 : Int) := by omega
        have hj2 : (0 : Int) ≤ (q : Int) := by omega
        have hj3 : (q : Int) < (k0 : Int) := by omega
        have HB := Lib.hid hB
        clear hB hc1 hc2 hc3 hd hpe hq hp0 hpk
        go_wp2
        go_quiet (fail)
        go_wp2
        go_roundw
        case rel => exact ⟨v + 1, by omega, by go_num, below_drewN HB.out _⟩
        case measure => simp [intOf]; omega
      · have LA := Lib.hid (l_la_8.out.step hB)
        have LB := Lib.hid (l_lb_8.out.step hB)
        have HB := Lib.hid (B8.out.trans (hB.mono B8.out.size))
        clear hB
        go_wp2_with fail
        refine (sameInts_any _ _ _ _ qs qs _ LA.out LB.out hql hql).mono ?_
        rintro e we ⟨rfl, hbe⟩
        rw [sameB_refl]
        have HD2 := Lib.hid (HB.out.trans (hbe.mono HB.out.size))
        clear hbe
        go_wp2
        go_ret
        exact ⟨rfl, HD2.out⟩

end Go.Proofs.YtgpgocijacgkhaaDoor
