/- It is proved that the call of the law FnPut returns true; conditions: those of each statement. -/
import Derived.Test.YtijhpfecbpkpdaaRows
import Derived.WalkKit
import Derived.WalkSpells
import Derived.ProofKit
import Derived.OpenShut
import Derived.ShutString
import Derived.ChangeOld
import Derived.Below
import Derived.Deep.RegionHeld3
import Derived.Deep.QuietTactic
import Derived.BigQuiet
import Derived.Lib.Hide
import Derived.Lib.SmallJoins
import Derived.Outline
import Derived.Laws.MakeOwn
import Derived.Laws.OwnMore
import Derived.IntWalk
import Derived.Deep.RegionLaw
import Derived.Deep.AppendLies
import Derived.Deep.RegionWith
import Derived.Lib.AppendZeros
import Derived.Maps.AppendAt
import Derived.OwnWalk
import Derived.RangeFuncNested
import Derived.RangeFuncBound
import Derived.RangeFuncCalls
import Derived.RangeFuncLeaves
import Derived.RangeFuncBox
import Derived.Shelf.Abstract
import Derived.Shelf.RegionOpen
import Derived.OwnWalkIn
import Derived.TacticsInMore
import Derived.LoopNIn
import Derived.LoopIn
import Derived.Shelf.Spec.TrailingZeros
import Derived.Test.YtijhpfecbpkpdaaB
import Derived.Test.YtijhpfecbpkpdaaC
import Derived.Test.YtijhpfecbpkpdaaD
import Derived.Test.YtijhpfecbpkpdaaDa
import Derived.Test.YtijhpfecbpkpdaaDb
import Derived.Test.YtijhpfecbpkpdaaDc
import Derived.Test.YtijhpfecbpkpdaaDd
import Derived.Test.YtijhpfecbpkpdaaDe
import Derived.Test.YtijhpfecbpkpdaaDk
import Derived.Test.YtijhpfecbpkpdaaDl
import Derived.Test.YtijhpfecbpkpdaaE
import Derived.Test.YtijhpfecbpkpdaaF
import Derived.Test.YtijhpfecbpkpdaaFb
import Derived.Test.YtijhpfecbpkpdaaG
import Derived.Test.YtijhpfecbpkpdaaGa
import Derived.Test.YtijhpfecbpkpdaaGb
import Derived.Test.YtijhpfecbpkpdaaGc
import Derived.Test.YtijhpfecbpkpdaaGd
import Derived.Test.YtijhpfecbpkpdaaGe
import Derived.Test.YtijhpfecbpkpdaaGf
import Derived.Test.YtijhpfecbpkpdaaGg
import Derived.Test.YtijhpfecbpkpdaaH
import Derived.Test.YtijhpfecbpkpdaaJ
import Derived.Test.YtijhpfecbpkpdaaK
import Derived.Test.YtijhpfecbpkpdaaL
import Derived.Test.YtijhpfecbpkpdaaN
import Derived.Test.YtijhpfecbpkpdaaO
import Derived.Test.YtijhpfecbpkpdaaOw
import Derived.Test.YtijhpfecbpkpdaaP
import Derived.Test.YtijhpfecbpkpdaaPzA
import Derived.Test.YtijhpfecbpkpdaaR
import Derived.Test.YtijhpfecbpkpdaaSa
import Derived.Test.YtijhpfecbpkpdaaSb
import Derived.Test.YtijhpfecbpkpdaaSc
import Derived.Test.YtijhpfecbpkpdaaT
import Derived.Test.YtijhpfecbpkpdaaTO
import Derived.Test.YtijhpfecbpkpdaaTP
import Derived.Test.YtijhpfecbpkpdaaTa
import Derived.Test.YtijhpfecbpkpdaaTb
import Derived.Test.YtijhpfecbpkpdaaU
import Derived.Test.YtijhpfecbpkpdaaUa
import Derived.Test.YtijhpfecbpkpdaaX
import Derived.Test.YtijhpfecbpkpdaaY
import Derived.Test.YtijhpfecbpkpdaaZa
import Derived.Test.YtijhpfecbpkpdaaZb
import Derived.Test.YtijhpfecbpkpdaaZc
import Derived.Test.YtijhpfecbpkpdaaZd
namespace Go.Proofs.Ytijhpfecbpkpdaa
open Go.RowKit

theorem put_facts {m x : Int} {zs : List Int} (h : putIn m zs x = true) : dropIn (putM m zs x) (putZ m zs x) (zs.length : Int) = true ∧ dropM (putM m zs x) (putZ m zs x) (zs.length : Int) = m ∧ dropZ (putM m zs x) (putZ m zs x) (zs.length : Int) = zs := by
  have e1 : putM m zs x = m := by simp [putM, h]
  have e2 : putZ m zs x = zs ++ [x] := by simp [putZ, h]
  have hh := h
  simp only [putIn, Bool.and_eq_true, Bool.not_eq_true', decide_eq_false_iff_not] at hh
  obtain ⟨hf, hx, hl⟩ := hh
  obtain ⟨h1, h2, h3, h4⟩ := famIn_out hf
  have hf2 : famIn m (zs ++ [x]) = true := by
    simp only [famIn, Bool.and_eq_true, decide_eq_true_eq, List.all_eq_true, List.mem_append, List.mem_singleton, List.length_append, List.length_singleton]
    refine ⟨inB_true h1 h2, by omega, ?_⟩
    rintro z (hz | rfl)
    · exact inB_true (h4 z hz).1 (h4 z hz).2
    · exact hx
  have hd : dropIn m (zs ++ [x]) (zs.length : Int) = true := by
    rw [dropIn, hf2, Bool.true_and, List.length_append, List.length_singleton]
    exact inB_true (by omega) (by omega)
  rw [e1, e2]
  refine ⟨hd, by rw [dropM, if_pos hd], ?_⟩
  rw [dropZ, if_pos hd]
  simp [without]

set_option maxRecDepth 100000 in
set_option maxHeartbeats 8000000 in
theorem walkFnPut (a : Option Addr) (n cap : Nat) (w : World) (hb : Bys w w.heap.size a n) (hn : n ≤ 1048576) (hc : n ≤ cap) (hc2 : cap ≤ 9223372036854775807) :
    Calls Try.prog 5 #[.slice a n cap] w fun e w' => e = .returned (.bool true) ∧ Below w.heap.size w w' := by
  have HBy := Lib.hid hb
  clear hb
  go_enter Try.func5, Try.ntmps5
  go_wp2_with fail
  refine (drawPut_any a n cap w HBy.out hn hc hc2).mono ?_
  rintro e w1 ⟨m, a1, zs, c1, x, rfl, hl, ho1, hb1⟩
  have F1 := FB.start (m := m) (c := c1) (own_ints ho1)
  have B1 := Lib.hid (hb1.trans ((below1 w1 (.cells #[.int .i64 m, .slice a1 zs.length c1] 25)).mono hb1.size))
  have hln : zs.length ≤ 1048576 := by omega
  have f_f_1 := Lib.hid F1
  clear F1 ho1 hb1
  have f_0 := f_f_1.out.x0
  have f_1 := f_f_1.out.x1
  obtain ⟨M, hM⟩ : ∃ M, M = putM m zs x := ⟨_, rfl⟩
  obtain ⟨ys, hys⟩ : ∃ ys, ys = putZ m zs x := ⟨_, rfl⟩
  have hyl : ys.length ≤ 1048576 := by rw [hys]; exact putZ_len m zs x hln
  have HI := Lib.hid (fun W hz => implPut_any m a1 c1 zs x W hz hln)
  have HSp := Lib.hid (fun W hz => specPut_any m a1 c1 zs x W hz hln)
  rw [← hM, ← hys] at HI HSp
  have HM := Lib.hid hM
  have HYS := Lib.hid hys
  clear hM hys
  go_wp2_with fail
  refine (HI.out _ f_f_1.out.ints).mono ?_
  rintro e w2 ⟨a2, c2, rfl, ho2, hb2⟩
  have hcy : ys.length ≤ c2 := own_cap ho2
  have F2 := FB.start (m := M) (c := c2) (own_ints ho2)
  have hb2x := hb2.trans ((below1 w2 (.cells #[.int .i64 (M), .slice a2 (ys).length c2] 25)).mono hb2.size)
  have B2 := Lib.hid (B1.out.trans (hb2x.mono B1.out.size))
  have f_f_2 := Lib.hid (f_f_1.out.step hb2x)
  have f_out_2 := Lib.hid F2
  clear F2 ho2 hb2 hb2x B1 f_f_1
  clear f_0 f_1
  have f_0 := f_f_2.out.x0
  have f_1 := f_f_2.out.x1
  go_wp2_with fail
  refine (HSp.out _ f_f_2.out.ints).mono ?_
  rintro e w3 ⟨a3, c3, rfl, ho3, hb3⟩
  have F3 := FB.start (m := M) (c := c3) (own_ints ho3)
  have hb3x := hb3.trans ((below1 w3 (.cells #[.int .i64 (M), .slice a3 (ys).length c3] 25)).mono hb3.size)
  have B3 := Lib.hid (B2.out.trans (hb3x.mono B2.out.size))
  have f_f_3 := Lib.hid (f_f_2.out.step hb3x)
  have f_out_3 := Lib.hid (f_out_2.out.step hb3x)
  have f_want_3 := Lib.hid F3
  clear F3 ho3 hb3 hb3x B2 f_f_2 f_out_2
  clear f_0 f_1
  have out_0 := f_out_3.out.x0
  have out_1 := f_out_3.out.x1
  have want_0 := f_want_3.out.x0
  have want_1 := f_want_3.out.x1
  clear HI HSp
  cases hd : putIn m zs x
  · clear hd HM HYS
    go_wp2_with fail
    refine (sameFamily_any _ _ _ _ _ _ _ _ _ f_out_3.out.ints f_want_3.out.ints hyl hyl).mono ?_
    rintro e w4 ⟨rfl, hb4⟩
    rw [sameF_self]
    have B4 := Lib.hid (B3.out.trans (hb4.mono B3.out.size))
    have f_f_4 := Lib.hid (f_f_3.out.step hb4)
    have f_out_4 := Lib.hid (f_out_3.out.step hb4)
    have f_want_4 := Lib.hid (f_want_3.out.step hb4)
    clear hb4 B3 f_f_3 f_out_3 f_want_3
    clear want_0 want_1
    clear out_0 out_1
    have out_0 := f_out_4.out.x0
    have out_1 := f_out_4.out.x1
    have want_0 := f_want_4.out.x0
    have want_1 := f_want_4.out.x1
    go_wp2_with fail
    refine (sameFamily_any _ _ _ _ _ _ _ _ _ f_out_4.out.ints f_want_4.out.ints hyl hyl).mono ?_
    rintro e w5 ⟨rfl, hb5⟩
    rw [sameF_self]
    have B5 := Lib.hid (B4.out.trans (hb5.mono B4.out.size))
    have f_f_5 := Lib.hid (f_f_4.out.step hb5)
    have f_out_5 := Lib.hid (f_out_4.out.step hb5)
    have f_want_5 := Lib.hid (f_want_4.out.step hb5)
    clear hb5 B4 f_f_4 f_out_4 f_want_4
    clear want_0 want_1
    clear out_0 out_1
    go_wp2
    go_ret
    exact ⟨rfl, B5.out⟩
  · have HD := Lib.hid hd
    clear hd
    go_wp2_with fail
    refine (sameFamily_any _ _ _ _ _ _ _ _ _ f_out_3.out.ints f_want_3.out.ints hyl hyl).mono ?_
    rintro e w4 ⟨rfl, hb4⟩
    rw [sameF_self]
    have B4 := Lib.hid (B3.out.trans (hb4.mono B3.out.size))
    have f_f_4 := Lib.hid (f_f_3.out.step hb4)
    have f_out_4 := Lib.hid (f_out_3.out.step hb4)
    have f_want_4 := Lib.hid (f_want_3.out.step hb4)
    clear hb4 B3 f_f_3 f_out_3 f_want_3
    clear want_0 want_1
    clear out_0 out_1
    clear f_want_4
    have HE : Hid (dropIn M ys (zs.length : Int) = true ∧ dropM M ys (zs.length : Int) = m ∧ dropZ M ys (zs.length : Int) = zs) := Lib.hid (by rw [HM.out, HYS.out]; exact put_facts HD.out)
    have out_0 := f_out_4.out.x0
    have out_1 := f_out_4.out.x1
    have f_0 := f_f_4.out.x0
    have f_1 := f_f_4.out.x1
    go_wp2_with fail
    refine (implDrop_any M a2 c2 ys (zs.length : Int) _ f_out_4.out.ints hyl hcy).mono ?_
    rw [HE.out.1]
    rw [HE.out.2.1]
    rw [HE.out.2.2]
    rintro e w5 ⟨a5, c5, rfl, ho5, hb5⟩
    have F5 := FB.start (m := m) (c := c5) (own_ints ho5)
    have hb5x := hb5.trans ((below1 w5 (.cells #[.int .i64 (m), .slice a5 (zs).length c5] 25)).mono hb5.size)
    have B5 := Lib.hid (B4.out.trans (hb5x.mono B4.out.size))
    have f_f_5 := Lib.hid (f_f_4.out.step hb5x)
    have f_out_5 := Lib.hid (f_out_4.out.step hb5x)
    have f_x_5 := Lib.hid F5
    clear F5 ho5 hb5 hb5x B4 f_f_4 f_out_4
    clear f_0 f_1
    clear out_0 out_1
    have x_0 := f_x_5.out.x0
    have x_1 := f_x_5.out.x1
    have f_0 := f_f_5.out.x0
    have f_1 := f_f_5.out.x1
    go_wp2_with fail
    refine (sameFamily_any _ _ _ _ _ _ _ _ _ f_x_5.out.ints f_f_5.out.ints hln hln).mono ?_
    rintro e w6 ⟨rfl, hb6⟩
    rw [sameF_self]
    have B6 := Lib.hid (B5.out.trans (hb6.mono B5.out.size))
    have f_f_6 := Lib.hid (f_f_5.out.step hb6)
    have f_out_6 := Lib.hid (f_out_5.out.step hb6)
    have f_x_6 := Lib.hid (f_x_5.out.step hb6)
    clear hb6 B5 f_f_5 f_out_5 f_x_5
    clear f_0 f_1
    clear x_0 x_1
    go_wp2
    go_ret
    exact ⟨rfl, B6.out⟩

end Go.Proofs.Ytijhpfecbpkpdaa
