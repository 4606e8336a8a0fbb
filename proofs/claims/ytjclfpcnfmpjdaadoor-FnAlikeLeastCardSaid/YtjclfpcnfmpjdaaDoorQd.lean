/- It is proved that the call of the law FnAlikeLeast returns true; conditions: those of each statement. -/
import Derived.RowKit
import Derived.Laws.CopyRow
import Derived.Lib.SlBuf
import Derived.Deep.QuietTactic
import Derived.RangeFuncNested
import Derived.RangeFuncBound
import Derived.RangeFuncCalls
import Derived.RangeFuncLeaves
import Derived.RangeFuncBox
import Derived.RangeFuncWrites
import Derived.StillTailTactics
import Derived.Maps.OwnIn
import Derived.Maps.Ext
import Derived.DeepKeys4
import Derived.MapKept
import Derived.Test.YtjclfpcnfmpjdaaDoorRows
import Derived.WalkKit
import Derived.WalkSpells
import Derived.ProofKit
import Derived.OpenShut
import Derived.ShutString
import Derived.ChangeOld
import Derived.Below
import Derived.Deep.RegionHeld3
import Derived.BigQuiet
import Derived.Lib.Hide
import Derived.Lib.SmallJoins
import Derived.Outline
import Derived.Laws.MakeOwn
import Derived.Laws.OwnMore
import Derived.IntWalk
import Derived.Maps.AppendAt
import Derived.Sort.MapsRangeIn
import Derived.Deep.RegionLaw
import Derived.Deep.AppendLies
import Derived.Lib.AppendZeros
import Derived.OwnWalk
import Derived.Lib.SlicesCompact
import Derived.Lib.OwnBridge
import Derived.OrdersIn
import Derived.TacticsIn
import Derived.Shelf.Sort.Plain
import Derived.Shelf.Slices.In.SortNone
import Derived.Shelf.Slices.CompactI
import Derived.Ground.Names2Prog
import Derived.Shelf.Abstract
import Derived.Shelf.RegionOpen
import Derived.OwnWalkIn
import Derived.TacticsInMore
import Derived.LoopNIn
import Derived.LoopIn
import Derived.StillTail
import Derived.StillTactics
import Derived.Shelf.Spec.TrailingZeros
import Derived.Test.YtjclfpcnfmpjdaaDoorCa
import Derived.Test.YtjclfpcnfmpjdaaDoorCc
import Derived.Test.YtjclfpcnfmpjdaaDoorCe
import Derived.Test.YtjclfpcnfmpjdaaDoorCh
import Derived.Test.YtjclfpcnfmpjdaaDoorMo
import Derived.Test.YtjclfpcnfmpjdaaDoorDe
import Derived.Test.YtjclfpcnfmpjdaaDoorFb
import Derived.Test.YtjclfpcnfmpjdaaDoorQa
import Derived.Test.YtjclfpcnfmpjdaaDoorQc
namespace Go.Proofs.YtjclfpcnfmpjdaaDoor
open Go.RowKit

set_option maxRecDepth 100000 in
set_option maxHeartbeats 8000000 in
theorem walkFnAlikeLeast (a : Option Addr) (n cap : Nat) (w : World) (hb : Bys w w.heap.size a n) (hT : Tab w) (hn : n ≤ 1048576) (hc : n ≤ cap) (hc2 : cap ≤ 9223372036854775807) :
    Calls Tryd.prog 4 #[.slice a n cap] w fun e w' => e = .returned (.bool true) ∧ Below w.heap.size w w' := by
  have HBy := Lib.hid hb
  have HT := Lib.hid hT
  clear hb hT
  go_enter Tryd.func4, Tryd.ntmps4
  go_wp2_with fail
  refine (drawAlikeLeast_any a n cap w HBy.out hn hc hc2).mono ?_
  rintro e w1 ⟨m, a1, zs, c1, rfl, hl, ho1, hb1⟩
  have F1 := FB.start (m := m) (c := c1) (own_ints ho1)
  have B1 := Lib.hid (hb1.trans ((below1 w1 (.cells #[.int .i64 m, .slice a1 zs.length c1] 25)).mono hb1.size))
  have hln : zs.length ≤ 1048576 := by omega
  have f_1 := Lib.hid F1
  clear F1 ho1 hb1
  obtain ⟨M, hM⟩ : ∃ M, M = aleastM m zs := ⟨_, rfl⟩
  obtain ⟨ys, hys⟩ : ∃ ys, ys = aleastL m zs := ⟨_, rfl⟩
  have hyl : ys.length ≤ 1048576 := by rw [hys]; exact aleastL_len m zs
  have HM := Lib.hid hM
  have HYS := Lib.hid hys
  clear hM hys
  have x0 := f_1.out.x0
  have x1 := f_1.out.x1
  go_wp2_with fail
  refine (implALeast_any m a1 c1 zs _ f_1.out.ints (HT.out.below B1.out HT.out.lt) hln).mono ?_
  rw [← HM.out, ← HYS.out]
  rintro e w2 ⟨a2, c2, rfl, ho2, hb2⟩
  have F2 := FB.start (m := M) (c := c2) (own_ints ho2)
  have hb2x := hb2.trans ((below1 w2 (.cells #[.int .i64 M, .slice a2 ys.length c2] 25)).mono hb2.size)
  have B2 := Lib.hid (B1.out.trans (hb2x.mono B1.out.size))
  have f_2 := Lib.hid (f_1.out.step hb2x)
  have g_2 := Lib.hid F2
  clear F2 ho2 hb2 hb2x B1 f_1 x0 x1
  have x0 := f_2.out.x0
  have x1 := f_2.out.x1
  go_wp2_with fail
  refine (specALeast_any m a1 c1 zs _ f_2.out.ints hln).mono ?_
  rw [← HM.out, ← HYS.out]
  rintro e w3 ⟨a3, c3, rfl, ho3, hb3⟩
  have F3 := FB.start (m := M) (c := c3) (own_ints ho3)
  have hb3x := hb3.trans ((below1 w3 (.cells #[.int .i64 M, .slice a3 ys.length c3] 25)).mono hb3.size)
  have B3 := Lib.hid (B2.out.trans (hb3x.mono B2.out.size))
  have f_3 := Lib.hid (f_2.out.step hb3x)
  have g_3 := Lib.hid (g_2.out.step hb3x)
  have h_3 := Lib.hid F3
  clear F3 ho3 hb3 hb3x B2 f_2 g_2 x0 x1
  have y0 := g_3.out.x0
  have y1 := g_3.out.x1
  have z0 := h_3.out.x0
  have z1 := h_3.out.x1
  cases hd : famIn m zs
  · clear hd HM HYS
    go_wp2_with fail
    refine (sameFamily_any _ _ _ _ _ _ _ _ _ g_3.out.ints h_3.out.ints hyl hyl).mono ?_
    rintro e w4 ⟨rfl, hb4⟩
    rw [sameF_self]
    have B4 := Lib.hid (B3.out.trans (hb4.mono B3.out.size))
    have g_4 := Lib.hid (g_3.out.step hb4)
    have h_4 := Lib.hid (h_3.out.step hb4)
    clear hb4 B3 g_3 h_3 y0 y1 z0 z1
    have y0 := g_4.out.x0
    have y1 := g_4.out.x1
    have z0 := h_4.out.x0
    have z1 := h_4.out.x1
    go_wp2_with fail
    refine (sameFamily_any _ _ _ _ _ _ _ _ _ g_4.out.ints h_4.out.ints hyl hyl).mono ?_
    rintro e w5 ⟨rfl, hb5⟩
    rw [sameF_self]
    have B5 := Lib.hid (B4.out.trans (hb5.mono B4.out.size))
    clear hb5 B4 g_4 h_4 y0 y1 z0 z1
    go_wp2
    go_ret
    exact ⟨rfl, B5.out⟩
  · have HD := Lib.hid hd
    clear hd
    go_wp2_with fail
    refine (sameFamily_any _ _ _ _ _ _ _ _ _ g_3.out.ints h_3.out.ints hyl hyl).mono ?_
    rintro e w4 ⟨rfl, hb4⟩
    rw [sameF_self]
    have B4 := Lib.hid (B3.out.trans (hb4.mono B3.out.size))
    have f_4 := Lib.hid (f_3.out.step hb4)
    have g_4 := Lib.hid (g_3.out.step hb4)
    clear hb4 B3 f_3 g_3 h_3 y0 y1 z0 z1
    have HF : Hid (M = m ∧ famIn m ys = true ∧ aleastM m ys = m ∧ aleastL m ys = ys ∧ alikeB m zs m ys = true) := Lib.hid (by rw [HM.out, HYS.out]; exact least_facts HD.out)
    obtain ⟨rfl⟩ : M = m := HF.out.1
    have y0 := g_4.out.x0
    have y1 := g_4.out.x1
    go_wp2_with fail
    refine (implALeast_any m a2 c2 ys _ g_4.out.ints (HT.out.below B4.out HT.out.lt) hyl).mono ?_
    rw [HF.out.2.2.1, HF.out.2.2.2.1, HF.out.2.1]
    rintro e w5 ⟨a5, c5, rfl, ho5, hb5⟩
    have F5 := FB.start (m := m) (c := c5) (own_ints ho5)
    have hb5x := hb5.trans ((below1 w5 (.cells #[.int .i64 m, .slice a5 ys.length c5] 25)).mono hb5.size)
    have B5 := Lib.hid (B4.out.trans (hb5x.mono B4.out.size))
    have f_5 := Lib.hid (f_4.out.step hb5x)
    have g_5 := Lib.hid (g_4.out.step hb5x)
    have h_5 := Lib.hid F5
    clear F5 ho5 hb5 hb5x B4 f_4 g_4 y0 y1
    have y0 := g_5.out.x0
    have y1 := g_5.out.x1
    have z0 := h_5.out.x0
    have z1 := h_5.out.x1
    go_wp2_with fail
    refine (sameFamily_any _ _ _ _ _ _ _ _ _ h_5.out.ints g_5.out.ints hyl hyl).mono ?_
    rintro e w6 ⟨rfl, hb6⟩
    rw [sameF_self]
    have B6 := Lib.hid (B5.out.trans (hb6.mono B5.out.size))
    have f_6 := Lib.hid (f_5.out.step hb6)
    have g_6 := Lib.hid (g_5.out.step hb6)
    clear hb6 B5 f_5 g_5 h_5 y0 y1 z0 z1
    have x0 := f_6.out.x0
    have x1 := f_6.out.x1
    have y0 := g_6.out.x0
    have y1 := g_6.out.x1
    go_wp2_with fail
    refine (implAIn_any m m a1 a2 c1 c2 zs ys _ f_6.out.ints g_6.out.ints (HT.out.below B6.out HT.out.lt) hln hyl).mono ?_
    rw [HF.out.2.2.2.2]
    rintro e w7 ⟨rfl, hb7⟩
    have B7 := Lib.hid (B6.out.trans (hb7.mono B6.out.size))
    clear hb7 B6 f_6 g_6 x0 x1 y0 y1
    go_wp2
    go_ret
    exact ⟨rfl, B7.out⟩

end Go.Proofs.YtjclfpcnfmpjdaaDoor
