/- It is proved that the call of the law FnDual returns true; conditions: those of each statement. -/
import Derived.Test.YtacglafoahmcnaaDoorRows
import Derived.WalkKit
import Derived.WalkSpells
import Derived.ProofKit
import Derived.OpenShut
import Derived.ShutString
import Derived.ChangeOld
import Derived.Below
import Derived.Deep.RegionHeld3
import Derived.Deep.QuietTactic
import Derived.BigQuiet
import Derived.Lib.Hide
import Derived.Lib.SmallJoins
import Derived.Outline
import Derived.Laws.MakeOwn
import Derived.Laws.OwnMore
import Derived.IntWalk
import Derived.Deep.RegionLaw
import Derived.Deep.AppendLies
import Derived.RangeFuncNested
import Derived.RangeFuncBound
import Derived.RangeFuncCalls
import Derived.RangeFuncLeaves
import Derived.RangeFuncBox
import Derived.Shelf.Abstract
import Derived.Shelf.RegionOpen
import Derived.OwnWalkIn
import Derived.TacticsInMore
import Derived.LoopNIn
import Derived.LoopIn
import Derived.Maps.AppendAt
import Derived.OwnWalk
import Derived.StillTail
import Derived.StillTactics
import Derived.OrdersIn
import Derived.TacticsIn
import Derived.Shelf.Spec.TrailingZeros
import Derived.StillTailTactics
import Derived.Test.YtacglafoahmcnaaDoorD
import Derived.Test.YtacglafoahmcnaaDoorDa
import Derived.Test.YtacglafoahmcnaaDoorDb
import Derived.Test.YtacglafoahmcnaaDoorDd
import Derived.Test.YtacglafoahmcnaaDoorDe
import Derived.Test.YtacglafoahmcnaaDoorDg
import Derived.Test.YtacglafoahmcnaaDoorF
import Derived.Test.YtacglafoahmcnaaDoorFb
import Derived.Test.YtacglafoahmcnaaDoorH
import Derived.Test.YtacglafoahmcnaaDoorN
import Derived.Test.YtacglafoahmcnaaDoorT
import Derived.Test.YtacglafoahmcnaaDoorUa
import Derived.Test.YtacglafoahmcnaaDoorUd
namespace Go.Proofs.YtacglafoahmcnaaDoor
open Go.RowKit

set_option maxRecDepth 100000 in
set_option maxHeartbeats 4000000 in
theorem walkFnDual (a : Option Addr) (n cap : Nat) (w : World) (hb : Bys w w.heap.size a n) (hT : Tab w) (hn : n ≤ 1048576) (hc : n ≤ cap) (hc2 : cap ≤ 9223372036854775807) :
    Calls Tryd.prog 4 #[.slice a n cap] w fun e w' => e = .returned (.bool true) ∧ Below w.heap.size w w' := by
  have HT := Lib.hid hT
  have HBy := Lib.hid hb
  clear hb hT
  go_enter Tryd.func4, Tryd.ntmps4
  go_wp2_with fail
  refine (drawDual_any a n cap w HBy.out hn hc hc2).mono ?_
  rintro e w1 ⟨m, a1, zs, c1, rfl, hl, ho1, hb1⟩
  have F1 := FB.start (m := m) (c := c1) (own_ints ho1)
  have B1 := Lib.hid (hb1.trans ((below1 w1 (.cells #[.int .i64 m, .slice a1 zs.length c1] 25)).mono hb1.size))
  have x0 := F1.x0
  have x1 := F1.x1
  have hln : zs.length ≤ 1048576 := by omega
  have HF1 := Lib.hid F1
  clear F1 ho1 hb1
  go_wp2_with fail
  refine (implDual_any m a1 c1 zs _ HF1.out.ints (HT.out.below B1.out HT.out.lt) hln).mono ?_
  rintro e w2 ⟨a2, c2, rfl, ho2, hb2⟩
  have F2 := FB.start (m := dualM m zs) (c := c2) (own_ints ho2)
  have B2 := Lib.hid (B1.out.trans ((hb2.trans ((below1 w2 (.cells #[.int .i64 (dualM m zs), .slice a2 (dualZ m zs).length c2] 25)).mono hb2.size)).mono B1.out.size))
  have HF12 := Lib.hid ((HF1.out.step hb2).step (below1 w2 (.cells #[.int .i64 (dualM m zs), .slice a2 (dualZ m zs).length c2] 25)))
  have HF2 := Lib.hid F2
  have x0 := HF12.out.x0
  have x1 := HF12.out.x1
  clear F2 ho2 hb2 HF1 B1
  go_wp2_with fail
  refine (specDual_any m a1 c1 zs _ HF12.out.ints hln).mono ?_
  rintro e w3 ⟨a3, c3, rfl, ho3, hb3⟩
  have F3 := FB.start (m := dualM m zs) (c := c3) (own_ints ho3)
  have B3 := Lib.hid (B2.out.trans ((hb3.trans ((below1 w3 (.cells #[.int .i64 (dualM m zs), .slice a3 (dualZ m zs).length c3] 25)).mono hb3.size)).mono B2.out.size))
  have HF13 := Lib.hid ((HF12.out.step hb3).step (below1 w3 (.cells #[.int .i64 (dualM m zs), .slice a3 (dualZ m zs).length c3] 25)))
  have HF23 := Lib.hid ((HF2.out.step hb3).step (below1 w3 (.cells #[.int .i64 (dualM m zs), .slice a3 (dualZ m zs).length c3] 25)))
  have HF3 := Lib.hid F3
  have x0 := HF13.out.x0
  have x1 := HF13.out.x1
  have y0 := HF23.out.x0
  have y1 := HF23.out.x1
  have z0 := HF3.out.x0
  have z1 := HF3.out.x1
  have hzl := dualZ_len m zs
  clear F3 ho3 hb3 HF12 HF2 B2
  cases hd : dualIn m zs
  · clear hd
    go_wp2_with fail
    refine (sameFamily_any _ _ _ _ _ _ _ _ _ HF23.out.ints HF3.out.ints hzl hzl).mono ?_
    rintro e w4 ⟨rfl, hb4⟩
    rw [sameF_self]
    have B4 := Lib.hid (B3.out.trans (hb4.mono B3.out.size))
    have HF24 := Lib.hid (HF23.out.step hb4)
    have HF34 := Lib.hid (HF3.out.step hb4)
    have y0 := HF24.out.x0
    have y1 := HF24.out.x1
    have z0 := HF34.out.x0
    have z1 := HF34.out.x1
    clear hb4
    go_wp2_with fail
    refine (sameFamily_any _ _ _ _ _ _ _ _ _ HF24.out.ints HF34.out.ints hzl hzl).mono ?_
    rintro e w5 ⟨rfl, hb5⟩
    rw [sameF_self]
    have B5 := Lib.hid (B4.out.trans (hb5.mono B4.out.size))
    clear hb5
    go_wp2
    go_ret
    exact ⟨rfl, B5.out⟩
  · have hd' : famIn m zs = true ∧ 1 ≤ zs.length ∧ zs.length ≤ 6 := by simpa [dualIn] using hd
    obtain ⟨hf, h1, h6⟩ := hd'
    have hmk : ∃ k : Nat, m = (k : Int) := ⟨m.toNat, by have := (famIn_out hf).1; omega⟩
    have HDD : Hid (dualIn (dualM m zs) (dualZ m zs) = true ∧ dualM (dualM m zs) (dualZ m zs) = m ∧ dualZ (dualM m zs) (dualZ m zs) = zs) := Lib.hid (by
      obtain ⟨k, rfl⟩ := hmk
      have e1 : dualM (k : Int) zs = (zs.length : Int) := by rw [dualM, if_pos hd]
      have e2 : dualZ (k : Int) zs = dualL k (prsP (pairs zs zs.length)) := by rw [dualZ, if_pos hd]; rfl
      rw [e1, e2]
      exact dual_dual k zs hf h1 h6)
    clear hd hf h1 h6 hmk
    go_wp2_with fail
    refine (sameFamily_any _ _ _ _ _ _ _ _ _ HF23.out.ints HF3.out.ints hzl hzl).mono ?_
    rintro e w4 ⟨rfl, hb4⟩
    rw [sameF_self]
    have B4 := Lib.hid (B3.out.trans (hb4.mono B3.out.size))
    have HF24 := Lib.hid (HF23.out.step hb4)
    have HF14 := Lib.hid (HF13.out.step hb4)
    have y0 := HF24.out.x0
    have y1 := HF24.out.x1
    clear hb4
    go_wp2_with fail
    refine (implDual_any _ a2 c2 _ _ HF24.out.ints (HT.out.below B4.out HT.out.lt) hzl).mono ?_
    rw [HDD.out.1, HDD.out.2.1, HDD.out.2.2]
    rintro e w5 ⟨a5, c5, rfl, ho5, hb5⟩
    have F5 := FB.start (m := m) (c := c5) (own_ints ho5)
    have B5 := Lib.hid (B4.out.trans ((hb5.trans ((below1 w5 (.cells #[.int .i64 m, .slice a5 zs.length c5] 25)).mono hb5.size)).mono B4.out.size))
    have HF15 := Lib.hid ((HF14.out.step hb5).step (below1 w5 (.cells #[.int .i64 m, .slice a5 zs.length c5] 25)))
    have HF5 := Lib.hid F5
    have x0 := HF15.out.x0
    have x1 := HF15.out.x1
    have z0 := HF5.out.x0
    have z1 := HF5.out.x1
    clear F5 ho5 hb5
    go_wp2_with fail
    refine (sameFamily_any _ _ _ _ _ _ _ _ _ HF5.out.ints HF15.out.ints hln hln).mono ?_
    rintro e w6 ⟨rfl, hb6⟩
    rw [sameF_self]
    have B6 := Lib.hid (B5.out.trans (hb6.mono B5.out.size))
    clear hb6
    go_wp2
    go_ret
    exact ⟨rfl, B6.out⟩

end Go.Proofs.YtacglafoahmcnaaDoor
