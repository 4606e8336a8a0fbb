/- It is proved that the call of the law FnSteps returns true; conditions: those of each statement. -/
import Derived.RowKit
import Derived.Laws.CopyRow
import Derived.Lib.SlBuf
import Derived.Deep.QuietTactic
import Derived.RangeFuncNested
import Derived.RangeFuncBound
import Derived.RangeFuncCalls
import Derived.RangeFuncLeaves
import Derived.RangeFuncBox
import Derived.RangeFuncWrites
import Derived.StillTailTactics
import Derived.Maps.OwnIn
import Derived.Maps.Ext
import Derived.DeepKeys4
import Derived.MapKept
import Derived.Test.YtbiggilheicfjaaDoorRows
import Derived.WalkKit
import Derived.WalkSpells
import Derived.ProofKit
import Derived.OpenShut
import Derived.ShutString
import Derived.ChangeOld
import Derived.Below
import Derived.Deep.RegionHeld3
import Derived.BigQuiet
import Derived.Lib.Hide
import Derived.Lib.SmallJoins
import Derived.Outline
import Derived.Laws.MakeOwn
import Derived.Laws.OwnMore
import Derived.IntWalk
import Derived.Maps.AppendAt
import Derived.Deep.RegionLaw
import Derived.Deep.AppendLies
import Derived.Deep.RegionWith
import Derived.Sort.QuietIn
import Derived.Lib.AppendZeros
import Derived.OwnWalk
import Derived.Lib.SlicesCompact
import Derived.Lib.OwnBridge
import Derived.OrdersIn
import Derived.TacticsIn
import Derived.Shelf.Sort.Plain
import Derived.Shelf.Slices.In.SortNone
import Derived.Shelf.Slices.CompactI
import Derived.Ground.Names2Prog
import Derived.Shelf.Abstract
import Derived.Shelf.RegionOpen
import Derived.OwnWalkIn
import Derived.TacticsInMore
import Derived.LoopNIn
import Derived.LoopIn
import Derived.StillTail
import Derived.StillTactics
import Derived.Shelf.Spec.TrailingZeros
import Derived.Test.YtbiggilheicfjaaDoorMua
import Derived.Test.YtbiggilheicfjaaDoorEa
import Derived.Test.YtbiggilheicfjaaDoorEb
import Derived.Test.YtbiggilheicfjaaDoorEd
import Derived.Test.YtbiggilheicfjaaDoorEv
import Derived.Test.YtbiggilheicfjaaDoorEw
import Derived.Test.YtbiggilheicfjaaDoorEx
import Derived.Test.YtbiggilheicfjaaDoorFb
import Derived.Test.YtbiggilheicfjaaDoorH
import Derived.Test.YtbiggilheicfjaaDoorPto
import Derived.Test.YtbiggilheicfjaaDoorT
namespace Go.Proofs.YtbiggilheicfjaaDoor
open Go.RowKit

set_option maxRecDepth 100000 in
set_option maxHeartbeats 8000000 in
theorem walkFnSteps (a : Option Addr) (n cap : Nat) (w : World) (hb : Bys w w.heap.size a n) (hT : Tab w) (hn : n ≤ 1048576) (hc : n ≤ cap) (hc2 : cap ≤ 9223372036854775807) :
    Calls Tryd.prog 6 #[.slice a n cap] w fun e w' => e = .returned (.bool true) ∧ Below w.heap.size w w' := by
  have HBy := Lib.hid hb
  have HT := Lib.hid hT
  clear hb hT
  go_enter Tryd.func6, Tryd.ntmps6
  go_wp2_with fail
  refine (drawSteps_any a n cap w HBy.out hn hc hc2).mono ?_
  rintro e w1 ⟨a1, zs, c1, rfl, hl, ho1, hb1⟩
  have f_1 := Lib.hid (own_ints ho1)
  have B1 := Lib.hid hb1
  have hln : zs.length ≤ 1048576 := by omega
  clear ho1 hb1
  obtain ⟨ys, hys⟩ : ∃ ys, ys = stepsZ zs := ⟨_, rfl⟩
  have hyl : ys.length ≤ 1048576 := by rw [hys]; exact stepsZ_len zs
  have HYS := Lib.hid hys
  clear hys
  go_wp2_with fail
  refine (implSteps_any a1 c1 zs _ f_1.out hln).mono ?_
  rw [← HYS.out]
  rintro e w2 ⟨a2, c2, rfl, ho2, hb2⟩
  have g_2 := Lib.hid (own_ints ho2)
  have B2 := Lib.hid (B1.out.trans (hb2.mono B1.out.size))
  have f_2 := Lib.hid (f_1.out.step hb2)
  clear ho2 hb2 B1 f_1
  go_wp2_with fail
  refine (specSteps_any a1 c1 zs _ f_2.out hln).mono ?_
  rw [← HYS.out]
  rintro e w3 ⟨a3, c3, rfl, ho3, hb3⟩
  have h_3 := Lib.hid (own_ints ho3)
  have B3 := Lib.hid (B2.out.trans (hb3.mono B2.out.size))
  have f_3 := Lib.hid (f_2.out.step hb3)
  have g_3 := Lib.hid (g_2.out.step hb3)
  clear ho3 hb3 B2 f_2 g_2
  cases hd : degIn zs
  · clear hd HYS
    go_wp2_with fail
    refine (sameInts_any _ _ _ _ _ _ _ g_3.out h_3.out hyl hyl).mono ?_
    rintro e w4 ⟨rfl, hb4⟩
    rw [sameB_refl]
    have B4 := Lib.hid (B3.out.trans (hb4.mono B3.out.size))
    have g_4 := Lib.hid (g_3.out.step hb4)
    have h_4 := Lib.hid (h_3.out.step hb4)
    clear hb4 B3 f_3 g_3 h_3
    go_wp2_with fail
    refine (sameInts_any _ _ _ _ _ _ _ g_4.out h_4.out hyl hyl).mono ?_
    rintro e w5 ⟨rfl, hb5⟩
    rw [sameB_refl]
    have B5 := Lib.hid (B4.out.trans (hb5.mono B4.out.size))
    clear hb5 B4 g_4 h_4
    go_wp2
    go_ret
    exact ⟨rfl, B5.out⟩
  · obtain ⟨t1, t2, t3, t4, t5, t6, t7, t8⟩ := steps_facts hd
    have e : ys = stepsL zs := by rw [HYS.out, stepsZ, if_pos hd]
    rw [← e] at t1 t2 t3 t4 t5 t6
    have HT1 := Lib.hid t1
    have HT2 := Lib.hid t2
    have HT3 := Lib.hid t3
    have HT5 := Lib.hid t5
    have HT6 := Lib.hid t6
    have HT7 := Lib.hid t7
    have HT4 := Lib.hid t4
    clear hd e t1 t2 t3 t4 t5 t6 t7
    go_wp2_with fail
    refine (sameInts_any _ _ _ _ _ _ _ g_3.out h_3.out hyl hyl).mono ?_
    rintro e w4 ⟨rfl, hb4⟩
    rw [sameB_refl]
    have B4 := Lib.hid (B3.out.trans (hb4.mono B3.out.size))
    have f_4 := Lib.hid (f_3.out.step hb4)
    have g_4 := Lib.hid (g_3.out.step hb4)
    clear hb4 B3 f_3 g_3 h_3
    rw [HT4.out]
    go_wp2
    go_loopw [8] (fun i wr => ∃ k : Nat, k ≤ 4 ∧ i = .int .i64 ((k : Int) + 1) ∧ Below w4.heap.size w4 wr) (fun i _ => 6 - (intOf i).toNat)
    case atStart => exact ⟨0, by omega, rfl, Below.refl _ _⟩
    case round =>
      obtain ⟨k, hk, rfl, hB⟩ := hrel
      by_cases hlt : k < 4
      · obtain ⟨b1, o1, ha1, hb1, hc1⟩ := g_4.out.at_ (k := k) (by rw [HT4.out]; omega)
        obtain ⟨b2, o2, ha2, hb2', hc2'⟩ := g_4.out.at_ (k := k + 1) (by rw [HT4.out]; omega)
        subst ha1
        obtain ⟨rfl, rfl⟩ : b2 = b1 ∧ o2 = o1 := by injection ha2 with ha2; injection ha2 with h1 h2; exact ⟨h1.symm, h2.symm⟩
        have v1 := (hB.cell (p := ⟨b2, o2 + k, none⟩) hb1).trans hc1
        have v2 := (hB.cell (p := ⟨b2, o2 + (k + 1), none⟩) hb1).trans hc2'
        obtain ⟨x, hx⟩ : ∃ x, x = ys[k]?.getD 0 := ⟨_, rfl⟩
        obtain ⟨y, hy⟩ : ∃ y, y = ys[k + 1]?.getD 0 := ⟨_, rfl⟩
        have hyx : ¬ (x < y) := by have := HT5.out k (by omega); omega
        rw [← hx] at v1
        rw [← hy] at v2
        have HBk := Lib.hid hB
        have hk0 : (0 : Int) ≤ (k : Int) := by omega
        have hk4 : (k : Int) < 4 := by omega
        have hkw : IntKind.i64.wrap ((k : Int) + 1 - 1) = (k : Int) := by rw [IntKind.wrap_i64]; omega
        have htn : ((k : Int) + 1).toNat = k + 1 := by omega
        clear hB hc1 hc2' hx hy ha2 hb2'
        go_wp2
        go_quiet (fail)
        go_wp2
        go_roundw
        case rel => exact ⟨k + 1, by omega, by go_num, below_drewN HBk.out _⟩
        case measure => simp [intOf]; omega
      · obtain rfl : k = 4 := by omega
        have B5 := Lib.hid (B4.out.trans (hB.mono B4.out.size))
        have f_5 := Lib.hid (f_4.out.step hB)
        have g_5 := Lib.hid (g_4.out.step hB)
        clear hB f_4 g_4 B4
        have hM := implMany_any a2 a1 c2 c1 ys zs wr g_5.out f_5.out (HT.out.below B5.out HT.out.lt) hyl hln
        rw [HT4.out, HT2.out, HT1.out] at hM
        have HM := Lib.hid hM
        clear hM
        go_wp2_with fail
        refine HM.out.mono ?_
        rintro e w6 ⟨rfl, hb6⟩
        have B6 := Lib.hid (B5.out.trans (hb6.mono B5.out.size))
        have f_6 := Lib.hid (f_5.out.step hb6)
        have g_6 := Lib.hid (g_5.out.step hb6)
        have hto := total_any a2 c2 ys w6 g_6.out (by rw [HT4.out]; omega) (fun z hz => by have := HT6.out z hz; omega)
        rw [HT4.out, HT3.out] at hto
        have HTO := Lib.hid hto
        clear hb6 B5 f_5 g_5 HM hto
        go_wp2_with fail
        refine HTO.out.mono ?_
        rintro e w7 ⟨rfl, hb7⟩
        have B7 := Lib.hid (B6.out.trans (hb7.mono B6.out.size))
        have f_7 := Lib.hid (f_6.out.step hb7)
        clear hb7 B6 f_6 g_6 HTO
        go_wp2_with fail
        refine (total_any a1 c1 zs w7 f_7.out (by omega) (fun z hz => by have := HT7.out z hz; omega)).mono ?_
        rintro e w8 ⟨rfl, hb8⟩
        have B8 := Lib.hid (B7.out.trans (hb8.mono B7.out.size))
        clear hb8 B7 f_7
        go_wp2
        go_ret
        exact ⟨rfl, B8.out⟩

end Go.Proofs.YtbiggilheicfjaaDoor
