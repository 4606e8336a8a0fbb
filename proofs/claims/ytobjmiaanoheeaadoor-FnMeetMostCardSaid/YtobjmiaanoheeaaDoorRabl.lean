/- It is proved that the calls of FnFull return true; conditions: those of each statement. -/
import Derived.RowKit
import Derived.Laws.CopyRow
import Derived.Lib.SlBuf
import Derived.Deep.QuietTactic
import Derived.RangeFuncNested
import Derived.RangeFuncBound
import Derived.RangeFuncCalls
import Derived.RangeFuncLeaves
import Derived.RangeFuncBox
import Derived.RangeFuncWrites
import Derived.StillTailTactics
import Derived.Maps.OwnIn
import Derived.Maps.Ext
import Derived.DeepKeys4
import Derived.MapKept
import Derived.Test.YtobjmiaanoheeaaDoorRows
import Derived.WalkKit
import Derived.WalkSpells
import Derived.ProofKit
import Derived.OpenShut
import Derived.ShutString
import Derived.ChangeOld
import Derived.Below
import Derived.Deep.RegionHeld3
import Derived.BigQuiet
import Derived.Lib.Hide
import Derived.Lib.SmallJoins
import Derived.Outline
import Derived.Laws.MakeOwn
import Derived.Laws.OwnMore
import Derived.IntWalk
import Derived.Maps.AppendAt
import Derived.Sort.MapsRangeIn
import Derived.Deep.RegionLaw
import Derived.Deep.AppendLies
import Derived.Deep.RegionWith
import Derived.Lib.AppendZeros
import Derived.OwnWalk
import Derived.Lib.SlicesCompact
import Derived.Lib.OwnBridge
import Derived.OrdersIn
import Derived.TacticsIn
import Derived.Shelf.Sort.Plain
import Derived.Shelf.Slices.In.SortNone
import Derived.Shelf.Slices.CompactI
import Derived.Ground.Names2Prog
import Derived.Lib.SliceRun
import Derived.Laws.BitsAllLaws
import Derived.Shelf.RegionOpen
import Derived.Shelf.Abstract
import Derived.OwnWalkIn
import Derived.TacticsInMore
import Derived.LoopNIn
import Derived.LoopIn
import Derived.StillTail
import Derived.StillTactics
import Derived.Shelf.Spec.TrailingZeros
import Derived.Deep.LoopGhost
import Derived.Test.YtobjmiaanoheeaaDoorRaab
import Derived.Test.YtobjmiaanoheeaaDoorDb
import Derived.Test.YtobjmiaanoheeaaDoorRaal
import Derived.Test.YtobjmiaanoheeaaDoorRaam
import Derived.Test.YtobjmiaanoheeaaDoorRaac
import Derived.Test.YtobjmiaanoheeaaDoorRaay
import Derived.Test.YtobjmiaanoheeaaDoorIo
import Derived.Test.YtobjmiaanoheeaaDoorRabf
import Derived.Test.YtobjmiaanoheeaaDoorRabk
import Derived.Test.YtobjmiaanoheeaaDoorRaap
import Derived.Test.YtobjmiaanoheeaaDoorRaae
import Derived.Test.YtobjmiaanoheeaaDoorRaao
import Derived.Lib.LaidTab
import Derived.LaidMore
import Derived.Stop.Joined
namespace Go.Proofs.YtobjmiaanoheeaaDoor
open Go.RowKit

set_option maxRecDepth 100000 in
set_option maxHeartbeats 8000000 in
theorem walkFnFull (a : Option Addr) (n cap : Nat) (w : World) (hb : Bys w w.heap.size a n) (hT : Tab w) (hn : n ≤ 1048576) (hc : n ≤ cap) (hc2 : cap ≤ 9223372036854775807) :
    Calls Tryd.prog 8 #[.slice a n cap] w fun e w' => e = .returned (.bool true) ∧ Below w.heap.size w w' := by
  have HBy := Lib.hid hb
  have HT := Lib.hid hT
  clear hb hT
  go_enter Tryd.func8, Tryd.ntmps8
  go_wp2_with fail
  refine (drawMeetFull_any a n cap w HBy.out hn hc hc2).mono ?_
  rintro e w1 ⟨m, a1, zs, c1, rfl, hl, ho1, hb1⟩
  have F1 := FB.start (m := m) (c := c1) (own_ints ho1)
  have B1 := Lib.hid (hb1.trans ((below1 w1 (.cells #[.int .i64 m, .slice a1 zs.length c1] 25)).mono hb1.size))
  have hln : zs.length ≤ 1048576 := by omega
  have f_f_1 := Lib.hid F1
  clear F1 ho1 hb1
  have f_0 := f_f_1.out.x0
  have f_1 := f_f_1.out.x1
  obtain ⟨A, hA⟩ : ∃ A, A = fullB m zs := ⟨_, rfl⟩
  have HA := Lib.hid hA
  have hcap := True.intro
  obtain ⟨DZ, hDZ⟩ : ∃ DZ, DZ = dualZ m zs := ⟨_, rfl⟩
  obtain ⟨DM, hDM⟩ : ∃ DM, DM = dualM m zs := ⟨_, rfl⟩
  obtain ⟨DP, hDP⟩ : ∃ DP, DP = dualIn m zs := ⟨_, rfl⟩
  have hdl : DZ.length ≤ 1048576 := by rw [hDZ]; exact dualZ_len _ _
  have HDU := Lib.hid (fun W hi hT => implDual_any m a1 c1 zs W hi hT hln)
  have HHE := Lib.hid (fun b d W hi hT => implHelly_any DM b d DZ W hi hT hdl)
  have HFD : Hid (A = true → DP = true → hellyB DM DZ = true) := Lib.hid fun h1 h2 => by
    rw [hDM, hDZ]
    rw [hA] at h1
    have hf : famIn m zs = true := by unfold fullB at h1; rw [Bool.and_eq_true] at h1; exact h1.1
    obtain ⟨k, rfl, -, -, -, -⟩ := fam_nat2 hf
    exact full_dual (by rw [← hDP]; exact h2) h1
  rw [← hDZ, ← hDM, ← hDP] at HDU
  clear hA hDZ hDM hDP hcap
  go_wp2_with fail
  refine (implFull_any m a1 c1 zs _ f_f_1.out.ints (HT.out.below B1.out HT.out.lt) hln).mono ?_
  rw [← HA.out]
  rintro e w2 ⟨rfl, hb2⟩
  have B2 := Lib.hid (B1.out.trans (hb2.mono B1.out.size))
  have f_f_2 := Lib.hid (f_f_1.out.step hb2)
  clear hb2 B1 f_f_1
  clear f_0 f_1
  have f_0 := f_f_2.out.x0
  have f_1 := f_f_2.out.x1
  go_wp2_with fail
  refine (specFull_any m a1 c1 zs _ f_f_2.out.ints hln).mono ?_
  rw [← HA.out]
  rintro e w3 ⟨rfl, hb3⟩
  have B3 := Lib.hid (B2.out.trans (hb3.mono B2.out.size))
  have f_f_3 := Lib.hid (f_f_2.out.step hb3)
  clear hb3 B2 f_f_2
  clear f_0 f_1
  have f_0 := f_f_3.out.x0
  have f_1 := f_f_3.out.x1
  cases A
  · clear HA HDU HHE HFD
    go_wp2
    go_ret
    exact ⟨rfl, B3.out⟩
  · clear HA
    go_wp2_with fail
    refine (HDU.out _ f_f_3.out.ints (HT.out.below B3.out HT.out.lt)).mono ?_
    rintro e w4 ⟨a4, c4, rfl, ho4, hb4⟩
    have F4 := FB.start (m := DM) (c := c4) (own_ints ho4)
    have hb4x := hb4.trans ((below1 w4 (.cells #[.int .i64 (DM), .slice a4 (DZ).length c4] 25)).mono hb4.size)
    have B4 := Lib.hid (B3.out.trans (hb4x.mono B3.out.size))
    have f_f_4 := Lib.hid (f_f_3.out.step hb4x)
    have f_d_4 := Lib.hid F4
    clear F4 ho4 hb4 hb4x B3 f_f_3
    clear f_0 f_1
    have d_0 := f_d_4.out.x0
    have d_1 := f_d_4.out.x1
    clear HDU
    cases DP
    · clear HHE HFD
      go_wp2
      go_ret
      exact ⟨rfl, B4.out⟩
    · have HE := Lib.hid (HFD.out (by trivial) (by trivial))
      clear HFD
      go_wp2_with fail
      refine (HHE.out _ _ _ f_d_4.out.ints (HT.out.below B4.out HT.out.lt)).mono ?_
      rw [HE.out]
      rintro e w5 ⟨rfl, hb5⟩
      have B5 := Lib.hid (B4.out.trans (hb5.mono B4.out.size))
      have f_f_5 := Lib.hid (f_f_4.out.step hb5)
      have f_d_5 := Lib.hid (f_d_4.out.step hb5)
      clear hb5 B4 f_f_4 f_d_4
      clear d_0 d_1
      clear HHE
      go_wp2
      go_ret
      exact ⟨rfl, B5.out⟩

end Go.Proofs.YtobjmiaanoheeaaDoor

/- It is proved that what a row lists of the library's tables is what the walks ask of them; conditions: none but the row's. -/
namespace Go.Proofs.YtobjmiaanoheeaaDoor
open Go.ChangeShapes Go.WideShapes Go.ChangeAt Go.RowKit Go.Joins

def laidL : List (String × DataW Unit) := [("math/bits.deBruijn32tab", Rows.laid_math_bits_deBruijn32tab), ("math/bits.deBruijn64tab", Rows.laid_math_bits_deBruijn64tab)]
theorem Tryd.g0 : Tryd.prog.globalNamed "math/bits.deBruijn32tab" = some 0 := by kernel_rfl
theorem Tryd.g1 : Tryd.prog.globalNamed "math/bits.deBruijn64tab" = some 1 := by kernel_rfl
theorem Tryd.tg0 : (Tryd.prog.globals[0]?).map (·.type) = some 91 := by kernel_rfl
theorem Tryd.tg1 : (Tryd.prog.globals[1]?).map (·.type) = some 92 := by kernel_rfl
theorem tab_is : (Rows.laid_math_bits_deBruijn64tab : DataW Unit) = Lib.tabData .u8 (Lib.deBruijn64tab.map fun (n : Nat) => (n : Int)) := rfl
/-- The door's own heap meets the condition: closed facts. -/
theorem door_met (os : Os) (args : Array Value) : laidMetH Tryd.prog laidL ((World.doorLaid Tryd.prog 40 os).forCall (fun _ _ => 0) ⟨#[], args, []⟩).memory :=
  laidMetH_of_parts3 (fuel := 8) (laidMet_of_run' 8 (by kernel_rfl) (by kernel_rfl)) (by kernel_rfl) (by kernel_rfl)

set_option maxRecDepth 100000 in
theorem tab_of_laid {W : World} (h : laidMetH Tryd.prog laidL W) : Tab W := by
  rw [MakeChecks.laidMetH_plain _ _ _ (by kernel_rfl)] at h
  obtain ⟨ps, ⟨g0, t0, cs0, f0, p0, q0, hg0, ht0, hv0, hd0, ⟨g1, t1, cs1, f1, p1, q1, hg1, ht1, hv1, hd1, _, _⟩, _⟩, _, _⟩ := h
  obtain rfl := Option.some.inj (Tryd.g1.symm.trans hg1)
  obtain rfl := Option.some.inj (Tryd.tg1.symm.trans ht1)
  rw [tab_is] at hd1
  have hcs := Lib.cells_of_tab (n := 64) (e := 5) Tryd.underlying92 Tryd.underlying5 (by kernel_rfl) (by kernel_rfl) hd1
  intro j hj
  have h1 := World.var?_cell hg1 hv1 j
  rw [h1, ← Array.getElem?_toList, hcs]
  simp [List.getD, hj]

end Go.Proofs.YtobjmiaanoheeaaDoor
