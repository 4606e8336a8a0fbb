/- It is proved that the calls of FnHelly return true; conditions: those of each statement. -/
import Derived.RowKit
import Derived.Laws.CopyRow
import Derived.Lib.SlBuf
import Derived.Deep.QuietTactic
import Derived.RangeFuncNested
import Derived.RangeFuncBound
import Derived.RangeFuncCalls
import Derived.RangeFuncLeaves
import Derived.RangeFuncBox
import Derived.RangeFuncWrites
import Derived.StillTailTactics
import Derived.Maps.OwnIn
import Derived.Maps.Ext
import Derived.DeepKeys4
import Derived.MapKept
import Derived.Test.YtobjmiaanoheeaaDoorRows
import Derived.WalkKit
import Derived.WalkSpells
import Derived.ProofKit
import Derived.OpenShut
import Derived.ShutString
import Derived.ChangeOld
import Derived.Below
import Derived.Deep.RegionHeld3
import Derived.BigQuiet
import Derived.Lib.Hide
import Derived.Lib.SmallJoins
import Derived.Outline
import Derived.Laws.MakeOwn
import Derived.Laws.OwnMore
import Derived.IntWalk
import Derived.Maps.AppendAt
import Derived.Sort.MapsRangeIn
import Derived.Deep.RegionLaw
import Derived.Deep.AppendLies
import Derived.Deep.RegionWith
import Derived.Lib.AppendZeros
import Derived.OwnWalk
import Derived.Lib.SlicesCompact
import Derived.Lib.OwnBridge
import Derived.OrdersIn
import Derived.TacticsIn
import Derived.Shelf.Sort.Plain
import Derived.Shelf.Slices.In.SortNone
import Derived.Shelf.Slices.CompactI
import Derived.Ground.Names2Prog
import Derived.Lib.SliceRun
import Derived.Laws.BitsAllLaws
import Derived.Shelf.RegionOpen
import Derived.Shelf.Abstract
import Derived.OwnWalkIn
import Derived.TacticsInMore
import Derived.LoopNIn
import Derived.LoopIn
import Derived.StillTail
import Derived.StillTactics
import Derived.Shelf.Spec.TrailingZeros
import Derived.Deep.LoopGhost
import Derived.Test.YtobjmiaanoheeaaDoorRaab
import Derived.Test.YtobjmiaanoheeaaDoorDb
import Derived.Test.YtobjmiaanoheeaaDoorRaal
import Derived.Test.YtobjmiaanoheeaaDoorRaam
import Derived.Test.YtobjmiaanoheeaaDoorRaac
import Derived.Test.YtobjmiaanoheeaaDoorRaay
import Derived.Test.YtobjmiaanoheeaaDoorIi
import Derived.Test.YtobjmiaanoheeaaDoorRabj
import Derived.Test.YtobjmiaanoheeaaDoorIm
import Derived.Test.YtobjmiaanoheeaaDoorRabf
import Derived.Test.YtobjmiaanoheeaaDoorRabk
import Derived.Test.YtobjmiaanoheeaaDoorRaap
import Derived.Test.YtobjmiaanoheeaaDoorRaae
import Derived.Test.YtobjmiaanoheeaaDoorRaao
namespace Go.Proofs.YtobjmiaanoheeaaDoor
open Go.RowKit

set_option maxRecDepth 100000 in
set_option maxHeartbeats 8000000 in
theorem walkFnHelly (a : Option Addr) (n cap : Nat) (w : World) (hb : Bys w w.heap.size a n) (hT : Tab w) (hn : n ≤ 1048576) (hc : n ≤ cap) (hc2 : cap ≤ 9223372036854775807) :
    Calls Tryd.prog 7 #[.slice a n cap] w fun e w' => e = .returned (.bool true) ∧ Below w.heap.size w w' := by
  have HBy := Lib.hid hb
  have HT := Lib.hid hT
  clear hb hT
  go_enter Tryd.func7, Tryd.ntmps7
  go_wp2_with fail
  refine (drawMeetHelly_any a n cap w HBy.out hn hc hc2).mono ?_
  rintro e w1 ⟨m, a1, zs, c1, rfl, hl, ho1, hb1⟩
  have F1 := FB.start (m := m) (c := c1) (own_ints ho1)
  have B1 := Lib.hid (hb1.trans ((below1 w1 (.cells #[.int .i64 m, .slice a1 zs.length c1] 25)).mono hb1.size))
  have hln : zs.length ≤ 1048576 := by omega
  have f_f_1 := Lib.hid F1
  clear F1 ho1 hb1
  have f_0 := f_f_1.out.x0
  have f_1 := f_f_1.out.x1
  obtain ⟨A, hA⟩ : ∃ A, A = hellyB m zs := ⟨_, rfl⟩
  have HA := Lib.hid hA
  obtain ⟨T, hT'⟩ : ∃ T, T = tmZ m zs := ⟨_, rfl⟩
  have HTM := Lib.hid hT'
  obtain ⟨FI, hFI⟩ : ∃ FI, FI = famIn m zs := ⟨_, rfl⟩
  obtain ⟨DZ, hDZ⟩ : ∃ DZ, DZ = dualZ m zs := ⟨_, rfl⟩
  obtain ⟨DM, hDM⟩ : ∃ DM, DM = dualM m zs := ⟨_, rfl⟩
  obtain ⟨DP, hDP⟩ : ∃ DP, DP = dualIn m zs := ⟨_, rfl⟩
  have hdl : DZ.length ≤ 1048576 := by rw [hDZ]; exact dualZ_len _ _
  have HMO := Lib.hid (fun W hi hT => implMost_any m a1 c1 zs W hi hT hln)
  have HMS := Lib.hid (fun W hi hT => implStars_any m a1 c1 zs W hi hT hln)
  have HDU := Lib.hid (fun W hi hT => implDual_any m a1 c1 zs W hi hT hln)
  have HHE := Lib.hid (fun b d W hi hT => implFull_any DM b d DZ W hi hT hdl)
  have HFI : Hid (A = true → FI = true ∧ T = starZ m zs) := Lib.hid fun h1 => by
    rw [hA] at h1
    refine ⟨?_, by rw [hT', tm_helly h1]⟩
    unfold hellyB at h1; rw [Bool.and_eq_true] at h1; rw [hFI]; exact h1.1
  have HFD : Hid (A = true → DP = true → fullB DM DZ = true) := Lib.hid fun h1 h2 => by
    rw [hDM, hDZ]
    rw [hA] at h1
    have hf : famIn m zs = true := by unfold hellyB at h1; rw [Bool.and_eq_true] at h1; exact h1.1
    obtain ⟨k, rfl, -, -, -, -⟩ := fam_nat2 hf
    exact helly_dual (by rw [← hDP]; exact h2) h1
  rw [← hDZ, ← hDM, ← hDP] at HDU
  rw [← hT', ← hFI] at HMO
  rw [← hFI] at HMS
  clear hA hT' hFI hDZ hDM hDP
  go_wp2_with fail
  refine (implHelly_any m a1 c1 zs _ f_f_1.out.ints (HT.out.below B1.out HT.out.lt) hln).mono ?_
  rw [← HA.out]
  rintro e w2 ⟨rfl, hb2⟩
  have B2 := Lib.hid (B1.out.trans (hb2.mono B1.out.size))
  have f_f_2 := Lib.hid (f_f_1.out.step hb2)
  clear hb2 B1 f_f_1
  clear f_0 f_1
  have f_0 := f_f_2.out.x0
  have f_1 := f_f_2.out.x1
  go_wp2_with fail
  refine (specHelly_any m a1 c1 zs _ f_f_2.out.ints hln).mono ?_
  rw [← HA.out]
  rintro e w3 ⟨rfl, hb3⟩
  have B3 := Lib.hid (B2.out.trans (hb3.mono B2.out.size))
  have f_f_3 := Lib.hid (f_f_2.out.step hb3)
  clear hb3 B2 f_f_2
  clear f_0 f_1
  have f_0 := f_f_3.out.x0
  have f_1 := f_f_3.out.x1
  cases A
  · clear HA HDU HHE HFD HFI HMO HMS
    go_wp2
    go_ret
    exact ⟨rfl, B3.out⟩
  · clear HA
    obtain ⟨hF1, hF2⟩ := HFI.out (by trivial)
    subst hF1
    rw [← hF2] at HMS
    clear hF2 HFI HTM
    go_wp2_with fail
    refine (HMO.out _ f_f_3.out.ints (HT.out.below B3.out HT.out.lt)).mono ?_
    rintro e w4 ⟨rfl, hb4⟩
    have B4 := Lib.hid (B3.out.trans (hb4.mono B3.out.size))
    have f_f_4 := Lib.hid (f_f_3.out.step hb4)
    clear hb4 B3 f_f_3
    clear f_0 f_1
    have f_0 := f_f_4.out.x0
    have f_1 := f_f_4.out.x1
    go_wp2_with fail
    refine (HMS.out _ f_f_4.out.ints (HT.out.below B4.out HT.out.lt)).mono ?_
    rintro e w5 ⟨rfl, hb5⟩
    have B5 := Lib.hid (B4.out.trans (hb5.mono B4.out.size))
    have f_f_5 := Lib.hid (f_f_4.out.step hb5)
    clear hb5 B4 f_f_4
    clear f_0 f_1
    have f_0 := f_f_5.out.x0
    have f_1 := f_f_5.out.x1
    clear HMO HMS
    go_wp2_with fail
    refine (HDU.out _ f_f_5.out.ints (HT.out.below B5.out HT.out.lt)).mono ?_
    rintro e w6 ⟨a6, c6, rfl, ho6, hb6⟩
    have F6 := FB.start (m := DM) (c := c6) (own_ints ho6)
    have hb6x := hb6.trans ((below1 w6 (.cells #[.int .i64 (DM), .slice a6 (DZ).length c6] 25)).mono hb6.size)
    have B6 := Lib.hid (B5.out.trans (hb6x.mono B5.out.size))
    have f_f_6 := Lib.hid (f_f_5.out.step hb6x)
    have f_d_6 := Lib.hid F6
    clear F6 ho6 hb6 hb6x B5 f_f_5
    clear f_0 f_1
    have d_0 := f_d_6.out.x0
    have d_1 := f_d_6.out.x1
    clear HDU
    have htt : (T == T) = true := by simp
    cases DP
    · clear HHE HFD
      go_wp2
      go_ret
      exact ⟨rfl, B6.out⟩
    · have HE := Lib.hid (HFD.out (by trivial) (by trivial))
      clear HFD
      go_wp2_with fail
      refine (HHE.out _ _ _ f_d_6.out.ints (HT.out.below B6.out HT.out.lt)).mono ?_
      rw [HE.out]
      rintro e w7 ⟨rfl, hb7⟩
      have B7 := Lib.hid (B6.out.trans (hb7.mono B6.out.size))
      have f_f_7 := Lib.hid (f_f_6.out.step hb7)
      have f_d_7 := Lib.hid (f_d_6.out.step hb7)
      clear hb7 B6 f_f_6 f_d_6
      clear d_0 d_1
      clear HHE
      go_wp2
      go_ret
      exact ⟨rfl, B7.out⟩

end Go.Proofs.YtobjmiaanoheeaaDoor
