/- It is proved what coveredBy returns; conditions: those of each statement. -/
import Derived.RowKit
import Derived.Laws.CopyRow
import Derived.Lib.SlBuf
import Derived.Deep.QuietTactic
import Derived.RangeFuncNested
import Derived.RangeFuncBound
import Derived.RangeFuncCalls
import Derived.RangeFuncLeaves
import Derived.RangeFuncBox
import Derived.RangeFuncWrites
import Derived.StillTailTactics
import Derived.Maps.OwnIn
import Derived.Maps.Ext
import Derived.DeepKeys4
import Derived.MapKept
import Derived.Test.YtnpfdgbbcapnkaaDoorRows
import Derived.WalkKit
import Derived.WalkSpells
import Derived.ProofKit
import Derived.OpenShut
import Derived.ShutString
import Derived.ChangeOld
import Derived.Below
import Derived.Deep.RegionHeld3
import Derived.BigQuiet
import Derived.Lib.Hide
import Derived.Lib.SmallJoins
import Derived.Outline
import Derived.Laws.MakeOwn
import Derived.Laws.OwnMore
import Derived.IntWalk
import Derived.Lib.AppendZeros
import Derived.Maps.AppendAt
import Derived.Deep.AppendLies
import Derived.OwnWalk
import Derived.Lib.SlicesCompact
import Derived.Lib.OwnBridge
import Derived.OrdersIn
import Derived.TacticsIn
import Derived.Shelf.Sort.Plain
import Derived.Shelf.Slices.In.SortNone
import Derived.Shelf.Slices.CompactI
import Derived.Ground.Names2Prog
import Derived.Lib.SliceRun
import Derived.Shelf.Abstract
import Derived.Shelf.RegionOpen
import Derived.OwnWalkIn
import Derived.TacticsInMore
import Derived.LoopNIn
import Derived.LoopIn
import Derived.StillTail
import Derived.StillTactics
import Derived.Shelf.Spec.TrailingZeros
import Derived.Test.YtnpfdgbbcapnkaaDoorRbaa
import Derived.Test.YtnpfdgbbcapnkaaDoorRbau
import Derived.Test.YtnpfdgbbcapnkaaDoorRbab
import Derived.Test.YtnpfdgbbcapnkaaDoorRbaf
import Derived.Test.YtnpfdgbbcapnkaaDoorRbah
namespace Go.Proofs.YtnpfdgbbcapnkaaDoor
open Go.RowKit Go.Shelf

attribute [local go_sem] Oper.semAt_some

set_option maxRecDepth 100000 in
theorem coveredBy_any (m : Nat) (hm : m ≤ 6) (a : Option Addr) (c : Nat) (zs : List Int) (s : Nat) (hs : s < 64) (w : World) (ha : Ints w w.heap.size a zs) (hx : zs.length ≤ 100000) (hz : Sets m zs) :
    Calls Tryd.prog 82 #[.agg #[.int .i64 (m : Int), .slice a zs.length c], .int .i64 (s : Int)] w fun e w' => e = .returned (.bool (covB zs s)) ∧ Below w.heap.size w w' := by
  have hb1 := below1 w (.cells #[.int .i64 (m : Int), .slice a zs.length c] 25)
  have HC := Lib.hid (missedBy_any m hm a c zs s hs (w.alloc (.cells #[.int .i64 (m : Int), .slice a zs.length c] 25)) ((ha.below hb1).mono (by simp)) hx hz)
  have HB1 := Lib.hid hb1
  have HE : Hid ((((missL zs s).length : Int) == 0) = covB zs s) := Lib.hid (by
    rw [← missL_cov, Bool.eq_iff_iff, beq_iff_eq, beq_iff_eq]; omega)
  clear ha hb1
  go_enter Tryd.func82, Tryd.ntmps82
  go_wp2_with fail
  refine HC.out.mono ?_
  rintro e w1 ⟨a1, c1, rfl, -, hb⟩
  have HB := Lib.hid (HB1.out.trans (hb.mono (by simp)))
  clear hb
  have hff := field_fam
  go_wp2
  go_ret
  exact ⟨by rw [HE.out]; rfl, HB.out⟩

end Go.Proofs.YtnpfdgbbcapnkaaDoor
