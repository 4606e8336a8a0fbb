/- It is proved what AlikeNames of the program and of the reference model return; conditions: those of each statement. -/
import Derived.RowKit
import Derived.Laws.CopyRow
import Derived.Lib.SlBuf
import Derived.Deep.QuietTactic
import Derived.RangeFuncNested
import Derived.RangeFuncBound
import Derived.RangeFuncCalls
import Derived.RangeFuncLeaves
import Derived.RangeFuncBox
import Derived.RangeFuncWrites
import Derived.StillTailTactics
import Derived.Maps.OwnIn
import Derived.Maps.Ext
import Derived.DeepKeys4
import Derived.MapKept
import Derived.Test.YtbiggilheicfjaaRows
import Derived.WalkKit
import Derived.WalkSpells
import Derived.ProofKit
import Derived.OpenShut
import Derived.ShutString
import Derived.ChangeOld
import Derived.Below
import Derived.Deep.RegionHeld3
import Derived.BigQuiet
import Derived.Lib.Hide
import Derived.Lib.SmallJoins
import Derived.Outline
import Derived.Laws.MakeOwn
import Derived.Laws.OwnMore
import Derived.IntWalk
import Derived.Maps.AppendAt
import Derived.Sort.MapsRangeIn
import Derived.Lib.AppendZeros
import Derived.Deep.AppendLies
import Derived.OwnWalk
import Derived.Lib.SlicesCompact
import Derived.Lib.OwnBridge
import Derived.OrdersIn
import Derived.TacticsIn
import Derived.Shelf.Sort.Plain
import Derived.Shelf.Slices.In.SortNone
import Derived.Shelf.Slices.CompactI
import Derived.Ground.Names2Prog
import Derived.Shelf.Abstract
import Derived.Shelf.RegionOpen
import Derived.OwnWalkIn
import Derived.TacticsInMore
import Derived.LoopNIn
import Derived.LoopIn
import Derived.StillTail
import Derived.StillTactics
import Derived.Shelf.Spec.TrailingZeros
import Derived.Test.YtbiggilheicfjaaB
import Derived.Test.YtbiggilheicfjaaBa
import Derived.Test.YtbiggilheicfjaaC
import Derived.Test.YtbiggilheicfjaaE
import Derived.Test.YtbiggilheicfjaaF
import Derived.Test.YtbiggilheicfjaaGa
import Derived.Test.YtbiggilheicfjaaGb
import Derived.Test.YtbiggilheicfjaaHa
import Derived.Test.YtbiggilheicfjaaK
import Derived.Test.YtbiggilheicfjaaOw
import Derived.Test.YtbiggilheicfjaaP
namespace Go.Proofs.Ytbiggilheicfjaa
open Go.RowKit Go.Shelf Go.Maps

theorem slice_nil (g o n c : Nat) (w : World) : (binOp BinOp.eql 22 (.slice (some ⟨g, o, none⟩) n c) (.slice none 0 0)).run Try.prog w = .ok (.bool false) w := by kernel_rfl
set_option maxRecDepth 100000 in
set_option maxHeartbeats 1000000 in
theorem clone_any (g o c n : Nat) (xs : List Int) (hn : xs.length = n) (hx : n ≤ 1048576) (w : World) (ha : Ints w w.heap.size (some ⟨g, o, none⟩) xs) :
    Calls Try.prog 17 #[.slice (some ⟨g, o, none⟩) n c] w fun e w' => ∃ a' c', e = .returned (.slice a' n c') ∧ OwnN w' w.heap.size a' n c' xs ∧ Below w.heap.size w w' := by
  have hE : OwnI (w.alloc (.cells #[] 3)) w.heap.size (.slice (some ⟨w.heap.size, 0, none⟩) 0 0) [] := own_empty (alloc_new w _) (Nat.le_refl _)
  have hB0 : Below w.heap.size w (w.alloc (.cells #[] 3)) := below1 w (.cells #[] 3)
  obtain ⟨a3, c3, w3, hr3, ho3, hg3⟩ := app_run0n (k := n) hE hB0.size (some ⟨g, o, none⟩) c xs hn ((ha.below hB0).mono hB0.size) (by omega)
  have hb3 : Below w.heap.size w w3 := hB0.grown hg3 hB0.size (fun g e => (World.ownsRow.lt hE g e).1)
  have HO := Lib.hid (show OwnN w3 w.heap.size a3 n c3 xs from ho3)
  have HB := Lib.hid hb3
  have hnl := slice_nil g o n c w
  clear ha hE hB0 ho3 hg3 hb3 hn
  go_enter Try.func17, Try.ntmps17
  go_wp2_with (at_builtin; refine wpList_append_eq _ rfl _ _ 22 22 rfl _ _ rfl rfl hr3 ?_)
  go_ret
  exact ⟨_, _, rfl, HO.out, HB.out⟩

end Go.Proofs.Ytbiggilheicfjaa
