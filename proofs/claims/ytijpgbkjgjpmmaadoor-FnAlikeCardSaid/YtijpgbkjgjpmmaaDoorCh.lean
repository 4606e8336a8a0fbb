/- It is proved what AlikeIn of the program returns, and that the call of the law FnExactAlikeIn returns true, given what the two functions return; conditions: those of each statement. -/
import Derived.RowKit
import Derived.Laws.CopyRow
import Derived.Lib.SlBuf
import Derived.Deep.QuietTactic
import Derived.RangeFuncNested
import Derived.RangeFuncBound
import Derived.RangeFuncCalls
import Derived.RangeFuncLeaves
import Derived.RangeFuncBox
import Derived.RangeFuncWrites
import Derived.StillTailTactics
import Derived.Maps.OwnIn
import Derived.Maps.Ext
import Derived.DeepKeys4
import Derived.MapKept
import Derived.Test.YtijpgbkjgjpmmaaDoorRows
import Derived.WalkKit
import Derived.WalkSpells
import Derived.ProofKit
import Derived.OpenShut
import Derived.ShutString
import Derived.ChangeOld
import Derived.Below
import Derived.Deep.RegionHeld3
import Derived.BigQuiet
import Derived.Lib.Hide
import Derived.Lib.SmallJoins
import Derived.Outline
import Derived.Laws.MakeOwn
import Derived.Laws.OwnMore
import Derived.IntWalk
import Derived.Maps.AppendAt
import Derived.Sort.MapsRangeIn
import Derived.Lib.AppendZeros
import Derived.Deep.AppendLies
import Derived.OwnWalk
import Derived.Lib.SlicesCompact
import Derived.Lib.OwnBridge
import Derived.OrdersIn
import Derived.TacticsIn
import Derived.Shelf.Sort.Plain
import Derived.Shelf.Slices.In.SortNone
import Derived.Shelf.Slices.CompactI
import Derived.Ground.Names2Prog
import Derived.Shelf.Abstract
import Derived.Shelf.RegionOpen
import Derived.OwnWalkIn
import Derived.TacticsInMore
import Derived.LoopNIn
import Derived.LoopIn
import Derived.StillTail
import Derived.StillTactics
import Derived.Shelf.Spec.TrailingZeros
import Derived.Test.YtijpgbkjgjpmmaaDoorMraa
import Derived.Test.YtijpgbkjgjpmmaaDoorMraq
import Derived.Test.YtijpgbkjgjpmmaaDoorCg
import Derived.Test.YtijpgbkjgjpmmaaDoorMraf
import Derived.Test.YtijpgbkjgjpmmaaDoorMrac
namespace Go.Proofs.YtijpgbkjgjpmmaaDoor
open Go.RowKit Go.Shelf Go.Maps

theorem implAIn_any (m k : Int) (a b : Option Addr) (c d : Nat) (zs ys : List Int) (w : World) (ha : Ints w w.heap.size a zs) (hb : Ints w w.heap.size b ys) (hT : Tab w) (hx : zs.length ≤ 1048576) (hy : ys.length ≤ 1048576) :
    Calls Tryd.prog 6 #[.agg #[.int .i64 m, .slice a zs.length c], .agg #[.int .i64 k, .slice b ys.length d]] w fun e w' => e = .returned (.bool (alikeB m zs k ys)) ∧ Below w.heap.size w w' := by
  cases h : sizesB m zs k ys
  · rw [alike_no h]
    exact implAIn_no m k a b c d zs ys w ha hb hx hy h
  · obtain ⟨h1, h2, rfl, h4, h5⟩ := alike_yes h
    obtain ⟨hm1, hm6, -, -⟩ := famIn_out h1
    obtain ⟨q, rfl⟩ : ∃ q : Nat, m = (q : Int) := ⟨m.toNat, by omega⟩
    rw [h5]
    exact implAIn_yes q (by omega) (by omega) a b c d zs ys w ha hb hT hx hy h1 h2 h4

end Go.Proofs.YtijpgbkjgjpmmaaDoor
