/- It is proved what FamilyDual of the model returns where there is none, and what both return; conditions: those of each statement. -/
import Derived.Test.YtijhpfecbpkpdaaDoorRows
import Derived.WalkKit
import Derived.WalkSpells
import Derived.ProofKit
import Derived.OpenShut
import Derived.ShutString
import Derived.ChangeOld
import Derived.Below
import Derived.Deep.RegionHeld3
import Derived.Deep.QuietTactic
import Derived.BigQuiet
import Derived.Lib.Hide
import Derived.Lib.SmallJoins
import Derived.Outline
import Derived.Laws.MakeOwn
import Derived.Laws.OwnMore
import Derived.IntWalk
import Derived.RangeFuncNested
import Derived.RangeFuncBound
import Derived.RangeFuncCalls
import Derived.RangeFuncLeaves
import Derived.RangeFuncBox
import Derived.Shelf.Abstract
import Derived.Shelf.RegionOpen
import Derived.OwnWalkIn
import Derived.TacticsInMore
import Derived.LoopNIn
import Derived.LoopIn
import Derived.Maps.AppendAt
import Derived.Deep.AppendLies
import Derived.OwnWalk
import Derived.StillTail
import Derived.StillTactics
import Derived.OrdersIn
import Derived.TacticsIn
import Derived.Shelf.Spec.TrailingZeros
import Derived.StillTailTactics
import Derived.Test.YtijhpfecbpkpdaaDoorMj
import Derived.Test.YtijhpfecbpkpdaaDoorUb
namespace Go.Proofs.YtijhpfecbpkpdaaDoor
open Go.RowKit

theorem dualIn_split (m : Int) (zs : List Int) : dualIn m zs = (famIn m zs && inB (zs.length : Int) 1 6) := by
  simp only [dualIn, inB]
  congr 1
  have h1 : decide (1 ≤ zs.length) = decide ((1 : Int) ≤ (zs.length : Int)) := by simp; omega
  have h2 : decide (zs.length ≤ 6) = decide ((zs.length : Int) ≤ 6) := by simp; omega
  rw [h1, h2]

theorem implDual_any (m : Int) (a : Option Addr) (c : Nat) (zs : List Int) (w : World) (ha : Ints w w.heap.size a zs) (hT : Tab w) (hx : zs.length ≤ 1048576) :
    Calls Tryd.prog 23 #[.agg #[.int .i64 m, .slice a zs.length c]] w (RetFB w (dualM m zs) (dualZ m zs) (dualIn m zs)) := by
  unfold dualM dualZ
  cases hd : dualIn m zs
  · exact implDual_no m a c zs w ha hx hd
  · have h : famIn m zs = true := by simp only [dualIn, Bool.and_eq_true] at hd; exact hd.1
    obtain ⟨hm1, hm6, -, -⟩ := famIn_out h
    obtain ⟨k, rfl⟩ : ∃ k : Nat, m = (k : Int) := ⟨m.toNat, by omega⟩
    simp only [dualIn, Bool.and_eq_true, decide_eq_true_eq] at hd
    exact implDual_yes k a c zs w ha hT hx h hd.2.1 hd.2.2

end Go.Proofs.YtijhpfecbpkpdaaDoor
