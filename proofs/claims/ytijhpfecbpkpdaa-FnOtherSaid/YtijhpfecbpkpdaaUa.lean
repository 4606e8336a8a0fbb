/- It is proved what with returns, what a dual is, and what FamilyDual of the program returns where there is none; conditions: those of each statement. -/
import Derived.Test.YtijhpfecbpkpdaaRows
import Derived.WalkKit
import Derived.WalkSpells
import Derived.ProofKit
import Derived.OpenShut
import Derived.ShutString
import Derived.ChangeOld
import Derived.Below
import Derived.Deep.RegionHeld3
import Derived.Deep.QuietTactic
import Derived.BigQuiet
import Derived.Lib.Hide
import Derived.Lib.SmallJoins
import Derived.Outline
import Derived.Laws.MakeOwn
import Derived.Laws.OwnMore
import Derived.IntWalk
import Derived.RangeFuncNested
import Derived.RangeFuncBound
import Derived.RangeFuncCalls
import Derived.RangeFuncLeaves
import Derived.RangeFuncBox
import Derived.Shelf.Abstract
import Derived.Shelf.RegionOpen
import Derived.OwnWalkIn
import Derived.TacticsInMore
import Derived.LoopNIn
import Derived.LoopIn
import Derived.Maps.AppendAt
import Derived.Deep.AppendLies
import Derived.OwnWalk
import Derived.Shelf.Spec.TrailingZeros
import Derived.Test.YtijhpfecbpkpdaaB
import Derived.Test.YtijhpfecbpkpdaaC
import Derived.Test.YtijhpfecbpkpdaaD
import Derived.Test.YtijhpfecbpkpdaaE
import Derived.Test.YtijhpfecbpkpdaaF
import Derived.Test.YtijhpfecbpkpdaaG
import Derived.Test.YtijhpfecbpkpdaaH
import Derived.Test.YtijhpfecbpkpdaaJ
import Derived.Test.YtijhpfecbpkpdaaK
import Derived.Test.YtijhpfecbpkpdaaL
import Derived.Test.YtijhpfecbpkpdaaN
import Derived.Test.YtijhpfecbpkpdaaO
import Derived.Test.YtijhpfecbpkpdaaP
import Derived.Test.YtijhpfecbpkpdaaSa
import Derived.Test.YtijhpfecbpkpdaaT
import Derived.Test.YtijhpfecbpkpdaaZd
namespace Go.Proofs.Ytijhpfecbpkpdaa
open Go.RowKit Go.Shelf

theorem p2_small (p : Nat) (hp : p < 8) : (2 : Int) ^ p ≤ 128 ∧ 1 ≤ (2 : Int) ^ p := by
  obtain rfl | rfl | rfl | rfl | rfl | rfl | rfl | rfl : p = 0 ∨ p = 1 ∨ p = 2 ∨ p = 3 ∨ p = 4 ∨ p = 5 ∨ p = 6 ∨ p = 7 := by omega
  all_goals decide

/-- The clubs that have a member, as a set of places. -/
def dualBits (ps : List (Nat × Nat)) (v : Nat) : Nat := ps.foldl (fun t p => if p.2 = v then t ||| 2 ^ p.1 else t) 0

def dualL (m : Nat) (ps : List (Nat × Nat)) : List Int := (List.range m).map fun v => ((dualBits ps v : Nat) : Int)
theorem dualL_length (m : Nat) (ps : List (Nat × Nat)) : (dualL m ps).length = m := by simp [dualL]
theorem dualL_at (m : Nat) (ps : List (Nat × Nat)) (v : Nat) (h : v < m) : (dualL m ps)[v]? = some ((dualBits ps v : Nat) : Int) := by simp [dualL, h]
/-- All pairs of a place and a member of the club there. -/
def prsP (l : List (Nat × Int)) : List (Nat × Nat) := l.flatMap fun p => (mem p.2.toNat).map fun u => (p.1, u)

/-- The dual. -/
def dualIn (m : Int) (zs : List Int) : Bool := famIn m zs && (decide (1 ≤ zs.length) && decide (zs.length ≤ 6))

def dualM (m : Int) (zs : List Int) : Int := if dualIn m zs then (zs.length : Int) else 0
def dualZ (m : Int) (zs : List Int) : List Int := if dualIn m zs then dualL m.toNat (prsP (pairs zs zs.length)) else []
theorem own_nil (w : World) (B : Nat) : OwnI w B (.slice none 0 0) [] := World.ownsRow_nil w B 3 1
end Go.Proofs.Ytijhpfecbpkpdaa
