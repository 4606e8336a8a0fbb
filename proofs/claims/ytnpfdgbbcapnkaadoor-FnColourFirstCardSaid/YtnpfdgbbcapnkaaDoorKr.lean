/- It is proved what packed returns; conditions: those of each statement. -/
import Derived.RowKit
import Derived.Laws.CopyRow
import Derived.Lib.SlBuf
import Derived.Deep.QuietTactic
import Derived.RangeFuncNested
import Derived.RangeFuncBound
import Derived.RangeFuncCalls
import Derived.RangeFuncLeaves
import Derived.RangeFuncBox
import Derived.RangeFuncWrites
import Derived.StillTailTactics
import Derived.Maps.OwnIn
import Derived.Maps.Ext
import Derived.DeepKeys4
import Derived.MapKept
import Derived.Test.YtnpfdgbbcapnkaaDoorRows
import Derived.WalkKit
import Derived.WalkSpells
import Derived.ProofKit
import Derived.OpenShut
import Derived.ShutString
import Derived.ChangeOld
import Derived.Below
import Derived.Deep.RegionHeld3
import Derived.BigQuiet
import Derived.Lib.Hide
import Derived.Lib.SmallJoins
import Derived.Outline
import Derived.Laws.MakeOwn
import Derived.Laws.OwnMore
import Derived.IntWalk
import Derived.Lib.AppendZeros
import Derived.Maps.AppendAt
import Derived.Deep.AppendLies
import Derived.OwnWalk
import Derived.Lib.SlicesCompact
import Derived.Lib.OwnBridge
import Derived.OrdersIn
import Derived.TacticsIn
import Derived.Shelf.Sort.Plain
import Derived.Shelf.Slices.In.SortNone
import Derived.Shelf.Slices.CompactI
import Derived.Ground.Names2Prog
import Derived.Lib.SliceRun
import Derived.Shelf.Abstract
import Derived.Shelf.RegionOpen
import Derived.OwnWalkIn
import Derived.TacticsInMore
import Derived.LoopNIn
import Derived.LoopIn
import Derived.StillTail
import Derived.StillTactics
import Derived.Shelf.Spec.TrailingZeros
namespace Go.Proofs.YtnpfdgbbcapnkaaDoor
open Go.RowKit Go.Shelf

attribute [local go_sem] Oper.semAt_some

/-- The members of clubs at some places, and some more. -/
def metU (zs : List Int) (t : Nat) (ps : List Nat) : Nat := ps.foldl (fun t p => t ||| (zs[p]?.getD 0).toNat) t

theorem metU_snoc (zs : List Int) (t : Nat) (ps : List Nat) (p : Nat) : metU zs t (ps ++ [p]) = metU zs t ps ||| (zs[p]?.getD 0).toNat := by simp [metU]
theorem metU_lt {zs : List Int} (hz : ∀ z ∈ zs, z.toNat < 64) : ∀ (ps : List Nat) (t : Nat), t < 64 → metU zs t ps < 64
  | [], t, h => h
  | p :: ps, t, h => by
    rw [metU, List.foldl_cons]
    refine metU_lt hz ps _ (Nat.or_lt_two_pow (n := 6) h ?_)
    by_cases hp : p < zs.length
    · rw [List.getElem?_eq_getElem hp]; exact hz _ (List.getElem_mem _)
    · rw [List.getElem?_eq_none (by omega)]; decide

end Go.Proofs.YtnpfdgbbcapnkaaDoor
