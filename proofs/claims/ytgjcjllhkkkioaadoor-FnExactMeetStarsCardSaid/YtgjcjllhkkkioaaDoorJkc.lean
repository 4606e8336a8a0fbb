/- It is proved that the call of the law FnProper returns true; conditions: those of each statement. -/
import Derived.RowKit
import Derived.Laws.CopyRow
import Derived.Lib.SlBuf
import Derived.Deep.QuietTactic
import Derived.RangeFuncNested
import Derived.RangeFuncBound
import Derived.RangeFuncCalls
import Derived.RangeFuncLeaves
import Derived.RangeFuncBox
import Derived.RangeFuncWrites
import Derived.StillTailTactics
import Derived.Maps.OwnIn
import Derived.Maps.Ext
import Derived.DeepKeys4
import Derived.MapKept
import Derived.Test.YtgjcjllhkkkioaaDoorRows
import Derived.WalkKit
import Derived.WalkSpells
import Derived.ProofKit
import Derived.OpenShut
import Derived.ShutString
import Derived.ChangeOld
import Derived.Below
import Derived.Deep.RegionHeld3
import Derived.BigQuiet
import Derived.Lib.Hide
import Derived.Lib.SmallJoins
import Derived.Outline
import Derived.Laws.MakeOwn
import Derived.Laws.OwnMore
import Derived.IntWalk
import Derived.Maps.AppendAt
import Derived.Sort.MapsRangeIn
import Derived.Deep.RegionLaw
import Derived.Deep.AppendLies
import Derived.Deep.RegionWith
import Derived.Lib.AppendZeros
import Derived.OwnWalk
import Derived.Lib.SlicesCompact
import Derived.Lib.OwnBridge
import Derived.OrdersIn
import Derived.TacticsIn
import Derived.Shelf.Sort.Plain
import Derived.Shelf.Slices.In.SortNone
import Derived.Shelf.Slices.CompactI
import Derived.Ground.Names2Prog
import Derived.Lib.SliceRun
import Derived.Shelf.RegionOpen
import Derived.Shelf.Abstract
import Derived.OwnWalkIn
import Derived.TacticsInMore
import Derived.LoopNIn
import Derived.LoopIn
import Derived.StillTail
import Derived.StillTactics
import Derived.Shelf.Spec.TrailingZeros
import Derived.Deep.LoopGhost
namespace Go.Proofs.YtgjcjllhkkkioaaDoor
open Go.RowKit

def mostI (ys : List Int) (i : Nat) : Int := (ys.take i).foldl max 0
theorem mostI_succ {ys : List Int} {i : Nat} (h : i < ys.length) : mostI ys (i + 1) = max (mostI ys i) (ys[i]?.getD 0) := by
  unfold mostI
  rw [List.take_succ_eq_append_getElem h, List.foldl_append]
  simp [h]

theorem fold_max : ∀ (l : List Int) (a : Int), a ≤ l.foldl max a ∧ (∀ y ∈ l, y ≤ l.foldl max a) ∧ (l.foldl max a = a ∨ l.foldl max a ∈ l)
  | [], a => ⟨Int.le_refl _, by simp, .inl rfl⟩
  | x :: l, a => by
    obtain ⟨h1, h2, h3⟩ := fold_max l (max a x)
    rw [List.foldl_cons]
    refine ⟨by omega, fun y hy => ?_, ?_⟩
    · rcases List.mem_cons.1 hy with rfl | h
      · omega
      · exact h2 y h
    · rcases h3 with h | h
      · rw [h]
        rcases Int.le_total a x with h4 | h4
        · right; rw [Int.max_eq_right h4]; simp
        · left; exact Int.max_eq_left h4
      · right; simp [h]

theorem mostI_all {ys : List Int} : ∀ y ∈ ys, y ≤ mostI ys ys.length := fun y hy => by
  unfold mostI
  rw [List.take_length]
  exact (fold_max ys 0).2.1 y hy

theorem mostI_le {ys : List Int} {b : Int} (hb : 0 ≤ b) (h : ∀ y ∈ ys, y ≤ b) (i : Nat) : mostI ys i ≤ b := by
  unfold mostI
  rcases (fold_max (ys.take i) 0).2.2 with e | e
  · rw [e]; exact hb
  · exact h _ (List.mem_of_mem_take e)

end Go.Proofs.YtgjcjllhkkkioaaDoor
