/- It is proved that the call of the law FnFamily returns true; conditions: those of each statement. -/
import Derived.Test.YtckbhhaigpajpaaDoorRows
import Derived.WalkKit
import Derived.WalkSpells
import Derived.ProofKit
import Derived.OpenShut
import Derived.ShutString
import Derived.ChangeOld
import Derived.Below
import Derived.Deep.RegionHeld3
import Derived.Deep.QuietTactic
import Derived.BigQuiet
import Derived.Lib.Hide
import Derived.Lib.SmallJoins
import Derived.Outline
import Derived.Laws.MakeOwn
import Derived.Laws.OwnMore
import Derived.IntWalk
import Derived.Deep.RegionLaw
import Derived.Deep.AppendLies
import Derived.Deep.RegionWith
import Derived.RangeFuncNested
import Derived.RangeFuncBound
import Derived.RangeFuncCalls
import Derived.RangeFuncLeaves
import Derived.RangeFuncBox
import Derived.Shelf.Abstract
import Derived.Shelf.RegionOpen
import Derived.OwnWalkIn
import Derived.TacticsInMore
import Derived.LoopNIn
import Derived.LoopIn
import Derived.Maps.AppendAt
import Derived.OwnWalk
import Derived.StillTail
import Derived.StillTactics
import Derived.OrdersIn
import Derived.TacticsIn
import Derived.Shelf.Spec.TrailingZeros
import Derived.StillTailTactics
import Derived.Test.YtckbhhaigpajpaaDoorRaab
import Derived.Test.YtckbhhaigpajpaaDoorPm
import Derived.Test.YtckbhhaigpajpaaDoorRaae
import Derived.Test.YtckbhhaigpajpaaDoorRaaf
import Derived.Test.YtckbhhaigpajpaaDoorTc
import Derived.Test.YtckbhhaigpajpaaDoorRaal
import Derived.Test.YtckbhhaigpajpaaDoorZb
namespace Go.Proofs.YtckbhhaigpajpaaDoor
open Go.RowKit

theorem degs_small {k : Nat} {zs : List Int} (h : famIn (k : Int) zs = true) : ∀ z ∈ degL k (allMem zs), 0 ≤ z ∧ z ≤ 1000 := by
  intro z hz
  obtain ⟨h1, h2, h3, h4⟩ := famIn_out h
  unfold degL at hz
  obtain ⟨v, hv, rfl⟩ := List.mem_map.1 hz
  have hvk := List.mem_range.1 hv
  rw [count_all (by omega) zs (small63 h)]
  have := List.countP_le_length (p := hasM v) (l := zs)
  omega

theorem popG_small {z : Int} (h3 : 0 ≤ z) (h4 : z ≤ 63) : 0 ≤ pop z ∧ pop z ≤ 6 := by
  have h := pop_mem (s := z.toNat) (by omega)
  rw [Int.toNat_of_nonneg h3] at h
  have := mem_length z.toNat (by omega)
  omega

theorem family_facts {m : Int} {zs : List Int} (h : famIn m zs = true) : (famDeg m zs).sum = (sizesZ m zs).sum ∧ ((famDeg m zs).length : Int) = m ∧ (sizesZ m zs).length = zs.length ∧ (∀ z ∈ famDeg m zs, 0 ≤ z ∧ z ≤ 1000) ∧ ∀ z ∈ sizesZ m zs, 0 ≤ z ∧ z ≤ 1000 := by
  obtain ⟨h1, h2, h3, h4⟩ := famIn_out h
  have e1 : sizesZ m zs = zs.map pop := by simp [sizesZ, h]
  rw [e1]
  refine ⟨sums_same h, ?_, by simp, ?_, ?_⟩
  · rw [famDeg, if_pos h, degL_length]; omega
  · obtain ⟨k, rfl⟩ : ∃ k : Nat, m = (k : Int) := ⟨m.toNat, by omega⟩
    rw [famDeg, if_pos h, Int.toNat_natCast]
    exact degs_small h
  · intro y hy
    obtain ⟨z, hz, rfl⟩ := List.mem_map.1 hy
    have := small63 h z hz
    have := popG_small this.1 this.2
    omega

end Go.Proofs.YtckbhhaigpajpaaDoor
