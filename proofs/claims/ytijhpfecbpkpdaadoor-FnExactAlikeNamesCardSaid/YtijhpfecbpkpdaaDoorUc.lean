/- It is proved what FamilyDual of the model returns; conditions: those of each statement. -/
import Derived.StillTailTactics
import Derived.Test.YtijhpfecbpkpdaaDoorRows
import Derived.WalkKit
import Derived.WalkSpells
import Derived.ProofKit
import Derived.OpenShut
import Derived.ShutString
import Derived.ChangeOld
import Derived.Below
import Derived.Deep.RegionHeld3
import Derived.Deep.QuietTactic
import Derived.BigQuiet
import Derived.Lib.Hide
import Derived.Lib.SmallJoins
import Derived.Outline
import Derived.Laws.MakeOwn
import Derived.Laws.OwnMore
import Derived.IntWalk
import Derived.RangeFuncNested
import Derived.RangeFuncBound
import Derived.RangeFuncCalls
import Derived.RangeFuncLeaves
import Derived.RangeFuncBox
import Derived.Shelf.Abstract
import Derived.Shelf.RegionOpen
import Derived.OwnWalkIn
import Derived.TacticsInMore
import Derived.LoopNIn
import Derived.LoopIn
import Derived.Maps.AppendAt
import Derived.Deep.AppendLies
import Derived.OwnWalk
import Derived.StillTail
import Derived.StillTactics
import Derived.OrdersIn
import Derived.TacticsIn
import Derived.Shelf.Spec.TrailingZeros
import Derived.Test.YtijhpfecbpkpdaaDoorMj
namespace Go.Proofs.YtijhpfecbpkpdaaDoor
open Go.RowKit

/-- The row while the club at place i is told: the first j members are through. -/
def dualS (m : Nat) (ps : List (Nat × Nat)) (i s j : Nat) : List Int := (List.range m).map fun v => ((if v < j then dualBits ps v ||| (((s >>> v) &&& 1) * 2 ^ i) else dualBits ps v : Nat) : Int)

theorem dualS_zero (m : Nat) (ps : List (Nat × Nat)) (i s : Nat) : dualS m ps i s 0 = dualL m ps := by simp [dualS, dualL]
theorem dualS_length (m : Nat) (ps : List (Nat × Nat)) (i s j : Nat) : (dualS m ps i s j).length = m := by simp [dualS]
theorem dualS_at (m : Nat) (ps : List (Nat × Nat)) (i s j : Nat) (h : j < m) : (dualS m ps i s j)[j]? = some ((dualBits ps j : Nat) : Int) := by simp [dualS, h]
theorem dualS_all (m : Nat) (ps : List (Nat × Nat)) (i s : Nat) (hm : m ≤ 6) (hs : s < 64) : dualS m ps i s m = dualL m (ps ++ (mem s).map fun u => (i, u)) := by
  apply List.ext_getElem
  · simp [dualS, dualL]
  · intro v h1 h2
    have hv : v < m := by simpa [dualS] using h1
    simp only [dualS, dualL, List.getElem_map, List.getElem_range, if_pos hv]
    rw [mem_bit s hs v (by omega), dualBits_club]
    split <;> simp

theorem dualS_succ (m : Nat) (ps : List (Nat × Nat)) (i s j : Nat) : dualS m ps i s (j + 1) = (dualS m ps i s j).set j (((dualBits ps j ||| (((s >>> j) &&& 1) * 2 ^ i) : Nat)) : Int) := by
  apply List.ext_getElem
  · simp [dualS]
  · intro v h1 h2
    have hv : v < m := by simpa [dualS] using h1
    simp only [dualS, List.getElem_map, List.getElem_range, List.getElem_set]
    by_cases h : j = v
    · subst h; simp
    · rw [if_neg h]
      have : (v < j + 1) ↔ (v < j) := by omega
      simp [this]

set_option maxRecDepth 100000 in
theorem or1_fin : ∀ x : Fin 256, ∀ e : Fin 2, ∀ p : Fin 8, bits BinOp.or IntKind.i64 (x.val : Int) ((e.val : Int) * 2 ^ p.val) = ((x.val ||| (e.val * 2 ^ p.val) : Nat) : Int) := by decide +kernel

theorem or1_at (x e p : Nat) (hx : x < 256) (he : e ≤ 1) (hp : p < 8) : bits BinOp.or IntKind.i64 (x : Int) ((e : Int) * 2 ^ p) = ((x ||| (e * 2 ^ p) : Nat) : Int) := or1_fin ⟨x, hx⟩ ⟨e, by omega⟩ ⟨p, hp⟩
theorem e2_small (e p : Nat) (he : e ≤ 1) (hp : p < 8) : (e : Int) * 2 ^ p ≤ 128 ∧ 0 ≤ (e : Int) * 2 ^ p := by
  obtain ⟨h1, h2⟩ := p2_small p hp
  obtain rfl | rfl : e = 0 ∨ e = 1 := by omega
  · simp
  · simp; omega

theorem prsP_lt8 (zs : List Int) (k : Nat) (hk : k ≤ 8) : ∀ x ∈ prsP (pairs zs k), x.1 < 8 := prsP_lt _ (by
  intro p hp
  obtain ⟨j, hj, rfl⟩ := List.mem_map.1 hp
  have := List.mem_range.1 hj
  show j < 8
  omega)

end Go.Proofs.YtijhpfecbpkpdaaDoor
