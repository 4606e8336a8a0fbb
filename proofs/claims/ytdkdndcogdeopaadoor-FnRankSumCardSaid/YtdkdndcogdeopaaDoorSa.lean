/- It is proved what a round of the method mapped leaves; conditions: those of each statement. -/
import Derived.Deep.AppendLies
import Derived.Test.YtdkdndcogdeopaaDoorRows
import Derived.WalkKit
import Derived.WalkSpells
import Derived.ProofKit
import Derived.OpenShut
import Derived.ShutString
import Derived.ChangeOld
import Derived.Below
import Derived.Deep.RegionHeld3
import Derived.Deep.QuietTactic
import Derived.BigQuiet
import Derived.Lib.Hide
import Derived.Lib.SmallJoins
import Derived.Outline
import Derived.Laws.MakeOwn
import Derived.Laws.OwnMore
import Derived.IntWalk
import Derived.RangeFuncNested
import Derived.RangeFuncBound
import Derived.RangeFuncCalls
import Derived.RangeFuncLeaves
import Derived.RangeFuncBox
import Derived.Shelf.Abstract
import Derived.Shelf.RegionOpen
import Derived.OwnWalkIn
import Derived.TacticsInMore
import Derived.LoopNIn
import Derived.LoopIn
import Derived.Maps.AppendAt
import Derived.Test.YtdkdndcogdeopaaDoorC
namespace Go.Proofs.YtdkdndcogdeopaaDoor
open Go.RowKit Go.Shelf

attribute [local go_sem] Oper.semAt_some

/-- Block b holds just these cells. -/
def HasBlk (W : World) (b : Nat) (cs : Array Value) (t : TypeId) : Prop := W.heap[b]? = some (.cells cs t (0, 0))

theorem lt_of_some {W : World} {b : Nat} {o : Obj} (h : W.heap[b]? = some o) : b < W.heap.size := (Array.getElem?_eq_some_iff.1 h).1
theorem HasBlk.kept {W W' : World} {b : Nat} {cs : Array Value} {t : TypeId} {row : Option Nat} (h : HasBlk W b cs t) (hg : W.grownBy W' row) (hr : row ≠ some b) : HasBlk W' b cs t := (hg.block b (lt_of_some h) (Ne.symm hr)).trans h
theorem HasBlk.alloc {W : World} {b : Nat} {cs : Array Value} {t : TypeId} (h : HasBlk W b cs t) (o : Obj) : HasBlk (W.alloc o) b cs t := (alloc_old _ _ _ (lt_of_some h)).trans h
theorem HasBlk.far {W : World} {b : Nat} {cs : Array Value} {t : TypeId} (h : HasBlk W b cs t) {p : Addr} (hp : b ≠ p.block) (u : Value) : HasBlk (W.setCell p u) b cs t := (Below.heap_setCell W p u b hp).trans h
theorem ownsRow_base {w : World} {B B' : Nat} {e : TypeId} {size n : Nat} {v : Value} {xs : List Value} (h : w.ownsRow B' e size v n xs) (hB : B ≤ B') : w.ownsRow B e size v n xs := by
  refine ⟨h.1, ?_⟩
  rcases h.2 with h2 | ⟨g, cap, cur, e, hb, r⟩
  · exact .inl h2
  · exact .inr ⟨g, cap, cur, e, by omega, r⟩

theorem ownsRow_setCell_ne {W : World} {B : Nat} {e : TypeId} {size n : Nat} {v : Value} {xs : List Value} (h : W.ownsRow B e size v n xs) {p : Addr} (hp : v.ownBlock ≠ some p.block) (u : Value) : (W.setCell p u).ownsRow B e size v n xs := by
  refine ⟨h.1, ?_⟩
  rcases h.2 with h2 | ⟨g, cap, cur, rfl, hb, hg, r⟩
  · exact .inl h2
  · exact .inr ⟨g, cap, cur, rfl, hb, (Below.heap_setCell W p u g (fun e => hp (by simp [Value.ownBlock, e]))).trans hg, r⟩

theorem cell2_0 (x y : Value) : (#[x, y] : Array Value)[0]? = some x := rfl
theorem cell2_1 (x y : Value) : (#[x, y] : Array Value)[1]? = some y := rfl
theorem cell1_0 (x : Value) : (#[x] : Array Value)[0]? = some x := rfl
end Go.Proofs.YtdkdndcogdeopaaDoor
