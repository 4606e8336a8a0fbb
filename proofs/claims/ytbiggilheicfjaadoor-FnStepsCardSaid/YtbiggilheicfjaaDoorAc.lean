/- It is proved what the method and of a naming returns; conditions: those of each statement. -/
import Derived.Laws.CopyRow
import Derived.Lib.SlBuf
import Derived.Test.YtbiggilheicfjaaDoorRows
import Derived.WalkKit
import Derived.WalkSpells
import Derived.ProofKit
import Derived.OpenShut
import Derived.ShutString
import Derived.ChangeOld
import Derived.Below
import Derived.Deep.RegionHeld3
import Derived.Deep.QuietTactic
import Derived.BigQuiet
import Derived.Lib.Hide
import Derived.Lib.SmallJoins
import Derived.Outline
import Derived.Laws.MakeOwn
import Derived.Laws.OwnMore
import Derived.IntWalk
import Derived.RangeFuncNested
import Derived.RangeFuncBound
import Derived.RangeFuncCalls
import Derived.RangeFuncLeaves
import Derived.RangeFuncBox
import Derived.Shelf.Abstract
import Derived.Shelf.RegionOpen
import Derived.OwnWalkIn
import Derived.TacticsInMore
import Derived.LoopNIn
import Derived.LoopIn
import Derived.Maps.AppendAt
import Derived.Deep.AppendLies
import Derived.OwnWalk
import Derived.Shelf.Spec.TrailingZeros
import Derived.Test.YtbiggilheicfjaaDoorMua
namespace Go.Proofs.YtbiggilheicfjaaDoor
open Go.RowKit Go.Shelf

/-- Numbers as cells. -/
def iv (xs : List Int) : Array Value := (xs.map (Value.int .i64)).toArray

theorem iv_at (xs : List Int) (i : Nat) (h : i < xs.length) : (iv xs)[i]? = some (.int .i64 (xs[i]?.getD 0)) := by simp [iv, h]
/-- Block b holds just these numbers. -/
def Nums (W : World) (b : Nat) (t : TypeId) (xs : List Int) : Prop := HasBlk W b (iv xs) t

theorem Nums.cell {W : World} {b : Nat} {t : TypeId} {xs : List Int} (h : Nums W b t xs) (i : Nat) (hi : i < xs.length) : W.cell? ⟨b, i, none⟩ = some (.int .i64 (xs[i]?.getD 0)) := (blk_cell h i).trans (iv_at xs i hi)
theorem Nums.frozen {W : World} {b : Nat} {t : TypeId} {xs : List Int} (h : Nums W b t xs) (i : Nat) : W.frozen? ⟨b, i, none⟩ = false := blk_frozen h i
theorem Nums.lt {W : World} {b : Nat} {t : TypeId} {xs : List Int} (h : Nums W b t xs) : b < W.heap.size := lt_of_some h
theorem Nums.alloc {W : World} {b : Nat} {t : TypeId} {xs : List Int} (h : Nums W b t xs) (o : Obj) : Nums (W.alloc o) b t xs := HasBlk.alloc h o
theorem Nums.kept {W W' : World} {b : Nat} {t : TypeId} {xs : List Int} {row : Option Nat} (h : Nums W b t xs) (hg : W.grownBy W' row) (hr : row ≠ some b) : Nums W' b t xs := HasBlk.kept h hg hr
theorem Nums.below {W W' : World} {b B : Nat} {t : TypeId} {xs : List Int} (h : Nums W b t xs) (hb : Below B W W') (hB : b < B) : Nums W' b t xs := (hb.block b hB).trans h
theorem Nums.far {W : World} {b : Nat} {t : TypeId} {xs : List Int} (h : Nums W b t xs) {p : Addr} (hp : b ≠ p.block) (u : Value) : Nums (W.setCell p u) b t xs := HasBlk.far h hp u
theorem Nums.set {W : World} {b : Nat} {t : TypeId} {xs : List Int} (h : Nums W b t xs) (i : Nat) (x : Int) : Nums (W.setCell ⟨b, i, none⟩ (.int .i64 x)) b t (xs.set i x) := by
  have := heap_setCell_same W b i (iv xs) t (.int .i64 x) h
  unfold Nums HasBlk
  rw [this]
  simp [iv, List.map_set]

theorem Nums.row {W : World} {b : Nat} {t : TypeId} {xs : List Int} (h : Nums W b t xs) (ys : List Int) : Nums (W.setRow b ((ys.map (Value.int .i64)).toArray)) b t ys := setRow_heap W b (iv xs) _ t _ h
theorem iv_inj {xs ys : List Int} (h : iv xs = iv ys) : xs = ys := by
  have h2 : xs.map (Value.int .i64) = ys.map (Value.int .i64) := by simpa [iv] using h
  exact (List.map_inj_right (fun a b e => by injection e)).1 h2

end Go.Proofs.YtbiggilheicfjaaDoor
