/- It is proved what the method and of a naming returns; conditions: those of each statement. -/
import Derived.Laws.CopyRow
import Derived.Lib.SlBuf
import Derived.Test.YtjclfpcnfmpjdaaDoorRows
import Derived.WalkKit
import Derived.WalkSpells
import Derived.ProofKit
import Derived.OpenShut
import Derived.ShutString
import Derived.ChangeOld
import Derived.Below
import Derived.Deep.RegionHeld3
import Derived.Deep.QuietTactic
import Derived.BigQuiet
import Derived.Lib.Hide
import Derived.Lib.SmallJoins
import Derived.Outline
import Derived.Laws.MakeOwn
import Derived.Laws.OwnMore
import Derived.IntWalk
import Derived.Lib.AppendZeros
import Derived.Maps.AppendAt
import Derived.Deep.AppendLies
import Derived.OwnWalk
import Derived.RangeFuncNested
import Derived.RangeFuncBound
import Derived.RangeFuncCalls
import Derived.RangeFuncLeaves
import Derived.RangeFuncBox
import Derived.Shelf.Abstract
import Derived.Shelf.RegionOpen
import Derived.OwnWalkIn
import Derived.TacticsInMore
import Derived.LoopNIn
import Derived.LoopIn
import Derived.Shelf.Spec.TrailingZeros
import Derived.Test.YtjclfpcnfmpjdaaDoorMo
namespace Go.Proofs.YtjclfpcnfmpjdaaDoor
open Go.RowKit Go.Shelf

def z13 : Array Value := #[Value.int IntKind.i64 0, Value.int IntKind.i64 0, Value.int IntKind.i64 0, Value.int IntKind.i64 0, Value.int IntKind.i64 0, Value.int IntKind.i64 0, Value.int IntKind.i64 0, Value.int IntKind.i64 0, Value.int IntKind.i64 0, Value.int IntKind.i64 0, Value.int IntKind.i64 0, Value.int IntKind.i64 0, Value.int IntKind.i64 0]
theorem copy_first (xs ps : List Int) (hl : xs.length = 13) (hp : ps.length ≤ 6) (h0 : 1 ≤ ps.length) (a : Option Addr) (c : Nat) (w : World) (ha : Ints w w.heap.size a ps) :
    ∃ W3, (∀ ty, (Builtin.copy_ #[23, 23] ty #[.slice (some ⟨w.heap.size, 0, none⟩) 6 6, .slice a ps.length c]).run Tryd.prog ((w.alloc (.cells (iv xs) 78)).alloc (.cells z13 78)) = .ok (.int .i64 (ps.length : Int)) W3) ∧
      Nums W3 w.heap.size 78 (ps ++ xs.drop ps.length) ∧ HasBlk W3 (w.heap.size + 1) z13 78 ∧ Below w.heap.size w W3 := by
  have hb2 := below2 w (.cells (iv xs) 78) (.cells z13 78)
  have q0 := alloc2_0 w (.cells (iv xs) 78) (.cells z13 78)
  have q1 := alloc2_1 w (.cells (iv xs) 78) (.cells z13 78)
  obtain ⟨W, hW⟩ : ∃ W, (w.alloc (.cells (iv xs) 78)).alloc (.cells z13 78) = W := ⟨_, rfl⟩
  rw [hW] at hb2 q0 q1 ⊢
  obtain ⟨b, off, rfl, hbb, hcc⟩ := ha.at_ (k := 0) (by omega)
  have hA := (ha.below hb2).add_
  have hr := fun ty => run_copy_row (P := Tryd.prog) W 23 23 ty 3 w.heap.size 0 6 6 ⟨b, off, none⟩ ps.length c (iv xs) 78 (ps.map (Value.int .i64)) Tryd.underlying23 (by
    obtain ⟨i0, hi0, hz0, hz1, hz2⟩ := info_parts Tryd.info3
    simp [hi0, hz1]) q0 (by simp [Nat.min_def]; omega) hA (by rw [iv_size]; simp; omega) (by simp [Value.oneCell'])
  refine ⟨W.setRow w.heap.size (((iv xs).toList.take 0 ++ ps.map (Value.int .i64) ++ (iv xs).toList.drop (0 + (ps.map (Value.int .i64)).length)).toArray), fun ty => (hr ty).trans ?_, ?_, ?_, ?_⟩
  · simp [goInt]
  · have := setRow_heap W w.heap.size (iv xs) (((iv xs).toList.take 0 ++ ps.map (Value.int .i64) ++ (iv xs).toList.drop (0 + (ps.map (Value.int .i64)).length)).toArray) 78 _ q0
    unfold Nums HasBlk
    rw [this]
    simp [iv, List.map_drop]
  · exact (setRow_other W w.heap.size (w.heap.size + 1) _ (by omega)).trans q1
  · exact hb2.grown (row := some w.heap.size) ⟨rfl, rfl, rfl, by simp, fun k _ hk => setRow_other _ _ _ _ (fun e => hk (by rw [e]))⟩ hb2.size (fun j e => by cases e; exact Nat.le_refl _)

end Go.Proofs.YtjclfpcnfmpjdaaDoor
