/- It is proved how a list of ints in a captured variable grows; conditions: those of each statement. -/
import Derived.RowKit
import Derived.Laws.CopyRow
import Derived.Lib.SlBuf
import Derived.Deep.QuietTactic
import Derived.RangeFuncNested
import Derived.RangeFuncBound
import Derived.RangeFuncCalls
import Derived.RangeFuncLeaves
import Derived.RangeFuncBox
import Derived.RangeFuncWrites
import Derived.StillTailTactics
import Derived.Maps.OwnIn
import Derived.Maps.Ext
import Derived.DeepKeys4
import Derived.MapKept
import Derived.Test.YtlfbpaphjkbcmaaRows
import Derived.WalkKit
import Derived.WalkSpells
import Derived.ProofKit
import Derived.OpenShut
import Derived.ShutString
import Derived.ChangeOld
import Derived.Below
import Derived.Deep.RegionHeld3
import Derived.BigQuiet
import Derived.Lib.Hide
import Derived.Lib.SmallJoins
import Derived.Outline
import Derived.Laws.MakeOwn
import Derived.Laws.OwnMore
import Derived.IntWalk
import Derived.Deep.RegionLaw
import Derived.Deep.AppendLies
import Derived.Lib.AppendZeros
import Derived.Maps.AppendAt
import Derived.OwnWalk
import Derived.Lib.SlicesCompact
import Derived.Lib.OwnBridge
import Derived.OrdersIn
import Derived.TacticsIn
import Derived.Shelf.Sort.Plain
import Derived.Shelf.Slices.In.SortNone
import Derived.Shelf.Slices.CompactI
import Derived.Ground.Names2Prog
import Derived.Lib.SliceRun
import Derived.Shelf.Abstract
import Derived.Shelf.RegionOpen
import Derived.OwnWalkIn
import Derived.TacticsInMore
import Derived.LoopNIn
import Derived.LoopIn
import Derived.StillTail
import Derived.StillTactics
import Derived.Shelf.Spec.TrailingZeros
import Derived.Test.YtlfbpaphjkbcmaaAr
import Derived.Test.YtlfbpaphjkbcmaaC
import Derived.Test.YtlfbpaphjkbcmaaK
import Derived.Test.YtlfbpaphjkbcmaaKc
import Derived.Test.YtlfbpaphjkbcmaaKe
import Derived.Test.YtlfbpaphjkbcmaaOw
import Derived.Test.YtlfbpaphjkbcmaaSa
namespace Go.Proofs.Ytlfbpaphjkbcmaa
open Go.RowKit Go.Shelf

/-- A list of ints in a captured variable, in memory of the call's own. -/
def IntBox (D lo : Nat) (zs : List Int) (W : World) : Prop := ∃ v, HasBlk W D #[v] 22 ∧ W.ownsRow lo 3 1 v zs.length (zs.map (Value.int .i64))

theorem ints_ne : (22 : TypeId) ≠ 3 := by decide
theorem IntBox.own {β : Type} (D lo : Nat) (f : β → List Int) : Own (fun s W => IntBox D lo (f s) W) := by
  rintro s X Y row ⟨v, hv, hr⟩ hg hrow
  refine ⟨v, hv.kept hg (fun e' => ?_), hr.kept hg ?_⟩
  · obtain ⟨o, ho, hc⟩ := hrow D e'
    rw [show X.heap[D]? = _ from hv] at ho; cases ho; cases hc
  · rcases hr.2 with ⟨rfl, _⟩ | ⟨g, cap, cur, rfl, _, hgb, _⟩
    · exact .inl rfl
    · refine .inr fun e' => ?_
      obtain ⟨o, ho, hc⟩ := hrow g (by simpa [Value.ownBlock] using e'.symm)
      rw [hgb] at ho; cases ho; cases hc

theorem IntBox.ownF {β : Type} {B D lo : Nat} (hD : D < B) (f : β → List Int) : OwnF B (fun s W => IntBox D lo (f s) W) := by
  rintro s X Y row ⟨v, hv, hr⟩ hg hrow
  refine ⟨v, hv.kept hg (fun e' => ?_), hr.kept hg ?_⟩
  · have := (hrow D e').1; omega
  · rcases hr.2 with ⟨rfl, _⟩ | ⟨g, cap, cur, rfl, _, hgb, _⟩
    · exact .inl rfl
    · exact .inr fun e' => (hrow g (by simpa [Value.ownBlock] using e'.symm)).2 _ _ hgb

theorem IntBox.set {W : World} {D lo : Nat} {zs : List Int} {v v' : Value} (h : HasBlk W D #[v] 22) (hr : W.ownsRow lo 3 1 v' zs.length (zs.map (Value.int .i64))) : IntBox D lo zs (W.setCell ⟨D, 0, none⟩ v') := by
  refine ⟨v', ?_, ?_⟩
  · exact heap_setCell_same W D 0 #[v] 22 v' h
  · exact ownsRow_setCell_ne hr (by exact (hasBlk_not_row h ints_ne hr).symm) v'

/-- What a store back of a longer list leaves. -/
theorem IntBox.appended {W w1 : World} {D lo : Nat} {zs : List Int} {x : Int} {v v' : Value} {tmp : Obj} (hv : HasBlk W D #[v] 22) (hr : W.ownsRow lo 3 1 v zs.length (zs.map (Value.int .i64))) (hlo : lo ≤ W.heap.size) (hD : lo ≤ D)
    (hown : w1.ownsRow lo 3 1 v' (zs.length + 1) (zs.map (Value.int .i64) ++ [.int .i64 x])) (hgrow : (W.alloc tmp).grownBy w1 v.ownBlock) :
    HasBlk w1 D #[v] 22 ∧ IntBox D lo (zs ++ [x]) (w1.setCell ⟨D, 0, none⟩ v') ∧ KeepsOthers W (w1.setCell ⟨D, 0, none⟩ v') ∧ Below lo W (w1.setCell ⟨D, 0, none⟩ v') := by
  have hv1 : HasBlk w1 D #[v] 22 := (hv.alloc tmp).kept hgrow (hasBlk_not_row hv ints_ne hr).symm
  refine ⟨hv1, IntBox.set hv1 (by rw [List.length_append, List.map_append]; exact hown), ?_, ?_⟩
  · refine ((KeepsOthers.alloc W tmp).trans (KeepsOthers.of_grownBy hgrow fun j o ej hj => ?_)).trans (KeepsOthers.setCell _ _ _)
    rcases (hr.alloc tmp).2 with ⟨rfl, _⟩ | ⟨g, cap, cur, rfl, _, hgb, _⟩
    · simp [Value.ownBlock] at ej
    · obtain rfl : g = j := by simpa [Value.ownBlock] using ej
      rw [hgb] at hj; cases hj; rfl
  · refine (((Below.refl lo W).alloc hlo tmp).grown hgrow (by simp; omega) fun j ej => ?_).setCell (p := ⟨D, 0, none⟩) hD v'
    rcases hr.2 with ⟨rfl, _⟩ | ⟨g, cap, cur, rfl, hb, _, _⟩
    · simp [Value.ownBlock] at ej
    · obtain rfl : g = j := by simpa [Value.ownBlock] using ej
      exact hb

theorem IntBox.alloc {W : World} {D lo : Nat} {zs : List Int} (h : IntBox D lo zs W) (o : Obj) : IntBox D lo zs (W.alloc o) := by
  obtain ⟨v, h1, h2⟩ := h
  exact ⟨v, h1.alloc o, h2.alloc o⟩

theorem IntBox.below {W W' : World} {D lo : Nat} {zs : List Int} (h : IntBox D lo zs W) (hb : Below W.heap.size W W') : IntBox D lo zs W' := by
  obtain ⟨v, h1, h2⟩ := h
  exact ⟨v, (hb.block _ (lt_of_some h1)).trans h1, ownsRow_below h2 hb⟩

theorem IntBox.start (W : World) (lo : Nat) : IntBox W.heap.size lo [] (W.alloc (.cells #[.slice none 0 0] 22)) :=
  ⟨_, alloc_new W _, World.ownsRow_nil _ _ _ _⟩

theorem IntBox.ints {W : World} {D lo : Nat} {zs : List Int} (h : IntBox D lo zs W) : ∃ a c, HasBlk W D #[.slice a zs.length c] 22 ∧ OwnN W lo a zs.length c zs := by
  obtain ⟨v, h1, h2⟩ := h
  obtain ⟨a, c, rfl⟩ := slice_form h2
  exact ⟨a, c, h1, h2⟩

end Go.Proofs.Ytlfbpaphjkbcmaa
