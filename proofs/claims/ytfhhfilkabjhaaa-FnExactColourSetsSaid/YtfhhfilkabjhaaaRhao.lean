/- It is proved how a list of ints in a captured variable grows; conditions: those of each statement. -/
import Derived.RowKit
import Derived.Laws.CopyRow
import Derived.Lib.SlBuf
import Derived.Deep.QuietTactic
import Derived.RangeFuncNested
import Derived.RangeFuncBound
import Derived.RangeFuncCalls
import Derived.RangeFuncLeaves
import Derived.RangeFuncBox
import Derived.RangeFuncWrites
import Derived.StillTailTactics
import Derived.Maps.OwnIn
import Derived.Maps.Ext
import Derived.DeepKeys4
import Derived.MapKept
import Derived.Test.YtfhhfilkabjhaaaRows
import Derived.WalkKit
import Derived.WalkSpells
import Derived.ProofKit
import Derived.OpenShut
import Derived.ShutString
import Derived.ChangeOld
import Derived.Below
import Derived.Deep.RegionHeld3
import Derived.BigQuiet
import Derived.Lib.Hide
import Derived.Lib.SmallJoins
import Derived.Outline
import Derived.Laws.MakeOwn
import Derived.Laws.OwnMore
import Derived.IntWalk
import Derived.Deep.RegionLaw
import Derived.Deep.AppendLies
import Derived.Lib.AppendZeros
import Derived.Maps.AppendAt
import Derived.OwnWalk
import Derived.Lib.SlicesCompact
import Derived.Lib.OwnBridge
import Derived.OrdersIn
import Derived.TacticsIn
import Derived.Shelf.Sort.Plain
import Derived.Shelf.Slices.In.SortNone
import Derived.Shelf.Slices.CompactI
import Derived.Ground.Names2Prog
import Derived.Lib.SliceRun
import Derived.Shelf.Abstract
import Derived.Shelf.RegionOpen
import Derived.OwnWalkIn
import Derived.TacticsInMore
import Derived.LoopNIn
import Derived.LoopIn
import Derived.StillTail
import Derived.StillTactics
import Derived.Shelf.Spec.TrailingZeros
import Derived.Test.YtfhhfilkabjhaaaRhah
import Derived.Test.YtfhhfilkabjhaaaRhab
import Derived.Test.YtfhhfilkabjhaaaRhac
import Derived.Test.YtfhhfilkabjhaaaKc
import Derived.Test.YtfhhfilkabjhaaaRhai
import Derived.Test.YtfhhfilkabjhaaaRhaj
import Derived.Test.YtfhhfilkabjhaaaRhaa
import Derived.Test.YtfhhfilkabjhaaaRhad
import Derived.Test.YtfhhfilkabjhaaaKa
namespace Go.Proofs.Ytfhhfilkabjhaaa
open Go.RowKit Go.Shelf

/-- A list of ints in a captured variable, in memory of the call's own. -/
def IntBox (D lo : Nat) (zs : List Int) (W : World) : Prop := ∃ v, HasBlk W D #[v] 22 ∧ W.ownsRow lo 3 1 v zs.length (zs.map (Value.int .i64))

theorem ints_ne : (22 : TypeId) ≠ 3 := by decide
theorem IntBox.own {β : Type} (D lo : Nat) (f : β → List Int) : Own (fun s W => IntBox D lo (f s) W) := by
  rintro s X Y row ⟨v, hv, hr⟩ hg hrow
  refine ⟨v, hv.kept hg (fun e' => ?_), hr.kept hg ?_⟩
  · obtain ⟨o, ho, hc⟩ := hrow D e'
    rw [show X.heap[D]? = _ from hv] at ho; cases ho; cases hc
  · rcases hr.2 with ⟨rfl, _⟩ | ⟨g, cap, cur, rfl, _, hgb, _⟩
    · exact .inl rfl
    · refine .inr fun e' => ?_
      obtain ⟨o, ho, hc⟩ := hrow g (by simpa [Value.ownBlock] using e'.symm)
      rw [hgb] at ho; cases ho; cases hc

theorem IntBox.ownF {β : Type} {B D lo : Nat} (hD : D < B) (f : β → List Int) : OwnF B (fun s W => IntBox D lo (f s) W) := by
  rintro s X Y row ⟨v, hv, hr⟩ hg hrow
  refine ⟨v, hv.kept hg (fun e' => ?_), hr.kept hg ?_⟩
  · have := (hrow D e').1; omega
  · rcases hr.2 with ⟨rfl, _⟩ | ⟨g, cap, cur, rfl, _, hgb, _⟩
    · exact .inl rfl
    · exact .inr fun e' => (hrow g (by simpa [Value.ownBlock] using e'.symm)).2 _ _ hgb

theorem IntBox.set {W : World} {D lo : Nat} {zs : List Int} {v v' : Value} (h : HasBlk W D #[v] 22) (hr : W.ownsRow lo 3 1 v' zs.length (zs.map (Value.int .i64))) : IntBox D lo zs (W.setCell ⟨D, 0, none⟩ v') := by
  refine ⟨v', ?_, ?_⟩
  · exact heap_setCell_same W D 0 #[v] 22 v' h
  · exact ownsRow_setCell_ne hr (by exact (hasBlk_not_row h ints_ne hr).symm) v'

/-- What a store back of a longer list leaves. -/
theorem IntBox.appended {W w1 : World} {D lo : Nat} {zs : List Int} {x : Int} {v v' : Value} {tmp : Obj} (hv : HasBlk W D #[v] 22) (hr : W.ownsRow lo 3 1 v zs.length (zs.map (Value.int .i64))) (hlo : lo ≤ W.heap.size) (hD : lo ≤ D)
    (hown : w1.ownsRow lo 3 1 v' (zs.length + 1) (zs.map (Value.int .i64) ++ [.int .i64 x])) (hgrow : (W.alloc tmp).grownBy w1 v.ownBlock) :
    HasBlk w1 D #[v] 22 ∧ IntBox D lo (zs ++ [x]) (w1.setCell ⟨D, 0, none⟩ v') ∧ KeepsOthers W (w1.setCell ⟨D, 0, none⟩ v') ∧ Below lo W (w1.setCell ⟨D, 0, none⟩ v') := by
  have hv1 : HasBlk w1 D #[v] 22 := (hv.alloc tmp).kept hgrow (hasBlk_not_row hv ints_ne hr).symm
  refine ⟨hv1, IntBox.set hv1 (by rw [List.length_append, List.map_append]; exact hown), ?_, ?_⟩
  · refine ((KeepsOthers.alloc W tmp).trans (KeepsOthers.of_grownBy hgrow fun j o ej hj => ?_)).trans (KeepsOthers.setCell _ _ _)
    rcases (hr.alloc tmp).2 with ⟨rfl, _⟩ | ⟨g, cap, cur, rfl, _, hgb, _⟩
    · simp [Value.ownBlock] at ej
    · obtain rfl : g = j := by simpa [Value.ownBlock] using ej
      rw [hgb] at hj; cases hj; rfl
  · refine (((Below.refl lo W).alloc hlo tmp).grown hgrow (by simp; omega) fun j ej => ?_).setCell (p := ⟨D, 0, none⟩) hD v'
    rcases hr.2 with ⟨rfl, _⟩ | ⟨g, cap, cur, rfl, hb, _, _⟩
    · simp [Value.ownBlock] at ej
    · obtain rfl : g = j := by simpa [Value.ownBlock] using ej
      exact hb

theorem IntBox.alloc {W : World} {D lo : Nat} {zs : List Int} (h : IntBox D lo zs W) (o : Obj) : IntBox D lo zs (W.alloc o) := by
  obtain ⟨v, h1, h2⟩ := h
  exact ⟨v, h1.alloc o, h2.alloc o⟩

theorem IntBox.below {W W' : World} {D lo : Nat} {zs : List Int} (h : IntBox D lo zs W) (hb : Below W.heap.size W W') : IntBox D lo zs W' := by
  obtain ⟨v, h1, h2⟩ := h
  exact ⟨v, (hb.block _ (lt_of_some h1)).trans h1, ownsRow_below h2 hb⟩

theorem IntBox.start (W : World) (lo : Nat) : IntBox W.heap.size lo [] (W.alloc (.cells #[.slice none 0 0] 22)) :=
  ⟨_, alloc_new W _, World.ownsRow_nil _ _ _ _⟩

theorem IntBox.ints {W : World} {D lo : Nat} {zs : List Int} (h : IntBox D lo zs W) : ∃ a c, HasBlk W D #[.slice a zs.length c] 22 ∧ OwnN W lo a zs.length c zs := by
  obtain ⟨v, h1, h2⟩ := h
  obtain ⟨a, c, rfl⟩ := slice_form h2
  exact ⟨a, c, h1, h2⟩

end Go.Proofs.Ytfhhfilkabjhaaa

/- It is proved what l2Own returns; conditions: those of each statement. -/
namespace Go.Proofs.Ytfhhfilkabjhaaa
open Go.RowKit Go.Shelf

theorem field_fam (x0 : Int) (a : Option Addr) (n c : Nat) (w : World) : (Instr.field 28 (.agg #[.int .i64 x0, .slice a n c]) 1).run Try.prog w = .ok (.slice a n c) w := by kernel_rfl
end Go.Proofs.Ytfhhfilkabjhaaa

/- It is proved what coveredBy returns; conditions: those of each statement. -/
namespace Go.Proofs.Ytfhhfilkabjhaaa
open Go.RowKit Go.Shelf

attribute [local go_sem] Oper.semAt_some

set_option maxRecDepth 100000 in
theorem coveredBy_any (m : Nat) (hm : m ≤ 6) (a : Option Addr) (c : Nat) (zs : List Int) (s : Nat) (hs : s < 64) (w : World) (ha : Ints w w.heap.size a zs) (hx : zs.length ≤ 100000) (hz : Sets m zs) :
    Calls Try.prog 20 #[.agg #[.int .i64 (m : Int), .slice a zs.length c], .int .i64 (s : Int)] w fun e w' => e = .returned (.bool (covB zs s)) ∧ Below w.heap.size w w' := by
  have hb1 := below1 w (.cells #[.int .i64 (m : Int), .slice a zs.length c] 28)
  have HC := Lib.hid (missedBy_any m hm a c zs s hs (w.alloc (.cells #[.int .i64 (m : Int), .slice a zs.length c] 28)) ((ha.below hb1).mono (by simp)) hx hz)
  have HB1 := Lib.hid hb1
  have HE : Hid ((((missL zs s).length : Int) == 0) = covB zs s) := Lib.hid (by
    rw [← missL_cov, Bool.eq_iff_iff, beq_iff_eq, beq_iff_eq]; omega)
  clear ha hb1
  go_enter Try.func20, Try.ntmps20
  go_wp2_with fail
  refine HC.out.mono ?_
  rintro e w1 ⟨a1, c1, rfl, -, hb⟩
  have HB := Lib.hid (HB1.out.trans (hb.mono (by simp)))
  clear hb
  have hff := field_fam
  go_wp2
  go_ret
  exact ⟨by rw [HE.out]; rfl, HB.out⟩

end Go.Proofs.Ytfhhfilkabjhaaa

/- It is proved what FamilyCommon of the program and of the model return; conditions: those of each statement. -/
namespace Go.Proofs.Ytfhhfilkabjhaaa
open Go.RowKit Go.Shelf

attribute [local go_sem] Oper.semAt_some

theorem full_any (m : Int) (a : Option Addr) (n cap : Nat) (w : World) (h1 : 1 ≤ m) (h2 : m ≤ 6) :
    Calls Try.prog 21 #[.agg #[.int .i64 m, .slice a n cap]] w fun e w' => e = .returned (.int .i64 (fullI m)) ∧ w' = w.alloc (.cells #[.int .i64 m, .slice a n cap] 28) := by
  rcases m16 h1 h2 with rfl | rfl | rfl | rfl | rfl | rfl
  all_goals
    go_enter Try.func21, Try.ntmps21
    go_wp2
    go_ret
    exact ⟨rfl, rfl⟩

end Go.Proofs.Ytfhhfilkabjhaaa
