/- It is proved how a list of ints in a captured variable grows; conditions: those of each statement. -/
import Derived.RowKit
import Derived.Laws.CopyRow
import Derived.Lib.SlBuf
import Derived.Deep.QuietTactic
import Derived.RangeFuncNested
import Derived.RangeFuncBound
import Derived.RangeFuncCalls
import Derived.RangeFuncLeaves
import Derived.RangeFuncBox
import Derived.RangeFuncWrites
import Derived.StillTailTactics
import Derived.Maps.OwnIn
import Derived.Maps.Ext
import Derived.DeepKeys4
import Derived.MapKept
import Derived.Test.YtfhhfilkabjhaaaDoorRows
import Derived.WalkKit
import Derived.WalkSpells
import Derived.ProofKit
import Derived.OpenShut
import Derived.ShutString
import Derived.ChangeOld
import Derived.Below
import Derived.Deep.RegionHeld3
import Derived.BigQuiet
import Derived.Lib.Hide
import Derived.Lib.SmallJoins
import Derived.Outline
import Derived.Laws.MakeOwn
import Derived.Laws.OwnMore
import Derived.IntWalk
import Derived.Lib.AppendZeros
import Derived.Maps.AppendAt
import Derived.Deep.AppendLies
import Derived.OwnWalk
import Derived.Lib.SlicesCompact
import Derived.Lib.OwnBridge
import Derived.OrdersIn
import Derived.TacticsIn
import Derived.Shelf.Sort.Plain
import Derived.Shelf.Slices.In.SortNone
import Derived.Shelf.Slices.CompactI
import Derived.Ground.Names2Prog
import Derived.Lib.SliceRun
import Derived.Shelf.Abstract
import Derived.Shelf.RegionOpen
import Derived.OwnWalkIn
import Derived.TacticsInMore
import Derived.LoopNIn
import Derived.LoopIn
import Derived.StillTail
import Derived.StillTactics
import Derived.Shelf.Spec.TrailingZeros
import Derived.Test.YtfhhfilkabjhaaaDoorRaas
import Derived.Test.YtfhhfilkabjhaaaDoorRaab
import Derived.Test.YtfhhfilkabjhaaaDoorKc
import Derived.Test.YtfhhfilkabjhaaaDoorRaak
import Derived.Test.YtfhhfilkabjhaaaDoorRaaf
import Derived.Test.YtfhhfilkabjhaaaDoorRaac
import Derived.Test.YtfhhfilkabjhaaaDoorRaaa
namespace Go.Proofs.YtfhhfilkabjhaaaDoor
open Go.RowKit Go.Shelf

/-- A list of ints in a captured variable, in memory of the call's own. -/
def IntBox (D lo : Nat) (zs : List Int) (W : World) : Prop := ∃ v, HasBlk W D #[v] 22 ∧ W.ownsRow lo 3 1 v zs.length (zs.map (Value.int .i64))

theorem ints_ne : (22 : TypeId) ≠ 3 := by decide
theorem IntBox.own {β : Type} (D lo : Nat) (f : β → List Int) : Own (fun s W => IntBox D lo (f s) W) := by
  rintro s X Y row ⟨v, hv, hr⟩ hg hrow
  refine ⟨v, hv.kept hg (fun e' => ?_), hr.kept hg ?_⟩
  · obtain ⟨o, ho, hc⟩ := hrow D e'
    rw [show X.heap[D]? = _ from hv] at ho; cases ho; cases hc
  · rcases hr.2 with ⟨rfl, _⟩ | ⟨g, cap, cur, rfl, _, hgb, _⟩
    · exact .inl rfl
    · refine .inr fun e' => ?_
      obtain ⟨o, ho, hc⟩ := hrow g (by simpa [Value.ownBlock] using e'.symm)
      rw [hgb] at ho; cases ho; cases hc

theorem IntBox.ownF {β : Type} {B D lo : Nat} (hD : D < B) (f : β → List Int) : OwnF B (fun s W => IntBox D lo (f s) W) := by
  rintro s X Y row ⟨v, hv, hr⟩ hg hrow
  refine ⟨v, hv.kept hg (fun e' => ?_), hr.kept hg ?_⟩
  · have := (hrow D e').1; omega
  · rcases hr.2 with ⟨rfl, _⟩ | ⟨g, cap, cur, rfl, _, hgb, _⟩
    · exact .inl rfl
    · exact .inr fun e' => (hrow g (by simpa [Value.ownBlock] using e'.symm)).2 _ _ hgb

theorem IntBox.set {W : World} {D lo : Nat} {zs : List Int} {v v' : Value} (h : HasBlk W D #[v] 22) (hr : W.ownsRow lo 3 1 v' zs.length (zs.map (Value.int .i64))) : IntBox D lo zs (W.setCell ⟨D, 0, none⟩ v') := by
  refine ⟨v', ?_, ?_⟩
  · exact heap_setCell_same W D 0 #[v] 22 v' h
  · exact ownsRow_setCell_ne hr (by exact (hasBlk_not_row h ints_ne hr).symm) v'

/-- What a store back of a longer list leaves. -/
theorem IntBox.appended {W w1 : World} {D lo : Nat} {zs : List Int} {x : Int} {v v' : Value} {tmp : Obj} (hv : HasBlk W D #[v] 22) (hr : W.ownsRow lo 3 1 v zs.length (zs.map (Value.int .i64))) (hlo : lo ≤ W.heap.size) (hD : lo ≤ D)
    (hown : w1.ownsRow lo 3 1 v' (zs.length + 1) (zs.map (Value.int .i64) ++ [.int .i64 x])) (hgrow : (W.alloc tmp).grownBy w1 v.ownBlock) :
    HasBlk w1 D #[v] 22 ∧ IntBox D lo (zs ++ [x]) (w1.setCell ⟨D, 0, none⟩ v') ∧ KeepsOthers W (w1.setCell ⟨D, 0, none⟩ v') ∧ Below lo W (w1.setCell ⟨D, 0, none⟩ v') := by
  have hv1 : HasBlk w1 D #[v] 22 := (hv.alloc tmp).kept hgrow (hasBlk_not_row hv ints_ne hr).symm
  refine ⟨hv1, IntBox.set hv1 (by rw [List.length_append, List.map_append]; exact hown), ?_, ?_⟩
  · refine ((KeepsOthers.alloc W tmp).trans (KeepsOthers.of_grownBy hgrow fun j o ej hj => ?_)).trans (KeepsOthers.setCell _ _ _)
    rcases (hr.alloc tmp).2 with ⟨rfl, _⟩ | ⟨g, cap, cur, rfl, _, hgb, _⟩
    · simp [Value.ownBlock] at ej
    · obtain rfl : g = j := by simpa [Value.ownBlock] using ej
      rw [hgb] at hj; cases hj; rfl
  · refine (((Below.refl lo W).alloc hlo tmp).grown hgrow (by simp; omega) fun j ej => ?_).setCell (p := ⟨D, 0, none⟩) hD v'
    rcases hr.2 with ⟨rfl, _⟩ | ⟨g, cap, cur, rfl, hb, _, _⟩
    · simp [Value.ownBlock] at ej
    · obtain rfl : g = j := by simpa [Value.ownBlock] using ej
      exact hb

theorem IntBox.alloc {W : World} {D lo : Nat} {zs : List Int} (h : IntBox D lo zs W) (o : Obj) : IntBox D lo zs (W.alloc o) := by
  obtain ⟨v, h1, h2⟩ := h
  exact ⟨v, h1.alloc o, h2.alloc o⟩

theorem IntBox.below {W W' : World} {D lo : Nat} {zs : List Int} (h : IntBox D lo zs W) (hb : Below W.heap.size W W') : IntBox D lo zs W' := by
  obtain ⟨v, h1, h2⟩ := h
  exact ⟨v, (hb.block _ (lt_of_some h1)).trans h1, ownsRow_below h2 hb⟩

theorem IntBox.start (W : World) (lo : Nat) : IntBox W.heap.size lo [] (W.alloc (.cells #[.slice none 0 0] 22)) :=
  ⟨_, alloc_new W _, World.ownsRow_nil _ _ _ _⟩

theorem IntBox.ints {W : World} {D lo : Nat} {zs : List Int} (h : IntBox D lo zs W) : ∃ a c, HasBlk W D #[.slice a zs.length c] 22 ∧ OwnN W lo a zs.length c zs := by
  obtain ⟨v, h1, h2⟩ := h
  obtain ⟨a, c, rfl⟩ := slice_form h2
  exact ⟨a, c, h1, h2⟩

end Go.Proofs.YtfhhfilkabjhaaaDoor

/- It is proved what triedCovers returns; conditions: those of each statement. -/
namespace Go.Proofs.YtfhhfilkabjhaaaDoor
open Go.RowKit Go.Shelf

attribute [local go_sem] Oper.semAt_some

theorem FamBox.ownF {β : Type} {B D lo : Nat} (hD : D < B) (m : Int) (f : β → List Int) : OwnF B (fun s W => FamBox D lo m (f s) W) := by
  rintro s X Y row ⟨v, hv, hr⟩ hg hrow
  refine ⟨v, hv.kept hg (fun e' => ?_), hr.kept hg ?_⟩
  · have := (hrow D e').1; omega
  · rcases hr.2 with ⟨rfl, _⟩ | ⟨g, cap, cur, rfl, _, hgb, _⟩
    · exact .inl rfl
    · exact .inr fun e' => (hrow g (by simpa [Value.ownBlock] using e'.symm)).2 _ _ hgb

theorem HasBlk.ownF {β : Type} {B b : Nat} (hb : b < B) (cs : Array Value) (t : TypeId) : OwnF B (fun (_ : β) W => HasBlk W b cs t) := fun s X Y row hs hg hrow =>
  hs.kept hg (fun e' => by have := (hrow b e').1; omega)

end Go.Proofs.YtfhhfilkabjhaaaDoor

/- It is proved what grownBy of the program returns; conditions: those of each statement. -/
namespace Go.Proofs.YtfhhfilkabjhaaaDoor
open Go.RowKit Go.Shelf

attribute [local go_sem] Oper.semAt_some

theorem wpListIn_append_run {F : Fence} {n : Nat} {P : Program} {w : World} {ops : Array Oper} {rest : List Oper} {o : Oper} {a : Act} {Q : Exit → Act → World → Prop}
    (hg : o.guard = none) (s x : Operand) (t tn : TypeId) (hop : o.op = Op.call { callee := Callee.builtin Builtin.append, args := #[s, x], argTypes := #[t, tn] }) (vs vx : Value) (hs : a.eval s = vs) (hx : a.eval x = vx)
    {v' : Value} {w' : World} (hrun : (Builtin.append_ #[t, tn] o.type #[vs, vx]).run P w = .ok v' w') (hK : wpListIn F n P ops Q rest (a.put o.dst v') w') : wpListIn F n P ops Q (o :: rest) a w := by
  refine wpListIn_plain hg fun K hK' => ?_
  unfold Oper.wpIn
  refine ⟨?_, ?_⟩
  · simp [Oper.about, hop, resolve, Target.leads, Sem.run_pure]
  · rw [Oper.semAt_plain F _ _ (by rw [hop]; intro c hc'; cases hc')]
    simp [execOp, hop, resolve, invoke, builtin, hs, hx, hrun, Result.andThen]
    exact hK' _ _ hK

theorem appW_run {W : World} {lo n : Nat} {v : Value} {xs : List Int} (h : W.ownsRow lo 3 1 v n (xs.map (Value.int .i64))) (hlo : lo ≤ W.heap.size) (hn : n ≤ 100000) (x : Int) :
    ∃ v' w1, (Builtin.append_ #[22, 22] 22 #[v, .slice (some ⟨W.heap.size, 0, none⟩) 1 1]).run Tryd.prog (W.alloc (.cells #[.int .i64 x] 3)) = .ok v' w1 ∧ w1.ownsRow lo 3 1 v' (n + 1) (xs.map (Value.int .i64) ++ [.int .i64 x]) ∧ (W.alloc (.cells #[.int .i64 x] 3)).grownBy w1 v.ownBlock := by
  obtain ⟨i0, hi0, hz0, hz1, hz2⟩ := info_parts Tryd.info3
  have hnb := alloc_new W (.cells #[.int .i64 x] 3)
  have hsz : (W.alloc (.cells #[.int .i64 x] 3)).heap.size = W.heap.size + 1 := by simp
  obtain ⟨v', w1, hr, h2, h3, _⟩ := run_append_own (P := Tryd.prog) (W.alloc (.cells #[.int .i64 x] 3)) lo 22 22 3 i0 (.int .i64 0) 1 8 Tryd.underlying22 hi0 hz0 hz1 hz2 rfl (by decide) v n _ (World.ownsRow.alloc h _) ⟨W.heap.size, 0, none⟩ 1 1 [.int .i64 x] (by simp)
    (fun j u hu => by
      have hj : j = 0 := by have := (List.getElem?_eq_some_iff.1 hu).1; simpa using this
      subst hj
      simp at hu
      subst hu
      exact blk_cell hnb 0) (by simp [Value.oneCell']) (by simp only [maxLen]; omega) (by omega) (by omega)
  exact ⟨v', w1, hr, h2, h3⟩

end Go.Proofs.YtfhhfilkabjhaaaDoor

/- It is proved what l1None, l1With and the model's FamilyMeet return; conditions: those of each statement. -/
namespace Go.Proofs.YtfhhfilkabjhaaaDoor
open Go.RowKit

theorem alloc2_0 (w : World) (o p : Obj) : ((w.alloc o).alloc p).heap[w.heap.size]? = some o := by rw [alloc_old _ _ _ (by simp), alloc_new]
theorem alloc2_1 (w : World) (o p : Obj) : ((w.alloc o).alloc p).heap[w.heap.size + 1]? = some p := by
  rw [show w.heap.size + 1 = (w.alloc o).heap.size from by simp, alloc_new]

/-- A new empty row. -/
theorem own_empty {w : World} {B g : Nat} (h : w.heap[g]? = some (.cells #[] 3 (0, 0))) (hB : B ≤ g) : OwnI w B (.slice (some ⟨g, 0, none⟩) 0 0) [] :=
  ⟨by simp, .inr ⟨g, 0, #[], rfl, hB, h, Nat.le_refl _, by simp [maxLen], by simp, by simp⟩⟩

theorem map_at (f : Int → Int) (zs : List Int) (k : Nat) (h : k < zs.length) : (zs.take (k + 1)).map f = (zs.take k).map f ++ [f (zs[k]?.getD 0)] := by
  rw [List.take_succ_eq_append_getElem h, List.map_append]; simp [h]

/-- What a function that maps the clubs comes to. -/
def famMap (c : Bool) (_m : Int) (f : Int → Int) (zs : List Int) : List Int := if c then zs.map f else []

def famM (c : Bool) (m : Int) : Int := if c then m else 0
theorem OwnI.form {w : World} {B : Nat} {v : Value} {zs : List Int} (h : OwnI w B v zs) (hn : 0 < zs.length) : ∃ g cap, v = .slice (some ⟨g, 0, none⟩) zs.length cap ∧ B ≤ g ∧ g < w.heap.size := World.ownsRow.form h hn
end Go.Proofs.YtfhhfilkabjhaaaDoor
