import Derived.Test.YtjclfpcnfmpjdaaDoorRows
import Derived.WalkKit
import Derived.WalkSpells
import Derived.ProofKit
import Derived.OpenShut
import Derived.ShutString
import Derived.ChangeOld
import Derived.Below
import Derived.Deep.RegionHeld3
import Derived.Deep.QuietTactic
import Derived.BigQuiet
import Derived.Lib.Hide
import Derived.Lib.SmallJoins
import Derived.Outline
import Derived.Laws.MakeOwn
import Derived.Laws.OwnMore
import Derived.IntWalk
import Derived.Deep.AppendLies
import Derived.RangeFuncNested
import Derived.RangeFuncBound
import Derived.RangeFuncCalls
import Derived.RangeFuncLeaves
import Derived.RangeFuncBox
import Derived.Shelf.Abstract
import Derived.Shelf.RegionOpen
import Derived.OwnWalkIn
import Derived.TacticsInMore
import Derived.LoopNIn
import Derived.LoopIn
import Derived.Maps.AppendAt
import Derived.OwnWalk
import Derived.Shelf.Spec.TrailingZeros
import Derived.Deep.RegionLaw
import Derived.RowKit
import Derived.StillTail
import Derived.StillTactics
import Derived.OrdersIn
import Derived.TacticsIn
import Derived.Laws.CopyRow
import Derived.Lib.SlBuf
import Derived.StillTailTactics
import Derived.Lib.AppendZeros
import Derived.Shelf.Sort.Plain
import Derived.Shelf.Slices.In.SortNone
import Derived.Shelf.Slices.CompactI
import Derived.Ground.Names2Prog
import Derived.Lib.OwnBridge
import Derived.Lib.SlicesCompact
import Derived.RangeFuncWrites
import Derived.Maps.OwnIn
import Derived.Maps.Ext
import Derived.DeepKeys4
import Derived.MapKept
/- It is proved what szIntS, szFamily and toIntS return; conditions: the bounds in each statement. -/
namespace Go.Proofs.YtjclfpcnfmpjdaaDoor
open Go.RowKit

/-- What a slice value's address holds: the ints zs, in a block below B (where there is an int). -/
def Ints (w : World) (B : Nat) (a : Option Addr) (zs : List Int) : Prop :=
  zs = [] ∨ ∃ b off, a = some ⟨b, off, none⟩ ∧ b < B ∧ ∀ j, j < zs.length → w.cell? ⟨b, off + j, none⟩ = some (.int .i64 (zs[j]?.getD 0))

theorem Ints.below {w w' : World} {B : Nat} {a : Option Addr} {zs : List Int} (h : Ints w B a zs) (hb : Below B w w') : Ints w' B a zs := by
  rcases h with h | ⟨b, off, e, hB, hc⟩
  · exact .inl h
  · exact .inr ⟨b, off, e, hB, fun j hj => (hb.cell (p := ⟨b, off + j, none⟩) hB).trans (hc j hj)⟩

theorem Ints.mono {w : World} {B B' : Nat} {a : Option Addr} {zs : List Int} (h : Ints w B a zs) (hB : B ≤ B') : Ints w B' a zs := by
  rcases h with h | ⟨b, off, e, hb, hc⟩
  · exact .inl h
  · exact .inr ⟨b, off, e, by omega, hc⟩

/-- A slice value of the call's own: it owns the ints zs, in a block from B on (or it is nil and zs is empty). -/
def OwnI (w : World) (B : Nat) (v : Value) (zs : List Int) : Prop := w.ownsRow B 3 1 v zs.length (zs.map (Value.int .i64))

theorem Tryd.info3 : (Tryd.prog.info? 3).map (fun i => (i.zero, i.size, i.bytes)) = some (some (.int .i64 0), 1, 8) := by kernel_rfl
def RetInts (w : World) (zs : List Int) (e : Ending) (w' : World) : Prop :=
  ∃ a cap, e = .returned (.slice a zs.length cap) ∧ OwnI w' w.heap.size (.slice a zs.length cap) zs ∧ Below w.heap.size w w'

end Go.Proofs.YtjclfpcnfmpjdaaDoor

/- It is proved what toFamily returns; conditions: the bounds in each statement. -/
namespace Go.Proofs.YtjclfpcnfmpjdaaDoor
open Go.RowKit

theorem own_mono {w : World} {B B' : Nat} {v : Value} {zs : List Int} (h : OwnI w B v zs) (hB : B' ≤ B) : OwnI w B' v zs := by
  refine ⟨h.1, ?_⟩
  rcases h.2 with h2 | ⟨g, cap, cur, e, hb, r⟩
  · exact .inl h2
  · exact .inr ⟨g, cap, cur, e, by omega, r⟩

theorem blk_cell {w : World} {g : Nat} {t : TypeId} {cs : Array Value} (h : w.heap[g]? = some (.cells cs t (0, 0))) (i : Nat) : w.cell? ⟨g, i, none⟩ = cs[i]? := cell_of_row w g i cs t (0, 0) h
theorem blk_frozen {w : World} {g : Nat} {t : TypeId} {cs : Array Value} (h : w.heap[g]? = some (.cells cs t (0, 0))) (i : Nat) : w.frozen? ⟨g, i, none⟩ = false := by simp [World.frozen?, h]
theorem alloc_new (w : World) (o : Obj) : (w.alloc o).heap[w.heap.size]? = some o := heap_alloc_new w o
theorem alloc_old (w : World) (o : Obj) (k : Nat) (h : k < w.heap.size) : (w.alloc o).heap[k]? = w.heap[k]? := Below.heap_alloc w o k h
theorem alloc3_0 (w : World) (o p q : Obj) : (((w.alloc o).alloc p).alloc q).heap[w.heap.size]? = some o := by
  rw [alloc_old _ _ _ (by simp; omega), alloc_old _ _ _ (by simp), alloc_new]

theorem alloc3_1 (w : World) (o p q : Obj) : (((w.alloc o).alloc p).alloc q).heap[w.heap.size + 1]? = some p := by
  rw [alloc_old _ _ _ (by simp), show w.heap.size + 1 = (w.alloc o).heap.size from by simp, alloc_new]

theorem alloc3_2 (w : World) (o p q : Obj) : (((w.alloc o).alloc p).alloc q).heap[w.heap.size + 1 + 1]? = some q := by
  rw [show w.heap.size + 1 + 1 = ((w.alloc o).alloc p).heap.size from by simp, alloc_new]

theorem below3 (w : World) (o p q : Obj) : Below w.heap.size w (((w.alloc o).alloc p).alloc q) :=
  ((((Below.refl _ w).alloc (Nat.le_refl _) o).alloc (by simp) p).alloc (by simp; omega) q)

def RetFam (w : World) (m : Int) (zs : List Int) (e : Ending) (w' : World) : Prop :=
  ∃ a cap, e = .returned (.agg #[.int .i64 m, .slice a zs.length cap]) ∧ OwnI w' w.heap.size (.slice a zs.length cap) zs ∧ Below w.heap.size w w'

end Go.Proofs.YtjclfpcnfmpjdaaDoor

/- It is proved what markIntS, markFamily, heldIntS and heldFamily return and write; conditions: the bounds in each statement. -/
namespace Go.Proofs.YtjclfpcnfmpjdaaDoor
open Go.RowKit

/-- 1, 2, .., n. -/
def marks (n : Nat) : List Int := (List.range n).map fun (i : Nat) => ((i : Int) + 1)

theorem marks_length (n : Nat) : (marks n).length = n := by simp [marks]
theorem only_setCell {a w : World} {g : Nat} (h : a.grownBy w (some g)) {p : Addr} (hp : p.block = g) (u : Value) : a.grownBy (w.setCell p u) (some g) :=
  ⟨h.os, h.tape, h.output, by simpa [World.setCell] using h.size, fun i hi hne => (Below.heap_setCell w p u i (by rintro rfl; exact hne (by rw [hp]))).trans (h.block i hi hne)⟩

theorem only_of_below {a w : World} (h : Below a.heap.size a w) (row : Option Nat) : a.grownBy w row := ⟨h.os, h.tape, h.output, h.size, fun i hi _ => h.block i hi⟩
theorem only_trans {a b c : World} {row : Option Nat} (h : a.grownBy b row) (k : b.grownBy c row) : a.grownBy c row :=
  ⟨k.os.trans h.os, k.tape.trans h.tape, k.output.trans h.output, Nat.le_trans h.size k.size, fun i hi hne => (k.block i (Nat.lt_of_lt_of_le hi h.size) hne).trans (h.block i hi hne)⟩

/-- A row of n ints of the call's own, its length a letter of its own. -/
def OwnN (w : World) (B : Nat) (a : Option Addr) (n cap : Nat) (zs : List Int) : Prop := w.ownsRow B 3 1 (.slice a n cap) n (zs.map (Value.int .i64))

theorem OwnN.addr {w : World} {B : Nat} {a : Option Addr} {n cap : Nat} {zs : List Int} (h : OwnN w B a n cap zs) (hn : 0 < n) : ∃ g, a = some ⟨g, 0, none⟩ ∧ B ≤ g ∧ g < w.heap.size := by
  rcases h.2 with ⟨_, hn'⟩ | ⟨g, c, cur, e, hb, hg, _⟩
  · omega
  · injection e with e1 e2 e3
    exact ⟨g, e1, hb, (Array.getElem?_eq_some_iff.1 hg).1⟩

end Go.Proofs.YtjclfpcnfmpjdaaDoor

/- It is proved what a round of the method mapped leaves; conditions: those of each statement. -/
namespace Go.Proofs.YtjclfpcnfmpjdaaDoor
open Go.RowKit Go.Shelf

attribute [local go_sem] Oper.semAt_some

/-- Block b holds just these cells. -/
def HasBlk (W : World) (b : Nat) (cs : Array Value) (t : TypeId) : Prop := W.heap[b]? = some (.cells cs t (0, 0))

theorem lt_of_some {W : World} {b : Nat} {o : Obj} (h : W.heap[b]? = some o) : b < W.heap.size := (Array.getElem?_eq_some_iff.1 h).1
theorem HasBlk.kept {W W' : World} {b : Nat} {cs : Array Value} {t : TypeId} {row : Option Nat} (h : HasBlk W b cs t) (hg : W.grownBy W' row) (hr : row ≠ some b) : HasBlk W' b cs t := (hg.block b (lt_of_some h) (Ne.symm hr)).trans h
theorem HasBlk.alloc {W : World} {b : Nat} {cs : Array Value} {t : TypeId} (h : HasBlk W b cs t) (o : Obj) : HasBlk (W.alloc o) b cs t := (alloc_old _ _ _ (lt_of_some h)).trans h
theorem HasBlk.far {W : World} {b : Nat} {cs : Array Value} {t : TypeId} (h : HasBlk W b cs t) {p : Addr} (hp : b ≠ p.block) (u : Value) : HasBlk (W.setCell p u) b cs t := (Below.heap_setCell W p u b hp).trans h
theorem hasBlk_own {β : Type} (b : Nat) (cs : Array Value) (t : TypeId) : Own (fun (_ : β) W => HasBlk W b cs t) := fun s W W' row h hg hrow =>
  HasBlk.kept h hg (fun e => by obtain ⟨o, ho, hc⟩ := hrow b e; rw [show W.heap[b]? = _ from h] at ho; cases ho; cases hc)

theorem ownsRow_base {w : World} {B B' : Nat} {e : TypeId} {size n : Nat} {v : Value} {xs : List Value} (h : w.ownsRow B' e size v n xs) (hB : B ≤ B') : w.ownsRow B e size v n xs := by
  refine ⟨h.1, ?_⟩
  rcases h.2 with h2 | ⟨g, cap, cur, e, hb, r⟩
  · exact .inl h2
  · exact .inr ⟨g, cap, cur, e, by omega, r⟩

theorem made_0 {w w1 : World} {o p q : Obj} (hg : (((w.alloc o).alloc p).alloc q).grownBy w1 none) : w1.heap[w.heap.size]? = some o := (hg.block _ (by simp; omega) (by simp)).trans (alloc3_0 _ _ _ _)
theorem made_1 {w w1 : World} {o p q : Obj} (hg : (((w.alloc o).alloc p).alloc q).grownBy w1 none) : w1.heap[w.heap.size + 1]? = some p := (hg.block _ (by simp) (by simp)).trans (alloc3_1 _ _ _ _)
theorem made_2 {w w1 : World} {o p q : Obj} (hg : (((w.alloc o).alloc p).alloc q).grownBy w1 none) : w1.heap[w.heap.size + 1 + 1]? = some q := (hg.block _ (by simp) (by simp)).trans (alloc3_2 _ _ _ _)
theorem below_made {w w1 : World} {o p q : Obj} (hg : (((w.alloc o).alloc p).alloc q).grownBy w1 none) : Below w.heap.size (((w.alloc o).alloc p).alloc q) w1 := (Below.refl _ _).grown hg (by simp; omega) (by simp)
/-- A goal that the walk leaves alone. -/
def Marked_ (p : Prop) : Prop := p

theorem mark_make {p : Prop} (h : Marked_ p) : p := h
theorem unmark_make {p : Prop} (h : p) : Marked_ p := h
theorem own_after {W w2 : World} {B : Nat} {e : TypeId} {size n : Nat} {v : Value} {xs : List Value} (h : W.ownsRow B e size v n xs) (hb : Below W.drew.heap.size W.drew w2) : w2.ownsRow B e size v n xs :=
  World.ownsRow.kept (w := W.drew) h (only_of_below hb none) (by cases v.ownBlock <;> simp)

theorem spare_cell {W : World} {B g n cap : Nat} {xs : List Value} (h : W.ownsRow B 3 1 (.slice (some ⟨g, 0, none⟩) n cap) n xs) (k : Nat) (hk : k < cap) :
    ∃ u, W.cell? ⟨g, k, none⟩ = some u ∧ W.frozen? ⟨g, k, none⟩ = false := by
  rcases h.2 with ⟨e, _⟩ | ⟨g', cap', cur, e, _, hg, _, _, hs, _⟩
  · cases e
  · injection e with e1 e2 e3
    injection e1 with e1
    injection e1 with e1
    subst e1; subst e3
    exact ⟨cur[k]'(by omega), (blk_cell hg k).trans (Array.getElem?_eq_getElem (by omega)), blk_frozen hg k⟩

theorem own_snoc {W : World} {B g n cap : Nat} {xs : List Value} (h : W.ownsRow B 3 1 (.slice (some ⟨g, 0, none⟩) n cap) n xs) (hn : n < cap) (y : Value) :
    (W.setCell ⟨g, n, none⟩ y).ownsRow B 3 1 (.slice (some ⟨g, 0, none⟩) (n + 1) cap) (n + 1) (xs ++ [y]) := by
  rcases h.2 with ⟨e, _⟩ | ⟨g', cap', cur, e, hb, hg, _, hm, hs, ht⟩
  · cases e
  · injection e with e1 e2 e3
    injection e1 with e1
    injection e1 with e1
    subst e1; subst e3
    refine ⟨by have := h.1; simp; omega, .inr ⟨g, cap, cur.setIfInBounds n y, rfl, hb, heap_setCell_same W g n cur 3 y hg, by omega, hm, by simpa using hs, ?_⟩⟩
    simp only [Nat.mul_one] at ht ⊢
    rw [Array.toList_setIfInBounds, List.take_succ_eq_append_getElem (by simp; omega), List.take_set_of_le (Nat.le_refl _), ht]
    simp

theorem after_spare {w2 : World} {G M k : Nat} {o : Obj} {y v : Value} (h : G < M) (hM : M < w2.heap.size) (hc : w2.cell? ⟨M, 0, none⟩ = some v) : ((w2.alloc o).setCell ⟨G, k, none⟩ y).cell? ⟨M, 0, none⟩ = some v :=
  (World.cell?_setCell_other _ _ _ _ (fun e => by injection e; omega)).trans ((World.cell?_alloc_lt _ _ _ hM).trans hc)

theorem after_spare_f {w2 : World} {G M k : Nat} {o : Obj} {y : Value} (h : G < M) (hM : M < w2.heap.size) (hc : w2.frozen? ⟨M, 0, none⟩ = false) : ((w2.alloc o).setCell ⟨G, k, none⟩ y).frozen? ⟨M, 0, none⟩ = false := by
  rw [World.frozen?_setCell]
  exact (World.frozen?_of_block (a := ⟨M, 0, none⟩) (alloc_old _ _ _ hM)).trans hc

theorem ownsRow_setCell_ne {W : World} {B : Nat} {e : TypeId} {size n : Nat} {v : Value} {xs : List Value} (h : W.ownsRow B e size v n xs) {p : Addr} (hp : v.ownBlock ≠ some p.block) (u : Value) : (W.setCell p u).ownsRow B e size v n xs := by
  refine ⟨h.1, ?_⟩
  rcases h.2 with h2 | ⟨g, cap, cur, rfl, hb, hg, r⟩
  · exact .inl h2
  · exact .inr ⟨g, cap, cur, rfl, hb, (Below.heap_setCell W p u g (fun e => hp (by simp [Value.ownBlock, e]))).trans hg, r⟩

/-- One round of mapped: what it leaves. -/
theorem mapped_end {w W w2 : World} {f : Int → Int} {n M G B b0 b1 b2 t0 t1 t2 : Nat} {c0 c1 c2 : Array Value} {pre : List (Nat × Int)} {x : Nat × Int} (hWs : w.heap.size ≤ W.heap.size) (hGM : G < M) (hG : w.heap.size ≤ G) (hlt : pre.length < n)
    (hb2 : Below W.drew.heap.size W.drew w2) (hv : Boxed W M 23 (.slice (some ⟨G, 0, none⟩) pre.length n))
    (hrow : W.ownsRow w.heap.size 3 1 (.slice (some ⟨G, 0, none⟩) pre.length n) pre.length ((pre.map fun p => f p.2).map (Value.int .i64))) (hB : Below w.heap.size w W)
    (q0 : HasBlk W b0 c0 t0) (h0 : b0 < G) (q1 : HasBlk W b1 c1 t1) (h1 : b1 < G) (q2 : HasBlk W b2 c2 t2) (h2 : b2 < G) :
    KeepsFrom B W (((w2.setCell ⟨G, pre.length, none⟩ (.int .i64 (f x.2))).setCell ⟨M, 0, none⟩ (.slice (some ⟨G, 0, none⟩) (pre.length + 1) n)).alloc (.cells #[.int .i64 (f x.2)] 3)) ∧
    Below w.heap.size W (((w2.setCell ⟨G, pre.length, none⟩ (.int .i64 (f x.2))).setCell ⟨M, 0, none⟩ (.slice (some ⟨G, 0, none⟩) (pre.length + 1) n)).alloc (.cells #[.int .i64 (f x.2)] 3)) ∧
    ((∃ v, Boxed (((w2.setCell ⟨G, pre.length, none⟩ (.int .i64 (f x.2))).setCell ⟨M, 0, none⟩ (.slice (some ⟨G, 0, none⟩) (pre.length + 1) n)).alloc (.cells #[.int .i64 (f x.2)] 3)) M 23 v ∧
      (((w2.setCell ⟨G, pre.length, none⟩ (.int .i64 (f x.2))).setCell ⟨M, 0, none⟩ (.slice (some ⟨G, 0, none⟩) (pre.length + 1) n)).alloc (.cells #[.int .i64 (f x.2)] 3)).ownsRow w.heap.size 3 1 v (pre ++ [x]).length (((pre ++ [x]).map fun p => f p.2).map (Value.int .i64)) ∧
      v = .slice (some ⟨G, 0, none⟩) (pre ++ [x]).length n) ∧
      HasBlk (((w2.setCell ⟨G, pre.length, none⟩ (.int .i64 (f x.2))).setCell ⟨M, 0, none⟩ (.slice (some ⟨G, 0, none⟩) (pre.length + 1) n)).alloc (.cells #[.int .i64 (f x.2)] 3)) b0 c0 t0 ∧
      HasBlk (((w2.setCell ⟨G, pre.length, none⟩ (.int .i64 (f x.2))).setCell ⟨M, 0, none⟩ (.slice (some ⟨G, 0, none⟩) (pre.length + 1) n)).alloc (.cells #[.int .i64 (f x.2)] 3)) b1 c1 t1 ∧
      HasBlk (((w2.setCell ⟨G, pre.length, none⟩ (.int .i64 (f x.2))).setCell ⟨M, 0, none⟩ (.slice (some ⟨G, 0, none⟩) (pre.length + 1) n)).alloc (.cells #[.int .i64 (f x.2)] 3)) b2 c2 t2) ∧
    Below w.heap.size w (((w2.setCell ⟨G, pre.length, none⟩ (.int .i64 (f x.2))).setCell ⟨M, 0, none⟩ (.slice (some ⟨G, 0, none⟩) (pre.length + 1) n)).alloc (.cells #[.int .i64 (f x.2)] 3)) := by
  have hbW : Below W.heap.size W w2 := ⟨hb2.os, hb2.tape, hb2.output, hb2.size, hb2.block⟩
  have hsz2 := hbW.size
  have k2 : KeepsOthers W w2 := ⟨hbW.size, fun k o hk _ => (hbW.block k (lt_of_some hk)).trans hk⟩
  have hb : Below w.heap.size W (((w2.setCell ⟨G, pre.length, none⟩ (.int .i64 (f x.2))).setCell ⟨M, 0, none⟩ (.slice (some ⟨G, 0, none⟩) (pre.length + 1) n)).alloc (.cells #[.int .i64 (f x.2)] 3)) :=
    (((hbW.mono hWs).setCell (p := ⟨G, pre.length, none⟩) hG _).setCell (p := ⟨M, 0, none⟩) (show w.heap.size ≤ M by omega) _).alloc (by simp; omega) _
  have hv2 : Boxed w2 M 23 (.slice (some ⟨G, 0, none⟩) pre.length n) := (hbW.block M hv.lt).trans hv
  have hv3 : Boxed (w2.setCell ⟨G, pre.length, none⟩ (.int .i64 (f x.2))) M 23 (.slice (some ⟨G, 0, none⟩) pre.length n) := HasBlk.far hv2 (show M ≠ G by omega) _
  have keepB : ∀ {b : Nat} {c : Array Value} {t : Nat}, HasBlk W b c t → b < G → HasBlk (((w2.setCell ⟨G, pre.length, none⟩ (.int .i64 (f x.2))).setCell ⟨M, 0, none⟩ (.slice (some ⟨G, 0, none⟩) (pre.length + 1) n)).alloc (.cells #[.int .i64 (f x.2)] 3)) b c t :=
    fun {b c t} q h => HasBlk.alloc (HasBlk.far (HasBlk.far ((hbW.block b (lt_of_some q)).trans q : HasBlk w2 b c t) (show b ≠ G by omega) _) (show b ≠ M by omega) _) _
  have hr3 := own_snoc (own_after hrow hb2) hlt (.int .i64 (f x.2))
  have hr4 := (ownsRow_setCell_ne hr3 (p := ⟨M, 0, none⟩) (by simp [Value.ownBlock]; omega) (.slice (some ⟨G, 0, none⟩) (pre.length + 1) n)).alloc (.cells #[.int .i64 (f x.2)] 3)
  refine ⟨(((k2.trans (KeepsOthers.setCell _ _ _)).trans (KeepsOthers.setCell _ _ _)).trans (KeepsOthers.alloc _ _)).from _, hb, ⟨⟨_, (hv3.set _).alloc _, ?_, ?_⟩, keepB q0 h0, keepB q1 h1, keepB q2 h2⟩, hB.trans hb⟩
  · rw [List.map_append, List.map_append, List.length_append]
    exact hr4
  · rw [List.length_append]; rfl

theorem lt_of_cell {W : World} {g k : Nat} {u : Value} (h : W.cell? ⟨g, k, none⟩ = some u) : g < W.heap.size := World.block_lt_of_cell? W _ h
theorem cell2_0 (x y : Value) : (#[x, y] : Array Value)[0]? = some x := rfl
theorem cell2_1 (x y : Value) : (#[x, y] : Array Value)[1]? = some y := rfl
theorem cell1_0 (x : Value) : (#[x] : Array Value)[0]? = some x := rfl
end Go.Proofs.YtjclfpcnfmpjdaaDoor

/- It is proved what the reader's pick returns and writes; conditions: those of each statement. -/
namespace Go.Proofs.YtjclfpcnfmpjdaaDoor
open Go.RowKit

/-- The reader lies in block R: its bytes, its place. -/
def Rd (W : World) (R : Nat) (b : Option Addr) (n cap p : Nat) : Prop := HasBlk W R #[.slice b n cap, .int .i64 (p : Int)] 89

/-- n bytes, below block B. -/
def Bys (W : World) (B : Nat) (b : Option Addr) (n : Nat) : Prop :=
  n = 0 ∨ ∃ g off, b = some ⟨g, off, none⟩ ∧ g < B ∧ ∀ j, j < n → ∃ z : Nat, z < 256 ∧ W.cell? ⟨g, off + j, none⟩ = some (.int .u8 (z : Int))

/-- What pick leaves: a number in its range; the reader one place on; nothing else has turned. -/
def Picked (w : World) (R : Nat) (b : Option Addr) (n cap p : Nat) (x : Int) (e : Ending) (w' : World) : Prop :=
  ∃ r : Int, e = .returned (.int .i64 r) ∧ 0 ≤ r ∧ (1 ≤ x → r < x) ∧ Rd w' R b n cap (p + 1) ∧ w.grownBy w' (some R)

theorem xor_i64_nat (a b : Nat) (ha : a < 4611686018427387904) (hb : b < 4611686018427387904) : bits .xor .i64 (a : Int) (b : Int) = ((a ^^^ b : Nat) : Int) := by
  have hx : a ^^^ b < 2 ^ 62 := Nat.xor_lt_two_pow (by omega) (by omega)
  have h1 : (BitVec.ofInt 64 (a : Int)).toNat = a := by
    rw [BitVec.ofInt_natCast, BitVec.toNat_ofNat]; exact Nat.mod_eq_of_lt (by omega)
  have h2 : (BitVec.ofInt 64 (b : Int)).toNat = b := by
    rw [BitVec.ofInt_natCast, BitVec.toNat_ofNat]; exact Nat.mod_eq_of_lt (by omega)
  show IntKind.i64.wrap ((BitVec.ofInt 64 (a : Int) ^^^ BitVec.ofInt 64 (b : Int)).toNat : Int) = _
  rw [BitVec.toNat_xor, h1, h2, IntKind.wrap_i64]
  omega

theorem picked_end {R : Nat} {b : Option Addr} {n cap p : Nat} {x : Int} {w : World} (hR : Rd w R b n cap p) (r : Int) (h0 : 0 ≤ r) (h1 : 1 ≤ x → r < x) :
    Picked w R b n cap p x (.returned (.int .i64 r)) (w.setCell ⟨R, 1, none⟩ (.int .i64 ((p : Int) + 1))) :=
  ⟨r, rfl, h0, h1, heap_setCell_same w R 1 _ 89 _ hR, only_setCell (p := ⟨R, 1, none⟩) (World.grownBy.refl w (some R)) rfl _⟩

theorem picked_drawn {R : Nat} {b : Option Addr} {n cap p : Nat} {x : Int} {w W : World} {e : Ending} (k : Nat) (h : Picked w R b n cap p x e W) : Picked w R b n cap p x e (W.drewN k) := by
  obtain ⟨r, h1, h2, h3, h4, h5⟩ := h
  exact ⟨r, h1, h2, h3, h4, ⟨h5.os, h5.tape, h5.output, h5.size, h5.block⟩⟩

set_option maxRecDepth 100000 in
set_option maxHeartbeats 2000000 in
theorem pick_any (R : Nat) (b : Option Addr) (n cap p : Nat) (x : Int) (w : World) (hR : Rd w R b n cap p) (hb : Bys w R b n) (hn : n ≤ 1048576) (hp : p ≤ 1000000) :
    Calls Tryd.prog 44 #[.pointer (some ⟨R, 0, none⟩), .int .i64 x] w (Picked w R b n cap p x) := by
  have d0 := blk_cell hR 0
  have d1 := blk_cell hR 1
  have f1 := blk_frozen hR 1
  simp only [cell2_0, cell2_1] at d0 d1
  have HR := Lib.hid hR
  clear hR
  by_cases h1 : x < 1
  · go_enter Tryd.func44, Tryd.ntmps44
    go_wp2
    go_ret
    exact picked_end HR.out 0 (by omega) (by omega)
  · by_cases hn0 : n = 0
    · subst hn0
      go_enter Tryd.func44, Tryd.ntmps44
      go_wp2
      go_ret
      exact picked_end HR.out 0 (by omega) (by omega)
    · by_cases hk : p < n
      · obtain ⟨g, off, rfl, hg, hc⟩ := hb.resolve_left hn0
        obtain ⟨z, hz, hcz⟩ := hc p hk
        have hcz' := (World.cell?_setCell_other w ⟨R, 1, none⟩ ⟨g, off + p, none⟩ (.int .i64 ((p : Int) + 1)) (fun e => by injection e; omega)).trans hcz
        go_enter Tryd.func44, Tryd.ntmps44
        go_wp2
        go_ret
        exact picked_end HR.out ((z : Int) % x) (Int.emod_nonneg _ (by omega)) (fun _ => Int.emod_lt_of_pos _ (by omega))
      · obtain ⟨g, off, rfl, hg, hc⟩ := hb.resolve_left hn0
        obtain ⟨i1, hi1⟩ : ∃ i1 : Nat, (p : Int) % (n : Int) = (i1 : Int) := ⟨p % n, by omega⟩
        obtain ⟨i2, hi2⟩ : ∃ i2 : Nat, ((p : Int) * 7 + 3) % (n : Int) = (i2 : Int) := ⟨(p * 7 + 3) % n, by push_cast; rfl⟩
        obtain ⟨q, hq⟩ : ∃ q : Nat, (p : Int) / (n : Int) = (q : Int) := ⟨p / n, by omega⟩
        have hj1 : i1 < n := by have h2 := Int.emod_lt_of_pos (p : Int) (b := (n : Int)) (by omega); omega
        have hj2 : i2 < n := by have h2 := Int.emod_lt_of_pos ((p : Int) * 7 + 3) (b := (n : Int)) (by omega); omega
        have hqp : q ≤ p := by have h2 := Int.ediv_le_self (n : Int) (show (0 : Int) ≤ (p : Int) by omega); omega
        obtain ⟨z1, hz1, hc1⟩ := hc i1 hj1
        obtain ⟨z2, hz2, hc2⟩ := hc i2 hj2
        have hc1' := (World.cell?_setCell_other w ⟨R, 1, none⟩ ⟨g, off + i1, none⟩ (.int .i64 ((p : Int) + 1)) (fun e => by injection e; omega)).trans hc1
        have hc2' := (World.cell?_setCell_other w ⟨R, 1, none⟩ ⟨g, off + i2, none⟩ (.int .i64 ((p : Int) + 1)) (fun e => by injection e; omega)).trans hc2
        have hpn : ¬ ((p : Int) < (n : Int)) := by omega
        have hn1 : (0 : Int) < (n : Int) := by omega
        clear hc
        go_enter Tryd.func44, Tryd.ntmps44
        go_wp2
        go_quiet (fail)
        obtain ⟨X, hX⟩ : ∃ X : Nat, (z1 : Int) * 131 + (z2 : Int) * 1117 + (p : Int) * 29 + (q : Int) * 53 = (X : Int) := ⟨z1 * 131 + z2 * 1117 + p * 29 + q * 53, by push_cast; rfl⟩
        have HXR : Hid (bits .xor .i64 (X : Int) ((X : Int) / 64) = ((X ^^^ (X / 64) : Nat) : Int)) := Lib.hid (by
          rw [show (X : Int) / 64 = ((X / 64 : Nat) : Int) from by omega]
          exact xor_i64_nat X (X / 64) (by omega) (by omega))
        rw [hX]
        have hX2 : (X : Int) ≤ 100000000 := by omega
        clear hX hi1 hi2 hq hc1 hc2 hc1' hc2'
        go_wp2
        go_ret
        refine picked_drawn nq ?_
        rw [HXR.out]
        exact picked_end HR.out _ (Int.tmod_nonneg _ (by omega)) (fun _ => Int.tmod_lt_of_pos _ (by omega))

end Go.Proofs.YtjclfpcnfmpjdaaDoor

/- It is proved what l6In, l1All and setIn return; conditions: the bounds in each statement. -/
namespace Go.Proofs.YtjclfpcnfmpjdaaDoor
open Go.RowKit

def inB (n lo hi : Int) : Bool := decide (lo ≤ n) && decide (n ≤ hi)
theorem inB_true {n lo hi : Int} (h1 : lo ≤ n) (h2 : n ≤ hi) : inB n lo hi = true := by simp [inB, h1, h2]
theorem inB_false {n lo hi : Int} (h : n < lo ∨ hi < n) : inB n lo hi = false := by
  simp [inB]; omega

theorem inB_out {n lo hi : Int} (h : inB n lo hi = true) : lo ≤ n ∧ n ≤ hi := by simpa [inB] using h
theorem l6In_any (n lo hi : Int) (w : World) :
    Calls Tryd.prog 81 #[.int .i64 n, .int .i64 lo, .int .i64 hi] w fun e w' => e = .returned (.bool (inB n lo hi)) ∧ w = w' := by
  by_cases h1 : lo ≤ n
  · by_cases h2 : n ≤ hi
    · rw [inB_true h1 h2]
      go_enter Tryd.func81, Tryd.ntmps81
      go_wp2
      go_ret
      exact ⟨rfl, rfl⟩
    · rw [inB_false (.inr (by omega))]
      go_enter Tryd.func81, Tryd.ntmps81
      go_wp2
      go_ret
      exact ⟨rfl, rfl⟩
  · rw [inB_false (.inl (by omega))]
    have h3 : n < lo := by omega
    go_enter Tryd.func81, Tryd.ntmps81
    go_wp2
    go_ret
    exact ⟨rfl, rfl⟩

/-- The set of all members. -/
def fullI (m : Int) : Int := 2 ^ m.toNat - 1

theorem m16 {m : Int} (h1 : 1 ≤ m) (h2 : m ≤ 6) : m = 1 ∨ m = 2 ∨ m = 3 ∨ m = 4 ∨ m = 5 ∨ m = 6 := by omega
theorem l1All_any (m : Int) (a : Option Addr) (n cap : Nat) (w : World) (h1 : 1 ≤ m) (h2 : m ≤ 6) :
    Calls Tryd.prog 82 #[.agg #[.int .i64 m, .slice a n cap]] w fun e w' => e = .returned (.int .i64 (fullI m)) ∧ w.alloc (.cells #[.int .i64 m, .slice a n cap] 25) = w' := by
  rcases m16 h1 h2 with rfl | rfl | rfl | rfl | rfl | rfl
  all_goals
    go_enter Tryd.func82, Tryd.ntmps82
    go_wp2
    go_ret
    exact ⟨rfl, rfl⟩

theorem setIn_any (m z : Int) (w : World) (h1 : 1 ≤ m) (h2 : m ≤ 6) :
    Calls Tryd.prog 75 #[.int .i64 m, .int .i64 z] w fun e w' => e = .returned (.bool (inB z 0 (fullI m))) ∧ w = w' := by
  by_cases hz : 0 ≤ z
  · by_cases hf : z ≤ fullI m
    · rw [inB_true hz hf]
      rcases m16 h1 h2 with rfl | rfl | rfl | rfl | rfl | rfl
      all_goals
        simp [fullI] at hf
        go_enter Tryd.func75, Tryd.ntmps75
        go_wp2
        go_ret
        exact ⟨by simp; omega, rfl⟩
    · rw [inB_false (.inr (by omega))]
      rcases m16 h1 h2 with rfl | rfl | rfl | rfl | rfl | rfl
      all_goals
        simp [fullI] at hf
        go_enter Tryd.func75, Tryd.ntmps75
        go_wp2
        go_ret
        exact ⟨by simp; omega, rfl⟩
  · rw [inB_false (.inl (by omega))]
    have hz' : z < 0 := by omega
    go_enter Tryd.func75, Tryd.ntmps75
    go_wp2
    go_ret
    exact ⟨rfl, rfl⟩

/-- A family is one. -/
def famIn (m : Int) (zs : List Int) : Bool := inB m 1 6 && (decide (zs.length ≤ 8) && zs.all fun z => inB z 0 (fullI m))

theorem famIn_out {m : Int} {zs : List Int} (h : famIn m zs = true) : 1 ≤ m ∧ m ≤ 6 ∧ zs.length ≤ 8 ∧ ∀ z ∈ zs, 0 ≤ z ∧ z ≤ fullI m := by
  simp only [famIn, Bool.and_eq_true, decide_eq_true_eq, List.all_eq_true] at h
  exact ⟨(inB_out h.1).1, (inB_out h.1).2, h.2.1, fun z hz => inB_out (h.2.2 z hz)⟩

theorem famIn_m {m : Int} {zs : List Int} (h : inB m 1 6 = false) : famIn m zs = false := by simp [famIn, h]
theorem famIn_l {m : Int} {zs : List Int} (h : 8 < zs.length) : famIn m zs = false := by simp [famIn]; intros; omega
theorem famIn_z {m : Int} {zs : List Int} {k : Nat} (hk : k < zs.length) (h : inB (zs[k]?.getD 0) 0 (fullI m) = false) : famIn m zs = false := by
  have : (zs.all fun z => inB z 0 (fullI m)) = false := by
    rw [List.all_eq_false]
    refine ⟨zs[k], List.getElem_mem _, ?_⟩
    simp [hk] at h
    simp [h]
  simp [famIn, this]

theorem famIn_y {m : Int} {zs : List Int} (h1 : inB m 1 6 = true) (h2 : zs.length ≤ 8) (h : ∀ k, k < zs.length → inB (zs[k]?.getD 0) 0 (fullI m) = true) : famIn m zs = true := by
  simp only [famIn, Bool.and_eq_true, decide_eq_true_eq, List.all_eq_true]
  refine ⟨h1, h2, fun z hz => ?_⟩
  obtain ⟨k, hk, rfl⟩ := List.getElem_of_mem hz
  have := h k hk
  simpa [hk] using this

end Go.Proofs.YtjclfpcnfmpjdaaDoor

/- It is proved what eqIntS returns; conditions: the bounds in each statement. -/
namespace Go.Proofs.YtjclfpcnfmpjdaaDoor
open Go.RowKit

theorem Ints.at_ {w : World} {B : Nat} {a : Option Addr} {zs : List Int} (h : Ints w B a zs) {k : Nat} (hk : k < zs.length) :
    ∃ b off, a = some ⟨b, off, none⟩ ∧ b < B ∧ w.cell? ⟨b, off + k, none⟩ = some (.int .i64 (zs[k]?.getD 0)) := by
  rcases h with h | ⟨b, off, e, hb, hc⟩
  · subst h; simp at hk
  · exact ⟨b, off, e, hb, hc k hk⟩

theorem below_drewN {B : Nat} {a w : World} (h : Below B a w) (n : Nat) : Below B a (w.drewN n) := ⟨h.os, h.tape, h.output, h.size, h.block⟩
theorem eqs_false {xs ys : List Int} {k : Nat} (hx : k < xs.length) (hy : k < ys.length) (h : xs[k]?.getD 0 ≠ ys[k]?.getD 0) : decide (xs = ys) = false := by
  simp only [decide_eq_false_iff_not]; rintro rfl; exact h rfl

theorem eqs_true {xs ys : List Int} (hl : xs.length = ys.length) (h : ∀ j, j < xs.length → xs[j]?.getD 0 = ys[j]?.getD 0) : decide (xs = ys) = true := by
  simp only [decide_eq_true_eq]
  apply List.ext_getElem hl
  intro i h1 h2
  have := h i h1
  simpa [h1, h2] using this

/-- Two lists are the same: a plain name, so that the walk does not take it apart. -/
def sameB (xs ys : List Int) : Bool := decide (xs = ys)

end Go.Proofs.YtjclfpcnfmpjdaaDoor

/- It is proved what eqFamily and the FamilyIn of the program return; conditions: the bounds in each statement. -/
namespace Go.Proofs.YtjclfpcnfmpjdaaDoor
open Go.RowKit

def sameF (m : Int) (xs : List Int) (k : Int) (ys : List Int) : Bool := decide (m = k) && sameB xs ys
theorem sameF_self (m : Int) (xs : List Int) : sameF m xs m xs = true := by simp [sameF, sameB]
theorem below2 (w : World) (o o' : Obj) : Below w.heap.size w ((w.alloc o).alloc o') := ((Below.refl _ _).alloc (Nat.le_refl _) o).alloc (by simp) o'
theorem below1 (w : World) (o : Obj) : Below w.heap.size w (w.alloc o) := (Below.refl _ _).alloc (Nat.le_refl _) o
set_option maxRecDepth 100000 in
set_option maxHeartbeats 400000 in
theorem implFamilyIn_any (m : Int) (a : Option Addr) (c : Nat) (zs : List Int) (w : World) (ha : Ints w w.heap.size a zs) (hx : zs.length ≤ 1048576) :
    Calls Tryd.prog 46 #[.agg #[.int .i64 m, .slice a zs.length c]] w fun e w' => e = .returned (.bool (famIn m zs)) ∧ Below w.heap.size w w' := by
  obtain ⟨n, hn⟩ : ∃ n, n = zs.length := ⟨_, rfl⟩
  have HN : Hid (n = zs.length) := Lib.hid hn
  rw [← hn]
  rw [← hn] at hx
  have HB := Lib.hid (below1 w (.cells #[.int .i64 m, .slice a n c] 25))
  by_cases h1 : 1 ≤ m
  · by_cases h2 : m ≤ 6
    · by_cases h3 : n ≤ 8
      · clear hn
        go_enter Tryd.func46, Tryd.ntmps46
        go_wp2
        go_loop [4, 22] (fun s i => ∃ k : Nat, k ≤ n ∧ i = .int .i64 k ∧ (∀ j, j < k → inB (zs[j]?.getD 0) 0 (fullI m) = true)) (fun _ i => n - (intOf i).toNat)
        case atStart => exact ⟨0, Nat.zero_le _, rfl, fun j hj => by omega⟩
        case round =>
          obtain ⟨k, hk, rfl, he⟩ := hrel
          by_cases hlt : k < n
          · obtain ⟨b1, o1, rfl, hb1, hc1⟩ := ha.at_ (k := k) (by rw [← HN.out]; exact hlt)
            have c1 := (HB.out.cell (p := ⟨b1, o1 + k, none⟩) hb1).trans hc1
            have HE := Lib.hid he
            clear he hc1
            cases hs : inB (zs[k]?.getD 0) 0 (fullI m)
            · have HS := Lib.hid hs
              have HF : Hid (famIn m zs = false) := Lib.hid (famIn_z (by rw [← HN.out]; exact hlt) hs)
              clear hs
              go_wp2_with (go_at_call 75; refine (setIn_any _ _ _ h1 h2).mono ?_; rintro e w' ⟨rfl, rfl⟩; rw [HS.out])
              go_ret
              exact ⟨by rw [HF.out]; rfl, HB.out⟩
            · have HS := Lib.hid hs
              clear hs
              go_wp2_with (go_at_call 75; refine (setIn_any _ _ _ h1 h2).mono ?_; rintro e w' ⟨rfl, rfl⟩; rw [HS.out])
              go_round
              case rel => exact ⟨k + 1, by omega, by go_num, fun j hj => by
                rcases Nat.lt_succ_iff_lt_or_eq.1 hj with h | rfl
                · exact HE.out j h
                · exact HS.out⟩
              case measure => simp [intOf]; omega
          · obtain rfl : k = n := by omega
            have HF : Hid (famIn m zs = true) := Lib.hid (famIn_y (inB_true h1 h2) (by rw [← HN.out]; exact h3) (by rw [← HN.out]; exact he))
            clear he
            go_wp2
            go_ret
            exact ⟨by rw [HF.out]; rfl, HB.out⟩
      · have HF : Hid (famIn m zs = false) := Lib.hid (famIn_l (by omega))
        clear hn
        go_enter Tryd.func46, Tryd.ntmps46
        go_wp2
        go_ret
        exact ⟨by rw [HF.out]; rfl, HB.out⟩
    · have HF : Hid (famIn m zs = false) := Lib.hid (famIn_m (inB_false (.inr (by omega))))
      clear hn
      go_enter Tryd.func46, Tryd.ntmps46
      go_wp2
      go_ret
      exact ⟨by rw [HF.out]; rfl, HB.out⟩
  · have HF : Hid (famIn m zs = false) := Lib.hid (famIn_m (inB_false (.inl (by omega))))
    clear hn
    go_enter Tryd.func46, Tryd.ntmps46
    go_wp2
    go_ret
    exact ⟨by rw [HF.out]; rfl, HB.out⟩

end Go.Proofs.YtjclfpcnfmpjdaaDoor

/- It is proved how boxed families keep what they hold while the laws go on; conditions: those of each statement. -/
namespace Go.Proofs.YtjclfpcnfmpjdaaDoor
open Go.RowKit

/-- What a function of a family and a bool returns: both, in new memory; nothing that lay has turned. -/
def RetFB (w : World) (m : Int) (zs : List Int) (ok : Bool) (e : Ending) (w' : World) : Prop :=
  ∃ a cap, e = .returned (.tuple #[.agg #[.int .i64 m, .slice a zs.length cap], .bool ok]) ∧ OwnI w' w.heap.size (.slice a zs.length cap) zs ∧ Below w.heap.size w w'

end Go.Proofs.YtjclfpcnfmpjdaaDoor

/- It is proved what l1None, l1With and the model's FamilyMeet return; conditions: those of each statement. -/
namespace Go.Proofs.YtjclfpcnfmpjdaaDoor
open Go.RowKit

theorem alloc2_0 (w : World) (o p : Obj) : ((w.alloc o).alloc p).heap[w.heap.size]? = some o := by rw [alloc_old _ _ _ (by simp), alloc_new]
theorem alloc2_1 (w : World) (o p : Obj) : ((w.alloc o).alloc p).heap[w.heap.size + 1]? = some p := by
  rw [show w.heap.size + 1 = (w.alloc o).heap.size from by simp, alloc_new]

/-- A new empty row. -/
theorem own_empty {w : World} {B g : Nat} (h : w.heap[g]? = some (.cells #[] 3 (0, 0))) (hB : B ≤ g) : OwnI w B (.slice (some ⟨g, 0, none⟩) 0 0) [] :=
  ⟨by simp, .inr ⟨g, 0, #[], rfl, hB, h, Nat.le_refl _, by simp [maxLen], by simp, by simp⟩⟩

set_option maxRecDepth 100000 in
set_option maxHeartbeats 400000 in
theorem l1None_any (w : World) : Calls Tryd.prog 59 #[] w (RetFB w 0 [] false) := by
  go_enter Tryd.func59, Tryd.ntmps59
  go_wp2
  refine bodyPost_ret (v := .tuple #[.agg #[.int .i64 0, .slice (some ⟨w.heap.size + 1, 0, none⟩) 0 0], .bool false]) (by simp [results, Tryd.results59, go_sem]) rfl ?_
  exact ⟨_, _, rfl, own_empty (alloc2_1 w _ _) (by omega), below2 _ _ _⟩

set_option maxRecDepth 100000 in
set_option maxHeartbeats 400000 in
theorem l1With_any (m : Int) (a b : Option Addr) (n c k d : Nat) (w : World) :
    Calls Tryd.prog 60 #[.agg #[.int .i64 m, .slice a n c], .slice b k d] w fun e w' => e = .returned (.agg #[.int .i64 m, .slice b k d]) ∧ Below w.heap.size w w' := by
  go_enter Tryd.func60, Tryd.ntmps60
  go_wp2
  refine bodyPost_ret (v := .agg #[.int .i64 m, .slice b k d]) (by simp [results, Tryd.results60, go_sem]) rfl ?_
  exact ⟨rfl, below2 _ _ _⟩

theorem map_at (f : Int → Int) (zs : List Int) (k : Nat) (h : k < zs.length) : (zs.take (k + 1)).map f = (zs.take k).map f ++ [f (zs[k]?.getD 0)] := by
  rw [List.take_succ_eq_append_getElem h, List.map_append]; simp [h]

theorem OwnI.form {w : World} {B : Nat} {v : Value} {zs : List Int} (h : OwnI w B v zs) (hn : 0 < zs.length) : ∃ g cap, v = .slice (some ⟨g, 0, none⟩) zs.length cap ∧ B ≤ g ∧ g < w.heap.size := World.ownsRow.form h hn
end Go.Proofs.YtjclfpcnfmpjdaaDoor

/- It is proved what with returns, what a dual is, and what FamilyDual of the program returns where there is none; conditions: those of each statement. -/
namespace Go.Proofs.YtjclfpcnfmpjdaaDoor
open Go.RowKit Go.Shelf

set_option maxRecDepth 100000 in
theorem or_fin : ∀ x : Fin 256, ∀ p : Fin 8, bits BinOp.or IntKind.i64 (x.val : Int) (2 ^ p.val) = ((x.val ||| 2 ^ p.val : Nat) : Int) := by decide +kernel

theorem or_at (x p : Nat) (hx : x < 256) (hp : p < 8) : bits BinOp.or IntKind.i64 (x : Int) (2 ^ p) = ((x ||| 2 ^ p : Nat) : Int) := or_fin ⟨x, hx⟩ ⟨p, hp⟩
theorem p2_small (p : Nat) (hp : p < 8) : (2 : Int) ^ p ≤ 128 ∧ 1 ≤ (2 : Int) ^ p := by
  obtain rfl | rfl | rfl | rfl | rfl | rfl | rfl | rfl : p = 0 ∨ p = 1 ∨ p = 2 ∨ p = 3 ∨ p = 4 ∨ p = 5 ∨ p = 6 ∨ p = 7 := by omega
  all_goals decide

theorem with_any (x p : Nat) (hx : x < 256) (hp : p < 8) (w : World) :
    Calls Tryd.prog 90 #[.int .i64 (x : Int), .int .i64 (p : Int)] w fun e w' => e = .returned (.int .i64 ((x ||| 2 ^ p : Nat) : Int)) ∧ w = w' := by
  have hp8 : (p : Int) < 8 := by omega
  obtain ⟨h1, h2⟩ := p2_small p hp
  have HO := Lib.hid (or_at x p hx hp)
  go_enter Tryd.func90, Tryd.ntmps90
  go_wp2
  go_ret
  exact ⟨by rw [HO.out]; rfl, rfl⟩

theorem own_nil (w : World) (B : Nat) : OwnI w B (.slice none 0 0) [] := World.ownsRow_nil w B 3 1
end Go.Proofs.YtjclfpcnfmpjdaaDoor

/- It is proved that the drawn clubs are a list of the call's own; conditions: those of each statement. -/
namespace Go.Proofs.YtjclfpcnfmpjdaaDoor
open Go.RowKit

/-- A draw is under way: the reader's block alone has turned since w. -/
structure DS (w : World) (R : Nat) (b : Option Addr) (n cap P : Nat) (W : World) : Prop where
  rd : ∃ p, p ≤ P ∧ Rd W R b n cap p
  gr : w.grownBy W (some R)

theorem grow_drew {w W : World} {row : Option Nat} (h : w.grownBy W row) : w.grownBy W.drew row := ⟨h.os, h.tape, h.output, h.size, h.block⟩
theorem DS.drew {w : World} {R : Nat} {b : Option Addr} {n cap P : Nat} {W : World} (h : DS w R b n cap P W) : DS w R b n cap P W.drew := ⟨h.rd, grow_drew h.gr⟩
theorem DS.mono {w : World} {R : Nat} {b : Option Addr} {n cap P Q : Nat} {W : World} (h : DS w R b n cap P W) (hP : P ≤ Q) : DS w R b n cap Q W := by
  obtain ⟨p, hp, hr⟩ := h.rd
  exact ⟨⟨p, by omega, hr⟩, h.gr⟩

theorem DS.step {w : World} {R : Nat} {b : Option Addr} {n cap P : Nat} {W W' : World} (h : DS w R b n cap P W) {row : Option Nat} (hg : W.grownBy W' row) (hr : ∀ g, row = some g → w.heap.size ≤ g) (hR : R < w.heap.size) : DS w R b n cap P W' := by
  obtain ⟨p, hp, hrd⟩ := h.rd
  refine ⟨⟨p, hp, HasBlk.kept hrd hg (fun e => by have := hr R e; omega)⟩, ⟨hg.os.trans h.gr.os, hg.tape.trans h.gr.tape, hg.output.trans h.gr.output, Nat.le_trans h.gr.size hg.size, fun i hi hne => ?_⟩⟩
  exact (hg.block i (Nat.lt_of_lt_of_le hi h.gr.size) (fun e => by have := hr i e.symm; omega)).trans (h.gr.block i hi hne)

theorem DS.alloc {w : World} {R : Nat} {b : Option Addr} {n cap P : Nat} {W : World} (h : DS w R b n cap P W) (o : Obj) (hR : R < w.heap.size) : DS w R b n cap P (W.alloc o) :=
  h.step (World.grownBy_alloc W o none) (fun g e => by cases e) hR

theorem Bys.kept {w W : World} {R : Nat} {b : Option Addr} {n : Nat} (h : Bys w R b n) (hR : R < w.heap.size) (hg : w.grownBy W (some R)) : Bys W R b n := by
  rcases h with h | ⟨g, off, e, hgR, hc⟩
  · exact .inl h
  · refine .inr ⟨g, off, e, hgR, fun j hj => ?_⟩
    obtain ⟨z, hz, hcz⟩ := hc j hj
    exact ⟨z, hz, (World.cell?_of_block (a := ⟨g, off + j, none⟩) (hg.block g (by omega) (fun e => by injection e; omega))).trans hcz⟩

theorem own_grown {W W' : World} {B : Nat} {v : Value} {k : Nat} {xs : List Value} {R : Nat} (h : W.ownsRow B 3 1 v k xs) (hg : W.grownBy W' (some R)) (hR : R < B) : W'.ownsRow B 3 1 v k xs := by
  refine World.ownsRow.kept h hg ?_
  cases ho : v.ownBlock with
  | none => exact .inl rfl
  | some g =>
    right
    intro e
    have := (World.ownsRow.lt h g ho).1
    injection e with e
    omega

def PickedD (w : World) (R : Nat) (b : Option Addr) (n cap P : Nat) (x : Int) (W : World) (e : Ending) (W' : World) : Prop :=
  ∃ r : Nat, e = .returned (.int .i64 (r : Int)) ∧ (1 ≤ x → (r : Int) < x) ∧ DS w R b n cap (P + 1) W' ∧ W.grownBy W' (some R)

theorem pickX {w : World} {R : Nat} {b : Option Addr} {n cap P : Nat} {W : World} (hD : DS w R b n cap P W) (hB : Bys w R b n) (hR : R < w.heap.size) (hn : n ≤ 1048576) (hP : P ≤ 1000000) (x : Int) :
    Calls Tryd.prog 44 #[.pointer (some ⟨R, 0, none⟩), .int .i64 x] W (PickedD w R b n cap P x W) := by
  obtain ⟨p, hp, hr⟩ := hD.rd
  refine (pick_any R b n cap p x W hr (hB.kept hR hD.gr) hn (by omega)).mono fun e W' h => ?_
  obtain ⟨r, rfl, h0, h1, h2, h3⟩ := h
  refine ⟨r.toNat, by rw [Int.toNat_of_nonneg h0], fun h => by rw [Int.toNat_of_nonneg h0]; exact h1 h, ⟨⟨p + 1, by omega, h2⟩, only_trans hD.gr h3⟩, h3⟩

theorem pickD {w : World} {R : Nat} {b : Option Addr} {n cap P : Nat} {W : World} (hD : DS w R b n cap P W) (hB : Bys w R b n) (hR : R < w.heap.size) (hn : n ≤ 1048576) (hP : P ≤ 1000000) (x : Int) (_hx : x ≤ 1000000) (_hx0 : -1000000 ≤ x) :
    Calls Tryd.prog 44 #[.pointer (some ⟨R, 0, none⟩), .int .i64 x] W (PickedD w R b n cap P x W) := pickX hD hB hR hn hP x

theorem own_more {W : World} {B : Nat} {a : Option Addr} {k c : Nat} {zs : List Int} {x : Int} (h : W.ownsRow B 3 1 (.slice a k c) k (zs.map (Value.int .i64) ++ [.int .i64 x])) : OwnN W B a k c (zs ++ [x]) := by
  unfold OwnN; rw [List.map_append]; exact h

def DrawnL (w : World) (R : Nat) (b : Option Addr) (n cap P most : Nat) (e : Ending) (W : World) : Prop :=
  ∃ (a : Option Addr) (zs : List Int) (c : Nat), e = .returned (.slice a zs.length c) ∧ zs.length ≤ most ∧ OwnI W w.heap.size (.slice a zs.length c) zs ∧ DS w R b n cap (P + 100) W

set_option maxRecDepth 100000 in
set_option maxHeartbeats 4000000 in
theorem clubsD_any (R : Nat) (b : Option Addr) (n cap P k most : Nat) (w : World) (hD : DS w R b n cap P w) (hB : Bys w R b n) (hR : R < w.heap.size) (hn : n ≤ 1048576) (hP : P ≤ 100000) (hk1 : 1 ≤ k) (hk : k ≤ 6) (hm : most ≤ 9) :
    Calls Tryd.prog 45 #[.pointer (some ⟨R, 0, none⟩), .int .i64 (k : Int), .int .i64 (most : Int)] w (DrawnL w R b n cap P most) := by
  obtain ⟨i0, hi0, hz0, hz1, hz2⟩ := info_parts Tryd.info3
  have HD0 := Lib.hid (hD.alloc (.cells #[] 3) hR)
  have HB := Lib.hid hB
  obtain ⟨hp1, hp2⟩ := p2_small k (by omega)
  clear hD hB
  go_enter Tryd.func45, Tryd.ntmps45
  go_wp2_with fail
  refine (pickD HD0.out HB.out hR hn (by omega) _ (by omega) (by omega)).mono ?_
  rintro e w1 ⟨kk, rfl, hkk, D1, g1⟩
  have hkk2 : (kk : Int) < (most : Int) + 1 := hkk (by omega)
  have HD1 := Lib.hid D1
  have HE1 : Hid (OwnN w1 w.heap.size (some ⟨w.heap.size, 0, none⟩) 0 0 []) := Lib.hid (own_grown (own_empty (alloc_new w _) (Nat.le_refl _)) g1 hR)
  clear D1 g1 hkk
  go_wp2_with fail
  refine (pickD HD1.out HB.out hR hn (by omega) _ (by omega) (by omega)).mono ?_
  rintro e w2 ⟨kd, rfl, hkd, D2, g2⟩
  have hkd2 : kd < 4 := by have := hkd (by omega); omega
  have HD2 := Lib.hid D2
  have HE2 : Hid (OwnN w2 w.heap.size (some ⟨w.heap.size, 0, none⟩) 0 0 []) := Lib.hid (own_grown HE1.out g2 hR)
  clear D2 g2 hkd HD1 HE1 HD0
  go_wp2
  go_loopw [7, 10] (fun v i wr => ∃ (j : Nat) (a' : Option Addr) (c' : Nat) (zs : List Int), j ≤ kk ∧ i = .int .i64 (j : Int) ∧ v = .slice a' j c' ∧ OwnN wr w.heap.size a' j c' zs ∧ DS w R b n cap (P + 2 + 3 * j) wr) (fun _ i _ => kk - (intOf i).toNat)
  case atStart => exact ⟨0, _, _, [], Nat.zero_le _, rfl, rfl, HE2.out, HD2.out⟩
  case round =>
    obtain ⟨j, a', c', zs, hj, rfl, rfl, ho, hd⟩ := hrel
    obtain ⟨wo, hwo⟩ : ∃ wo, wo = wr := ⟨wr, rfl⟩
    subst hwo
    have HO := Lib.hid ho
    have HD := Lib.hid hd
    clear ho hd
    by_cases hlt : j < kk
    · go_wp2_with fail
      refine (pickD HD.out HB.out hR hn (by omega) _ (by omega) (by omega)).mono ?_
      rintro e w3 ⟨r3, rfl, -, D3, g3⟩
      have HD3 := Lib.hid D3
      have HO3 := Lib.hid (own_grown HO.out g3 hR)
      clear D3 g3 HD HO
      have hkds : (kd : Int) < 1 ∨ (0 < (kd : Int) ∧ (kd : Int) < 2) ∨ (1 < (kd : Int) ∧ (kd : Int) < 3) ∨ 2 < (kd : Int) := by omega
      rcases hkds with hka | ⟨hka, hkb⟩ | ⟨hka, hkb⟩ | hka
      · go_wp2
        go_region_with (first
          | (go_at_call 44; refine (pickD HD3.out.drew HB.out hR hn (by omega) _ (by omega) (by omega)).mono ?_; rintro e w4 ⟨r4, rfl, h4, D4, g4⟩)
          | (go_at_call 44; refine (pickD D4 HB.out hR hn (by omega) _ (by omega) (by omega)).mono ?_; rintro e w5 ⟨r5, rfl, h5, D5, g5⟩))
        have HD5 := Lib.hid D5
        have HO5 := Lib.hid (own_grown (own_grown (W := w3.drew) HO3.out g4 hR) g5 hR)
        clear D4 D5 g4 g5 HD3 HO3 h4 h5
        have hsz5 := HD5.out.gr.size
        go_wp2_with (at_builtin; refine wpList_append_own _ rfl _ _ 23 rfl w.heap.size 3 i0 (.int .i64 0) 1 8 Tryd.underlying23 hi0 hz0 hz1 hz2 rfl (by decide) _ _ _ rfl (HO5.out.alloc _) ⟨w5.heap.size, 0, none⟩ 1 1 [.int .i64 _] rfl rfl (cell_one_new _ _ _) (by simp [Value.oneCell']) (by simp only [maxLen]; omega) (by omega) (by simp; omega) ?_; intro v' w9 hown hgrow _; obtain ⟨g', cap', rfl, _, _⟩ := World.ownsRow.form hown (by omega))
        go_roundw
        case rel => exact ⟨j + 1, _, _, _, by omega, by go_num, rfl, own_more hown, ((HD5.out.alloc _ hR).step hgrow (fun g e => (World.ownsRow.lt HO5.out g e).1) hR).mono (by omega)⟩
        case measure => simp [intOf]; omega
      · go_wp2_with fail
        refine (pickD HD3.out HB.out hR hn (by omega) _ (by omega) (by omega)).mono ?_
        rintro e w4 ⟨r4, rfl, h4, D4, g4⟩
        have h4k := h4 (by omega)
        have HD4 := Lib.hid D4
        have HO4 := Lib.hid (own_grown HO3.out g4 hR)
        clear D4 g4 HD3 HO3 h4
        go_wp2_with fail
        refine (pickD HD4.out HB.out hR hn (by omega) _ (by omega) (by omega)).mono ?_
        rintro e w5 ⟨r5, rfl, h5, D5, g5⟩
        have h5k := h5 (by omega)
        have HD5 := Lib.hid D5
        have HO5 := Lib.hid (own_grown HO4.out g5 hR)
        clear D5 g5 HD4 HO4 h5
        have hsz5 := HD5.out.gr.size
        go_wp2_with (at_builtin; refine wpList_append_own _ rfl _ _ 23 rfl w.heap.size 3 i0 (.int .i64 0) 1 8 Tryd.underlying23 hi0 hz0 hz1 hz2 rfl (by decide) _ _ _ rfl (HO5.out.alloc _) ⟨w5.heap.size, 0, none⟩ 1 1 [.int .i64 _] rfl rfl (cell_one_new _ _ _) (by simp [Value.oneCell']) (by simp only [maxLen]; omega) (by omega) (by simp; omega) ?_; intro v' w9 hown hgrow _; obtain ⟨g', cap', rfl, _, _⟩ := World.ownsRow.form hown (by omega))
        go_roundw
        case rel => exact ⟨j + 1, _, _, _, by omega, by go_num, rfl, own_more hown, ((HD5.out.alloc _ hR).step hgrow (fun g e => (World.ownsRow.lt HO5.out g e).1) hR).mono (by omega)⟩
        case measure => simp [intOf]; omega
      · go_wp2
        go_region_with (first
          | (go_at_call 44; refine (pickD HD3.out.drew HB.out hR hn (by omega) _ (by omega) (by omega)).mono ?_; rintro e w4 ⟨r4, rfl, h4, D4, g4⟩)
          | (go_at_call 44; refine (pickD D4 HB.out hR hn (by omega) _ (by omega) (by omega)).mono ?_; rintro e w5 ⟨r5, rfl, h5, D5, g5⟩))
        have HD5 := Lib.hid D5
        have HO5 := Lib.hid (own_grown (own_grown (W := w3.drew) HO3.out g4 hR) g5 hR)
        clear D4 D5 g4 g5 HD3 HO3 h4 h5
        have hsz5 := HD5.out.gr.size
        go_wp2_with (at_builtin; refine wpList_append_own _ rfl _ _ 23 rfl w.heap.size 3 i0 (.int .i64 0) 1 8 Tryd.underlying23 hi0 hz0 hz1 hz2 rfl (by decide) _ _ _ rfl (HO5.out.alloc _) ⟨w5.heap.size, 0, none⟩ 1 1 [.int .i64 _] rfl rfl (cell_one_new _ _ _) (by simp [Value.oneCell']) (by simp only [maxLen]; omega) (by omega) (by simp; omega) ?_; intro v' w9 hown hgrow _; obtain ⟨g', cap', rfl, _, _⟩ := World.ownsRow.form hown (by omega))
        go_roundw
        case rel => exact ⟨j + 1, _, _, _, by omega, by go_num, rfl, own_more hown, ((HD5.out.alloc _ hR).step hgrow (fun g e => (World.ownsRow.lt HO5.out g e).1) hR).mono (by omega)⟩
        case measure => simp [intOf]; omega
      · have hsz3 := HD3.out.gr.size
        go_wp2_with (at_builtin; refine wpList_append_own _ rfl _ _ 23 rfl w.heap.size 3 i0 (.int .i64 0) 1 8 Tryd.underlying23 hi0 hz0 hz1 hz2 rfl (by decide) _ _ _ rfl (HO3.out.alloc _) ⟨w3.heap.size, 0, none⟩ 1 1 [.int .i64 (r3 : Int)] rfl rfl (cell_one_new _ _ _) (by simp [Value.oneCell']) (by simp only [maxLen]; omega) (by omega) (by simp; omega) ?_; intro v' w9 hown hgrow _; obtain ⟨g', cap', rfl, _, _⟩ := World.ownsRow.form hown (by omega))
        go_roundw
        case rel => exact ⟨j + 1, _, _, _, by omega, by go_num, rfl, own_more hown, ((HD3.out.alloc _ hR).step hgrow (fun g e => (World.ownsRow.lt HO3.out g e).1) hR).mono (by omega)⟩
        case measure => simp [intOf]; omega
    · obtain rfl : j = kk := by omega
      have hlen : zs.length = j := by have := HO.out.1; simpa using this
      have HR : Hid (DrawnL w R b n cap P most (.returned (.slice a' j c')) wo) := Lib.hid ⟨a', zs, c', by rw [hlen], by omega, by unfold OwnI; rw [hlen]; exact HO.out, HD.out.mono (by omega)⟩
      go_wp2
      go_ret
      exact HR.out

end Go.Proofs.YtjclfpcnfmpjdaaDoor

/- It is proved that a family drawn from bytes is one of the call's own; conditions: those of each statement. -/
namespace Go.Proofs.YtjclfpcnfmpjdaaDoor
open Go.RowKit

theorem openD_any (a : Option Addr) (n cap : Nat) (w : World) (hn : n ≤ 1048576) (hc : n ≤ cap) (hc2 : cap ≤ 9223372036854775807) (ha : n ≠ 0 → ∃ g off, a = some ⟨g, off, none⟩) :
    Calls Tryd.prog 40 #[.slice a n cap] w fun e w' => ∃ k, k ≤ n ∧ e = .returned (.pointer (some ⟨w.heap.size, 0, none⟩)) ∧ w' = w.alloc (.cells #[.slice a k cap, .int .i64 0] 89) := by
  by_cases h : n ≤ 2000
  · go_enter Tryd.func40, Tryd.ntmps40
    go_wp2
    go_ret
    exact ⟨n, Nat.le_refl _, rfl, rfl⟩
  · obtain ⟨g, off, rfl⟩ := ha (by omega)
    have hc3 : (2000 : Int) ≤ (cap : Int) := by omega
    go_enter Tryd.func40, Tryd.ntmps40
    go_wp2
    go_ret
    exact ⟨2000, by omega, rfl, rfl⟩

/-- A family of the call's own. -/
def DrawnOne (w : World) (e : Ending) (W : World) : Prop :=
  ∃ (m : Int) (a : Option Addr) (zs : List Int) (c : Nat), e = .returned (.agg #[.int .i64 m, .slice a zs.length c]) ∧ zs.length ≤ 9 ∧ OwnI W w.heap.size (.slice a zs.length c) zs ∧ Below w.heap.size w W

theorem Bys.below {w W : World} {B : Nat} {b : Option Addr} {n : Nat} (h : Bys w B b n) (hb : Below B w W) : Bys W B b n := by
  rcases h with h | ⟨g, off, e, hgR, hc⟩
  · exact .inl h
  · refine .inr ⟨g, off, e, hgR, fun j hj => ?_⟩
    obtain ⟨z, hz, hcz⟩ := hc j hj
    exact ⟨z, hz, (hb.cell (p := ⟨g, off + j, none⟩) hgR).trans hcz⟩

theorem Bys.fewer {w : World} {B B' : Nat} {b : Option Addr} {n k : Nat} (h : Bys w B b n) (hB : B ≤ B') (hk : k ≤ n) : Bys w B' b k := by
  rcases h with h | ⟨g, off, e, hgR, hc⟩
  · exact .inl (by omega)
  · exact .inr ⟨g, off, e, by omega, fun j hj => hc j (by omega)⟩

end Go.Proofs.YtjclfpcnfmpjdaaDoor

/- It is proved how a slice of bytes among a law's arguments reads; conditions: none but that the argument can be read. -/
namespace Go.Proofs.YtjclfpcnfmpjdaaDoor
open Go.ChangeShapes Go.WideShapes Go.ChangeAt Go.RowKit Go.Joins
open Go.ChangeMaps (open_string shut_string)

theorem u8_min : IntKind.u8.min = 0 := by decide
theorem u8_max : IntKind.u8.max = 255 := by decide
theorem byte_in {z : Int} (h : (Lit.int .u8 z).wf = true) : 0 ≤ z ∧ z ≤ 255 := by
  simp [Lit.wf, u8_min, u8_max] at h; exact h

theorem byte_small {z : Int} (h : (Lit.int .u8 z).wf = true) : z.toNat < 256 := by have := byte_in h; omega
theorem byte_nat {z : Int} (h : (Lit.int .u8 z).wf = true) : Value.int .u8 z = .int .u8 ((z.toNat : Nat) : Int) := by
  rw [Int.toNat_of_nonneg (byte_in h).1]

theorem Tryd.cells5 : Tryd.prog.cellsOf 5 = 1 := by kernel_rfl
set_option maxRecDepth 100000 in
theorem open_code {H : Type} {enc : TypeId × Value → H} {W : World} {base : Nat} {v : Value} {d : DataW H} {p : List MemPlace}
    (hv : Value.okWide Tryd.prog W .any base 22 v) (h : DataW.Trod enc Tryd.prog W 0 (fun _ => true) true 22 v d p) :
    ∃ a n cap, v = .slice a n cap ∧ n ≤ cap ∧ cap ≤ maxLen ∧ Bys W W.heap.size a n := by
  obtain ⟨a, n, cap, rfl⟩ := okWide_slice Tryd.underlying22 hv
  obtain ⟨fuel, hf⟩ := h
  rcases open_ints Tryd.underlying22 Tryd.underlying5 Tryd.cells5 hf with ⟨hcs, _⟩ | ⟨x, l, c, zs, hcs, _, hl, hm, hz, hx, hcell, hwz⟩
  · simp [Value.cells] at hcs
    obtain ⟨rfl, rfl, rfl⟩ := hcs
    exact ⟨none, 0, 0, rfl, by omega, by simp [maxLen], .inl rfl⟩
  · simp [Value.cells] at hcs
    obtain ⟨rfl, rfl, rfl⟩ := hcs
    refine ⟨some x, n, cap, rfl, hl, hm, ?_⟩
    by_cases h0 : n = 0
    · exact .inl h0
    · obtain ⟨b, off, spot⟩ := x
      simp at hz
      have hc := hcell 0 (by omega)
      have hspot : spot = none := by simpa [Addr.add] using World.cell?_spot hc
      subst hspot
      refine .inr ⟨b, off, rfl, by simpa [Addr.add] using World.block_lt_of_cell? W _ hc, fun j hj => ?_⟩
      have h1 := hcell j (by omega)
      rw [show (⟨b, off, none⟩ : Addr).add j = ⟨b, off + j, none⟩ from by unfold Addr.add; split <;> simp_all] at h1
      have h2 := hwz (zs.getD j 0) (by
        have : j < zs.length := by omega
        simp [List.getD, this])
      refine ⟨(zs.getD j 0).toNat, ?_, ?_⟩
      · exact byte_small h2
      · rw [h1, byte_nat h2]

end Go.Proofs.YtjclfpcnfmpjdaaDoor

/- It is proved how a Family among a law's arguments reads as a number and a list of ints; conditions: none but that the argument can be read. -/
namespace Go.Proofs.YtjclfpcnfmpjdaaDoor
open Go.ChangeShapes Go.WideShapes Go.ChangeAt Go.RowKit Go.Joins
open Go.ChangeMaps (open_string shut_string)

theorem Tryd.own : ownKnob Tryd.prog.godebug = none := by kernel_rfl
theorem Tryd.laidOut : laidOutB Tryd.prog = true := by kernel_rfl
theorem Tryd.cells42 : Tryd.prog.cellsOf 42 = 2 := by kernel_rfl
theorem Tryd.cells3 : Tryd.prog.cellsOf 3 = 1 := by kernel_rfl
theorem Tryd.cells23 : Tryd.prog.cellsOf 23 = 1 := by kernel_rfl
theorem ints_of_row {W : World} {x : Addr} {l c : Nat} {zs : List Int} (hl : l ≤ c) (hz : zs.length = c)
    (hcell : ∀ i, i < zs.length → W.cell? (x.add i) = some (.int .i64 (zs.getD i 0))) : Ints W W.heap.size (some x) (zs.take l) := by
  by_cases h0 : l = 0
  · subst h0; exact .inl (by simp)
  · obtain ⟨b, off, spot⟩ := x
    have hc := hcell 0 (by omega)
    have hspot : spot = none := by simpa [Addr.add] using World.cell?_spot hc
    subst hspot
    refine .inr ⟨b, off, rfl, by simpa [Addr.add] using World.block_lt_of_cell? W _ hc, fun j hj => ?_⟩
    have hj' : j < l := by simp at hj; omega
    have := hcell j (by omega)
    rw [show (⟨b, off, none⟩ : Addr).add j = ⟨b, off + j, none⟩ from by unfold Addr.add; split <;> simp_all] at this
    rw [this]
    simp [List.getD, hj']

set_option maxRecDepth 100000 in
theorem open_family {H : Type} {enc : TypeId × Value → H} {W : World} {base : Nat} {v : Value} {d : DataW H} {p : List MemPlace}
    (hv : Value.okWide Tryd.prog W .any base 42 v) (h : DataW.Trod enc Tryd.prog W 0 (fun _ => true) true 42 v d p) :
    ∃ m a cap, ∃ zs : List Int, v = .agg #[.int .i64 m, .slice a zs.length cap] ∧ zs.length ≤ maxLen ∧ Ints W W.heap.size a zs := by
  obtain ⟨c0, c1, y0, y1, n, rfl, rfl, rfl, hy0, hy1⟩ := open_agg2 Tryd.underlying42 (by kernel_rfl) Tryd.cells42 hv h
  obtain ⟨m, e0, rfl, wm⟩ := DataW.trod_int Tryd.underlying3 hy0
  simp at e0
  subst e0
  rcases open_ints Tryd.underlying23 Tryd.underlying3 Tryd.cells3 hy1 with ⟨hcs, _⟩ | ⟨x, l, c, zs, hcs, _, hl, hm, hz, hx, hcell, hwz⟩
  · simp at hcs
    subst hcs
    exact ⟨m, none, 0, [], rfl, by simp [maxLen], .inl rfl⟩
  · simp at hcs
    subst hcs
    have hlen : (zs.take l).length = l := by rw [List.length_take]; simp at hz; omega
    refine ⟨m, some x, c, zs.take l, by rw [hlen], by rw [hlen]; omega, ints_of_row hl (by simpa using hz) hcell⟩

end Go.Proofs.YtjclfpcnfmpjdaaDoor

/- It is proved how all names of members are listed in order, by choosing the first name and by going on from the front; conditions: those of each statement. -/
namespace Go.Proofs.YtjclfpcnfmpjdaaDoor
open Go.RowKit

/-- All orders of these members, as lists are compared. -/
def permsL : Nat → List Nat → List (List Nat)
  | 0, _ => [[]]
  | k + 1, us => us.flatMap fun v => (permsL k (us.erase v)).map (v :: ·)

/-- Each list, with each member below n that it has not, behind it. -/
def nextL (n : Nat) (L : List (List Nat)) : List (List Nat) := L.flatMap fun l => ((List.range n).filter fun v => !l.contains v).map fun v => l ++ [v]

def fromL (n : Nat) : Nat → List (List Nat) → List (List Nat)
  | 0, L => L
  | k + 1, L => fromL n k (nextL n L)

def lvlL (n : Nat) : Nat → List (List Nat)
  | 0 => [[]]
  | k + 1 => nextL n (lvlL n k)

theorem fromL_succ (n : Nat) : ∀ (k : Nat) (L : List (List Nat)), fromL n (k + 1) L = nextL n (fromL n k L)
  | 0, _ => rfl
  | k + 1, L => by rw [fromL, fromL_succ n k]; rfl

theorem lvlL_from (n : Nat) : ∀ k, lvlL n k = fromL n k [[]]
  | 0 => rfl
  | k + 1 => by rw [fromL_succ, lvlL, lvlL_from n k]

theorem nextL_flat {α : Type} (n : Nat) (xs : List α) (f : α → List (List Nat)) : nextL n (xs.flatMap f) = xs.flatMap fun x => nextL n (f x) := by
  unfold nextL; rw [List.flatMap_assoc]

theorem fromL_flat {α : Type} (n : Nat) : ∀ (k : Nat) (xs : List α) (f : α → List (List Nat)), fromL n k (xs.flatMap f) = xs.flatMap fun x => fromL n k (f x)
  | 0, _, _ => rfl
  | k + 1, xs, f => by rw [fromL, nextL_flat, fromL_flat n k]; rfl

theorem erase_filter (n : Nat) (l : List Nat) (v : Nat) : ((List.range n).filter fun u => !l.contains u).erase v = (List.range n).filter fun u => !(l ++ [v]).contains u := by
  rw [List.Nodup.erase_eq_filter (List.Pairwise.filter _ List.nodup_range), List.filter_filter]
  apply List.filter_congr
  intro x _
  rw [Bool.eq_iff_iff]
  simp [and_comm]

theorem fromL_perms (n : Nat) : ∀ (k : Nat) (l : List Nat), fromL n k [l] = (permsL k ((List.range n).filter fun u => !l.contains u)).map (l ++ ·)
  | 0, l => by simp [fromL, permsL]
  | k + 1, l => by
    rw [fromL, show nextL n [l] = ((List.range n).filter fun u => !l.contains u).flatMap fun v => [l ++ [v]] from by simp [nextL, List.map_eq_flatMap], fromL_flat, permsL, List.map_flatMap]
    congr 1
    funext v
    rw [fromL_perms n k, erase_filter, List.map_map]
    apply List.map_congr_left
    intro x _
    simp

theorem lvlL_perms (n k : Nat) : lvlL n k = permsL k (List.range n) := by
  rw [lvlL_from, fromL_perms, show ((List.range n).filter fun u => !([] : List Nat).contains u) = List.range n from by simp]
  simp

theorem permsL_len : ∀ (k : Nat) (us : List Nat) (p : List Nat), p ∈ permsL k us → p.length = k
  | 0, us, p, h => by simp [permsL] at h; simp [h]
  | k + 1, us, p, h => by
    simp only [permsL, List.mem_flatMap, List.mem_map] at h
    obtain ⟨v, _, q, hq, rfl⟩ := h
    simp [permsL_len k _ q hq]

theorem permsL_perm : ∀ (k : Nat) (us : List Nat) (p : List Nat), us.length = k → p ∈ permsL k us → p.Perm us
  | 0, us, p, hl, h => by simp [permsL] at h; simp [h, List.eq_nil_of_length_eq_zero hl]
  | k + 1, us, p, hl, h => by
    simp only [permsL, List.mem_flatMap, List.mem_map] at h
    obtain ⟨v, hv, q, hq, rfl⟩ := h
    have := permsL_perm k _ q (by rw [List.length_erase_of_mem hv]; omega) hq
    exact (this.cons v).trans (List.perm_cons_erase hv).symm

theorem flat_len {α β : Type} (f : α → List β) (c : Nat) : ∀ xs : List α, (∀ x ∈ xs, (f x).length ≤ c) → (xs.flatMap f).length ≤ xs.length * c
  | [], _ => by simp
  | x :: xs, h => by
    rw [List.flatMap_cons, List.length_append, List.length_cons, Nat.succ_mul]
    have h1 := h x (by simp)
    have h2 := flat_len f c xs (fun y hy => h y (by simp [hy]))
    omega

theorem lvlL_len (n : Nat) : ∀ k, (lvlL n k).length ≤ n ^ k
  | 0 => by simp [lvlL]
  | k + 1 => by
    rw [lvlL, nextL, Nat.pow_succ]
    refine Nat.le_trans (flat_len _ n _ (fun l _ => ?_)) (Nat.mul_le_mul_right _ (lvlL_len n k))
    rw [List.length_map]
    exact Nat.le_trans (List.length_filter_le _ _) (by simp)

theorem lvlL_small {n : Nat} (hn : n ≤ 6) {k : Nat} (hk : k ≤ n) : (lvlL n k).length ≤ 46656 :=
  Nat.le_trans (lvlL_len n k) (Nat.le_trans (Nat.pow_le_pow_left hn k) (Nat.le_trans (Nat.pow_le_pow_right (by decide) (by omega)) (by decide : 6 ^ 6 ≤ 46656)))

theorem lvlL_in {n k : Nat} {p : List Nat} (h : p ∈ lvlL n k) : p.length = k := by rw [lvlL_perms] at h; exact permsL_len _ _ _ h
theorem lvlL_lt {n : Nat} : ∀ {k : Nat} {p : List Nat}, p ∈ lvlL n k → ∀ v ∈ p, v < n
  | 0, p, h => by simp [lvlL] at h; simp [h]
  | k + 1, p, h => by
    simp only [lvlL, nextL, List.mem_flatMap, List.mem_map, List.mem_filter, List.mem_range] at h
    obtain ⟨l, hl, v, ⟨hv, _⟩, rfl⟩ := h
    intro u hu
    rcases List.mem_append.1 hu with h1 | h1
    · exact lvlL_lt hl u h1
    · simp at h1; omega

end Go.Proofs.YtjclfpcnfmpjdaaDoor

/- It is proved that a region that draws its order inside a round may be walked once where all its operations but the last ones leave the world alone; conditions: those of each statement. -/
namespace Go
section
variable {F : Fence} {n : Nat} {P : Program} {ops : Array Oper} {md : Region.Mode} {Q' : Exit → Act → World → Prop}

/-- A fence that shuts nothing out. -/
structure Fence.Open (F : Fence) : Prop where
  fns : ∀ f, F.fn f
  deep : F.depth.isSome = false
  calls : ∀ (P : Program) (f : FuncId) (args : Array Value) (w : World) (R : Ending → World → Prop) (m : Nat), Calls P f args w R → CallsIn F m P f args w R

theorem Fence.Open.wide : Fence.Open Fence.wide := ⟨fun _ => trivial, rfl, fun _ _ _ _ _ _ h => callsIn_wide.2 h⟩
theorem Fence.Open.inRound {F : Fence} (h : F.Open) (l : Nat) : (F.inRound l).Open := ⟨h.fns, h.deep, fun P f args w R m hc => CallsIn.inRound l (h.calls P f args w R m hc)⟩
theorem wpIn_of_still_o (hF : F.Open) {o : Oper} {a : Act} {w : World} {K : Act → Prop} {K' : Act → World → Prop} (hd : ∀ c, o.op ≠ .defer c) (h : ∀ a, K a → K' a w) (hh : o.still P a w K) : o.wpIn F n P a w K' Q' := by
  unfold Oper.still at hh
  unfold Oper.wpIn
  refine ⟨fun f _ => hF.fns f, ?_⟩
  rw [Oper.semAt_eq _ _ _ hd]
  generalize (execOp a.eval o).run P w = r at *
  cases r with
  | ok nx w' =>
    cases nx <;> simp only [Oper.stillUpon] at hh <;> simp only [Oper.uponIn]
    case enter f args =>
      obtain ⟨rfl, v, hc, hn⟩ := hh
      refine ⟨fun h1 => absurd h1 (by rw [hF.deep]; decide), (hF.calls _ _ _ _ _ _ hc).mono fun e w'' ⟨he, hw⟩ => ?_⟩
      subst he; subst hw; exact h _ hn
    all_goals (obtain ⟨rfl, h2⟩ := hh; exact h _ h2)
  | halt x w' => simp only [Oper.stillUpon] at hh

theorem wpOpIn_of_stOp_o (hF : F.Open) {i : Nat} {a : Act} {w : World} {K : Act → Prop} {K' : Act → World → Prop} (hd : ∀ o, ops[i]? = some o → ∀ c, o.op ≠ .defer c) (h : ∀ a, K a → K' a w) (hh : stOp P ops w i K a) : wpOpIn F n P ops Q' i K' a w := by
  unfold stOp at hh
  unfold wpOpIn
  split
  · rename_i ho; simp only [ho] at hh; exact h _ hh
  · rename_i o ho
    simp only [ho] at hh
    split
    · rename_i hw; simp only [hw, if_true] at hh; exact wpIn_of_still_o hF (hd o ho) h hh
    · rename_i hw; simp only [hw] at hh; exact ⟨fun f _ => hF.fns f, h _ hh⟩

theorem wpAnyIn_of_head_o (hF : F.Open) {m g : Nat} {w : World} {L : Array Bool → Act → Prop} (hd : ∀ (i : Nat) (o : Oper), ops[i]? = some o → ∀ c, o.op ≠ .defer c) (hL : ∀ listed a, L listed a → wpAnyIn F n P md ops Q' g listed a w) :
    ∀ (f : Nat) (listed : Array Bool) (a : Act), wpAnyL P md ops w m L f listed a → wpAnyIn F n P md ops Q' (f + g) listed a w
  | 0, listed, a, h => by rw [Nat.zero_add]; exact hL _ _ h
  | f + 1, listed, a, h => by
    rw [show f + 1 + g = (f + g) + 1 by omega]
    exact ⟨fun h0 => absurd h0 h.1, fun i hi => wpOpIn_of_stOp_o hF (hd i) (fun a' h' => wpAnyIn_of_head_o hF hd hL f _ a' h') (h.2 i hi).2⟩

theorem wpAnyIn_of_seq_o : ∀ (l : List Oper) (k : Nat) (listed : Array Bool) (a : Act) (w : World), (∀ j, l[j]? = ops[k + j]?) →
    Region.seqB md ops l.length k listed = true → wpListIn F n P ops Q' l a w → wpAnyIn F n P md ops Q' l.length listed a w
  | [], _, _, _, _, _, hB, h => ⟨by simpa [Region.seqB] using hB, h⟩
  | o :: l, k, listed, a, w, hl, hB, h => by
    have h0 : ops[k]? = some o := by simpa using (hl 0).symm
    simp only [List.length_cons, Region.seqB, Bool.and_eq_true, decide_eq_true_eq] at hB
    refine ⟨fun h1 => (by rw [hB.1] at h1; cases h1), fun i hi => ?_⟩
    rw [hB.1] at hi
    have hik : i = k := by simpa using hi
    subst hik
    have hw : wpOpIn F n P ops Q' i (wpListIn F n P ops Q' l) a w := by unfold wpOpIn; simp only [h0]; exact h
    exact wpOpIn_mono (fun a' w' h' => wpAnyIn_of_seq_o l (i + 1) _ a' w' (fun j => by have := hl (j + 1); simpa [Nat.add_assoc, Nat.add_comm 1 j] using this) hB.2 h') hw

def noDefer (l : List Oper) : Bool := l.all fun o => match o.op with | .defer _ => false | _ => true
theorem noDefer_spec {l : List Oper} (h : noDefer l = true) (i : Nat) (o : Oper) (hi : l.toArray[i]? = some o) : ∀ c, o.op ≠ .defer c := by
  have h1 := List.all_eq_true.1 h o (List.mem_of_getElem? (by simpa using hi))
  intro c e
  rw [e] at h1
  cases h1

theorem wpIn_region_still_tail_o (hF : F.Open) {id : Nat} {Q : Exit → Act → World → Prop} {a : Act} {w : World} {l : List Oper} (m : Nat) (hm : P.follows .mixedOrders = true) (hdf : noDefer l = true) (hB : Region.lexTailB .any l.toArray m = true)
    (h : wpStill P l.toArray { w with drawn := w.drawn + 1 } (fun a' => wpListIn F n P l.toArray Q (l.drop m) a' { w with drawn := w.drawn + 1 }) (l.take m) a) : (Code.region id l.toArray true).wpIn F n P Q a w := by
  simp only [Region.lexTailB, Bool.and_eq_true, decide_eq_true_eq] at hB
  obtain ⟨⟨⟨⟨hsel, hn⟩, hs⟩, hc⟩, hlex⟩ := hB
  have htl : (l.take m).length = m := by have : m < l.length := by simpa using hn
                                         simp; omega
  have hdl : (l.drop m).length = l.toArray.size - m := by simp
  have inv0 : HeadInv .any l.toArray m (Array.replicate l.toArray.size false) :=
    ⟨by simp, fun j oj _ hl => (by rw [getD_replicate_false] at hl; cases hl), fun t _ ht => getD_in (by simpa using ht) (getD_replicate_false _ _)⟩
  have H := wpAnyL_lex (md := .any) (g := l.toArray.size - m) hsel hs hc hn (l.take m) 0 _ a (fun j hj => by
    have hj' : j < m := by rw [htl] at hj; exact hj
    simp [hj']) (by simpa using htl) inv0 (by rw [htl]; exact hlex) h
  refine wpIn_region_any hm ?_
  have := wpAnyIn_of_head_o (n := n) (Q' := Q) (g := l.toArray.size - m) hF (noDefer_spec hdf) (fun listed a' hL => by
    have := wpAnyIn_of_seq_o (F := F) (n := n) (md := .any) (Q' := Q) (l.drop m) m listed a' { w with drawn := w.drawn + 1 } (fun j => by simp [List.getElem?_drop]) (by rw [hdl]; exact hL.1) hL.2
    rwa [hdl] at this) _ _ _ H
  rw [htl, show m + (l.toArray.size - m) = l.toArray.size by omega] at this
  exact this

end
end Go

/- It is proved how the library's table is kept, and how the members of a set are counted; conditions: those of each statement. -/
namespace Go.Proofs.YtjclfpcnfmpjdaaDoor
open Go.RowKit

/-- The library's table lies in its variable. -/
def Tab (w : World) : Prop := TabAt 1 Lib.deBruijn64tab w

theorem Tab.lt {w : World} (h : Tab w) : 1 < w.heap.size := World.block_lt_of_cell? w _ (h 0 (by decide))
theorem Tab.below {B : Nat} {w w' : World} (h : Tab w) (hb : Below B w w') (hB : 1 < B) : Tab w' := fun j hj => (hb.cell (p := ⟨1, j, none⟩) hB).trans (h j hj)
theorem Tab.step {w w' : World} (h : Tab w) (hb : Below w.heap.size w w') : Tab w' := h.below hb h.lt
/-- The members of a set. -/
def mem (s : Nat) : List Nat := (List.range 6).filter fun i => s.testBit i

set_option maxRecDepth 100000 in
theorem mem_cons : ∀ s, s < 64 → s ≠ 0 → mem s = Lib.ctz 64 s :: mem (s &&& (s - 1)) := by decide +kernel

theorem mem_zero : mem 0 = [] := by decide
theorem mem_length : ∀ s, s < 64 → (mem s).length ≤ 6 := by decide +kernel
theorem mem_lt : ∀ m, m ≤ 6 → ∀ s, s < 2 ^ m → ∀ v ∈ mem s, v < m := by decide +kernel
/-- How often each of 0, .., m - 1 stands in a list. -/
def degL (m : Nat) (us : List Nat) : List Int := (List.range m).map fun v => ((us.count v : Nat) : Int)

theorem degL_length (m : Nat) (us : List Nat) : (degL m us).length = m := by simp [degL]
theorem degL_at (m : Nat) (us : List Nat) (v : Nat) (h : v < m) : (degL m us)[v]? = some ((us.count v : Nat) : Int) := by simp [degL, h]
theorem degL_nil (m : Nat) : degL m [] = List.replicate m 0 := by
  apply List.ext_getElem <;> simp [degL]

theorem degL_snoc (m : Nat) (us : List Nat) (u : Nat) : degL m (us ++ [u]) = (degL m us).set u (((us.count u : Nat) : Int) + 1) := by
  apply List.ext_getElem
  · simp [degL]
  · intro i h1 h2
    have hi : i < m := by simpa [degL] using h1
    simp only [degL, List.getElem_map, List.getElem_range, List.getElem_set]
    by_cases h : u = i
    · subst h; simp
    · simp [h]
      

end Go.Proofs.YtjclfpcnfmpjdaaDoor

/- It is proved what TrailingZeros returns and what the iterator over a set's members yields; conditions: those of each statement. -/
namespace Go.Proofs.YtjclfpcnfmpjdaaDoor
open Go.RowKit Go.Shelf

attribute [local go_sem] Oper.semAt_some

set_option maxHeartbeats 1000000 in
theorem tz64_coreD (x k idx : Nat) (w : World) (hx0 : ((x : Int) == 0) = false)
    (key : IntKind.u64.wrap (bits BinOp.and IntKind.u64 (x : Int) (IntKind.u64.wrap (-(x : Int))) * 285870213051353865) / 288230376151711744 = (idx : Int))
    (hi : idx < 64) (hk : k < 64) (hcell : w.cell? ⟨1, idx, none⟩ = some (.int .u8 k)) :
    Calls Tryd.prog 102 #[.int .u64 x] w fun e w' => e = .returned (.int .i64 k) ∧ w = w' := by
  go_enter Tryd.func102, Tryd.ntmps102
  go_wp2_with (simp only [key])
  go_ret
  exact ⟨rfl, rfl⟩

theorem tz_any (x : Nat) (hx0 : x ≠ 0) (hx : x < 64) (w : World) (hT : Tab w) :
    Calls Tryd.prog 89 #[.int .u64 x] w fun e w' => e = .returned (.int .i64 (Lib.ctz 64 x : Nat)) ∧ w = w' := by
  obtain ⟨hlow, hk⟩ := Lib.lowest_bit 64 x hx0 (by omega)
  obtain ⟨hi, htab⟩ := Lib.deBruijn64_at _ hk
  have hcell := hT _ hi
  rw [htab] at hcell
  have H := tz64_coreD x _ _ w (by simp; omega) (tz64_key x _ (by omega) hx0 hlow) hi hk hcell
  clear hT hcell htab hi hlow
  go_enter Tryd.func89, Tryd.ntmps89
  go_wp2_with (go_at_call 102; refine H.mono ?_; rintro e w' ⟨rfl, rfl⟩)
  go_ret
  exact ⟨rfl, rfl⟩

/-- c.members(): the set is boxed; the function value holds the box. -/
theorem members_any (s : Int) (w : World) :
    Calls Tryd.prog 53 #[.int .i64 s] w fun e w' => e = .returned (.func (.func 88) #[] #[.pointer (some ⟨w.heap.size, 0, none⟩)]) ∧ w' = w.alloc (.cells #[.int .i64 s] 64) := by
  have hmf : ∀ (fn : Fn) (first cap : Array Value) (w : World), (Instr.makeFunc fn first cap).run Tryd.prog w = .ok (.func fn first cap) w := fun _ _ _ _ => rfl
  go_enter Tryd.func53, Tryd.ntmps53
  go_wp2
  go_ret
  exact ⟨rfl, rfl⟩

/-- A member below m. -/
abbrev Mem (m : Nat) := { v : Nat // v < m }

theorem low_and (t : Nat) (h0 : t ≠ 0) (h : t < 64) : bits BinOp.and IntKind.u64 (t : Int) ((t : Int) - 1) = ((t &&& (t - 1) : Nat) : Int) := by
  rw [show (t : Int) - 1 = ((t - 1 : Nat) : Int) from by omega, bits_and_u64_nat t _ (by omega) (by omega)]

set_option maxRecDepth 100000 in
set_option maxHeartbeats 2000000 in
theorem members1_in (n : Nat) (hn : 1 ≤ n) (l Bs n₀ m s : Nat) (hm : m ≤ 6) (hs : s < 2 ^ m) (J Jx : List (Mem m) → World → Prop)
    (hY : ∀ pre x W, J pre W → pre.length < 6 → YieldAt Fence.wide (n - 1) Tryd.prog l #[.int .i64 (x.1 : Int)] W fun e W' =>
      (e = .returned (.bool true) ∧ J (pre ++ [x]) W' ∧ Below n₀ W W') ∨ (e = .returned (.bool false) ∧ Jx (pre ++ [x]) W'))
    (W : World) (hBs : W.cell? ⟨Bs, 0, none⟩ = some (.int .i64 (s : Int))) (hT : Tab W) (hn0 : 1 < n₀) (h0 : J [] W) :
    CallsIn Fence.wide n Tryd.prog 88 #[.func (.yield l) #[] #[], .pointer (some ⟨Bs, 0, none⟩)] W fun e W' => (∃ v, e = .returned v) ∧
      ((∃ ys, ys.map (·.1) = mem s ∧ J ys W') ∨ (∃ pre, pre.map (·.1) <+: mem s ∧ Jx pre W')) := by
  have hs64 : s < 64 := Nat.lt_of_lt_of_le hs (Nat.pow_le_pow_right (by decide) hm : 2 ^ m ≤ 2 ^ 6)
  have hss : (s : Int) < 64 := by omega
  refine callsIn_of_wp Tryd.func88 rfl trivial ?_ rfl
  simp only [Tryd.ntmps88, List.size_toArray, List.length_cons, List.length_nil, Nat.reduceAdd, Nat.reduceSub, Array.replicate_succ, Array.replicate_zero, List.push_toArray, List.append_toArray, List.nil_append, List.cons_append]
  gi_wp2
  gi_loopw [3] (fun r wr => ∃ (t : Nat) (pre : List (Mem m)), t < 64 ∧ pre.map (·.1) ++ mem t = mem s ∧ r = .int .u64 (t : Int) ∧ J pre wr ∧ Below n₀ W wr)
    (fun r _ => (intOf r).toNat)
  case atStart => exact ⟨s, [], hs64, by simp, rfl, h0, Below.refl _ _⟩
  case round =>
    obtain ⟨t, pre, ht, hpre, rfl, hJs, hnx⟩ := hrel
    by_cases h0 : t = 0
    · subst h0
      rw [mem_zero, List.append_nil] at hpre
      gi_wp2
      go_end0
      exact ⟨⟨_, rfl⟩, .inl ⟨pre, hpre, hJs⟩⟩
    · have hc := mem_cons t ht h0
      rw [hc] at hpre
      have hk : Lib.ctz 64 t < m := mem_lt m hm s hs _ (by rw [← hpre]; simp)
      have hlen : pre.length < 6 := by
        have h1 := mem_length s hs64
        rw [← hpre] at h1
        simp at h1
        omega
      have HA := Lib.hid (low_and t h0 ht)
      have hT2 : Tab wr := hT.below hnx hn0
      have hpre' : (pre ++ [(⟨Lib.ctz 64 t, hk⟩ : Mem m)]).map (·.1) ++ mem (t &&& (t - 1)) = mem s := by rw [← hpre]; simp
      have hlt : t &&& (t - 1) < t := by have := @Nat.and_le_right t (t - 1); omega
      obtain ⟨fn, tmps, assign, body, hy, hR⟩ := hY _ ⟨Lib.ctz 64 t, hk⟩ wr hJs hlen
      dsimp only at hy
      have ht0 : (0 : Int) < (t : Int) := by omega
      clear hc hpre
      gi_wp2
      refine ⟨trivial, (callsIn_wide.2 (tz_any t h0 ht _ hT2)).mono ?_⟩
      rintro e w' ⟨rfl, rfl⟩
      gi_wp2
      refine hR.mono ?_
      rintro e W3 (⟨rfl, hJ3, hk3⟩ | ⟨rfl, hJx3⟩)
      · gi_wp2
        go_roundw
        case rel => exact ⟨t &&& (t - 1), _, by omega, hpre', by rw [HA.out], hJ3, hnx.trans hk3⟩
        case measure => rw [HA.out]; simp only [intOf]; omega
      · gi_wp2
        refine bodyPost_ret (results_none rfl _ _ _) rfl ?_
        exact ⟨⟨_, rfl⟩, .inr ⟨_, ⟨mem (t &&& (t - 1)), hpre'⟩, hJx3⟩⟩

theorem members_stops (n : Nat) (hn : 1 ≤ n) (Bs n₀ m s : Nat) (hm : m ≤ 6) (hs : s < 2 ^ m) (w : World) (hBs : Bs < w.heap.size) (hn₀ : n₀ ≤ w.heap.size) (hn1 : 1 < n₀)
    (hc : w.cell? ⟨Bs, 0, none⟩ = some (.int .i64 (s : Int))) (hT : Tab w) :
    SeqStopsK Fence.wide n Tryd.prog 88 #[.pointer (some ⟨Bs, 0, none⟩)] (fun x : Mem m => #[Value.int .i64 (x.1 : Int)]) (Below n₀) (fun ys => ys.map (·.1) = mem s)
      (fun pre => pre.map (·.1) <+: mem s) 6 w := fun l J Jx W hW _ _ hY h0 =>
  members1_in n hn l Bs n₀ m s hm hs J Jx hY W ((hW.cell (p := ⟨Bs, 0, none⟩) hBs).trans hc) (hT.below hW (by omega)) hn1 h0

end Go.Proofs.YtjclfpcnfmpjdaaDoor

/- It is proved what the iterator over a family's clubs yields; conditions: those of each statement. -/
namespace Go.Proofs.YtjclfpcnfmpjdaaDoor
open Go.RowKit Go.Shelf

attribute [local go_sem] Oper.semAt_some

/-- The first k places with the clubs there. -/
def pairs (zs : List Int) (k : Nat) : List (Nat × Int) := (List.range k).map fun j => (j, zs[j]?.getD 0)

theorem pairs_succ (zs : List Int) (k : Nat) : pairs zs (k + 1) = pairs zs k ++ [(k, zs[k]?.getD 0)] := by simp [pairs, List.range_succ]
theorem pairs_succ' (zs : List Int) (k : Nat) (h : k < zs.length) : pairs zs (k + 1) = pairs zs k ++ [(k, zs[k])] := by rw [pairs_succ]; simp [h]
theorem pairs_length (zs : List Int) (k : Nat) : (pairs zs k).length = k := by simp [pairs]
theorem pairs_snd (zs : List Int) (k : Nat) (h : k ≤ zs.length) : (pairs zs k).map (·.2) = zs.take k := by
  apply List.ext_getElem
  · simp [pairs, h]
  · intro i h1 h2
    have : i < zs.length := by simp [pairs] at h1; omega
    simp [pairs, this]

theorem pairs_all (zs : List Int) : (pairs zs zs.length).map (·.2) = zs := by rw [pairs_snd zs _ (Nat.le_refl _), List.take_length]
set_option maxRecDepth 100000 in
set_option maxHeartbeats 2000000 in
theorem clubs1_in (n : Nat) (hn : 1 ≤ n) (l Bs n₀ : Nat) (a : Option Addr) (c : Nat) (zs : List Int) (hlen : zs.length ≤ 1048576) (J Jx : List (Nat × Int) → World → Prop)
    (hY : ∀ pre x W, J pre W → pre.length < zs.length → YieldAt Fence.wide (n - 1) Tryd.prog l #[.int .i64 (x.1 : Int), .int .i64 x.2] W fun e W' =>
      (e = .returned (.bool true) ∧ J (pre ++ [x]) W' ∧ Below n₀ W W') ∨ (e = .returned (.bool false) ∧ Jx (pre ++ [x]) W'))
    (W : World) (hBs : W.cell? ⟨Bs, 1, none⟩ = some (.slice a zs.length c)) (hI : Ints W n₀ a zs) (h0 : J [] W) :
    CallsIn Fence.wide n Tryd.prog 86 #[.func (.yield l) #[] #[], .pointer (some ⟨Bs, 0, none⟩)] W fun e W' => (∃ v, e = .returned v) ∧
      ((∃ ys, ys = pairs zs zs.length ∧ J ys W') ∨ (∃ pre, (∃ k, k ≤ zs.length ∧ pre = pairs zs k) ∧ Jx pre W')) := by
  refine callsIn_of_wp Tryd.func86 rfl trivial ?_ rfl
  simp only [Tryd.ntmps86, List.size_toArray, List.length_cons, List.length_nil, Nat.reduceAdd, Nat.reduceSub, Array.replicate_succ, Array.replicate_zero, List.push_toArray, List.append_toArray, List.nil_append, List.cons_append]
  gi_wp2
  gi_loopw [8] (fun i wr => ∃ k : Nat, k ≤ zs.length ∧ i = .int .i64 k ∧ J (pairs zs k) wr ∧ Below n₀ W wr)
    (fun i _ => zs.length - (intOf i).toNat)
  case atStart => exact ⟨0, Nat.zero_le _, rfl, h0, Below.refl _ _⟩
  case round =>
    obtain ⟨k, hk, rfl, hJs, hnx⟩ := hrel
    by_cases hlt : k < zs.length
    · obtain ⟨b, off, rfl, hb, hc⟩ := hI.at_ hlt
      have hcx' : wr.cell? ⟨b, off + k, none⟩ = some (.int .i64 (zs[k]?.getD 0)) := (hnx.cell (p := ⟨b, off + k, none⟩) hb).trans hc
      obtain ⟨fn, tmps, assign, body, hy, hR⟩ := hY _ (k, zs[k]) wr hJs (by rw [pairs_length]; exact hlt)
      dsimp only at hy
      gi_wp2
      refine hR.mono ?_
      rintro e W3 (⟨rfl, hJ3, hk3⟩ | ⟨rfl, hJx3⟩)
      · gi_wp2
        go_roundw
        case rel => exact ⟨k + 1, by omega, by simp, by rw [pairs_succ' zs k hlt]; exact hJ3, hnx.trans hk3⟩
        case measure => simp [intOf]; omega
      · gi_wp2
        refine bodyPost_ret (results_none rfl _ _ _) rfl ?_
        exact ⟨⟨_, rfl⟩, .inr ⟨_, ⟨k + 1, by omega, (pairs_succ' zs k hlt).symm⟩, hJx3⟩⟩
    · obtain rfl : k = zs.length := by omega
      gi_wp2
      go_end0
      exact ⟨⟨_, rfl⟩, .inl ⟨_, rfl, hJs⟩⟩

/-- f.clubs(): the family is boxed; the function value holds the box. -/
theorem clubs_any (m : Int) (a : Option Addr) (n c : Nat) (w : World) :
    Calls Tryd.prog 51 #[.agg #[.int .i64 m, .slice a n c]] w fun e w' => e = .returned (.func (.func 86) #[] #[.pointer (some ⟨w.heap.size, 0, none⟩)]) ∧ w' = w.alloc (.cells #[.int .i64 m, .slice a n c] 25) := by
  have hmf : ∀ (fn : Fn) (first cap : Array Value) (w : World), (Instr.makeFunc fn first cap).run Tryd.prog w = .ok (.func fn first cap) w := fun _ _ _ _ => rfl
  go_enter Tryd.func51, Tryd.ntmps51
  go_wp2
  go_ret
  exact ⟨rfl, rfl⟩

theorem clubs_stops (n : Nat) (hn : 1 ≤ n) (Bs n₀ : Nat) (a : Option Addr) (c : Nat) (zs : List Int) (hlen : zs.length ≤ 1048576) (w : World) (hBs : Bs < w.heap.size) (hn₀ : n₀ ≤ w.heap.size)
    (hc : w.cell? ⟨Bs, 1, none⟩ = some (.slice a zs.length c)) (hI : Ints w n₀ a zs) :
    SeqStopsK Fence.wide n Tryd.prog 86 #[.pointer (some ⟨Bs, 0, none⟩)] (fun x : Nat × Int => #[Value.int .i64 (x.1 : Int), Value.int .i64 x.2]) (Below n₀) (fun ys => ys = pairs zs zs.length)
      (fun pre => ∃ k, k ≤ zs.length ∧ pre = pairs zs k) zs.length w := fun l J Jx W hW _ _ hY h0 =>
  clubs1_in n hn l Bs n₀ a c zs hlen J Jx hY W ((hW.cell (p := ⟨Bs, 1, none⟩) hBs).trans hc) (hI.below (hW.mono hn₀)) h0

end Go.Proofs.YtjclfpcnfmpjdaaDoor

/- It is proved what the iterator over a family's clubs yields where each club is a set of members; conditions: those of each statement. -/
namespace Go
theorem wpListIn_make_fullD {F : Fence} {n : Nat} {P : Program} (w : World) {ops : Array Oper} {rest : List Oper} {o : Oper} {a : Act} {Q : Exit → Act → World → Prop}
    (hg : o.guard = none) (l c : Operand) (t : TypeId) (hop : o.op = Op.makeSlice t l c)
    (base : Nat) (e : TypeId) (i : TypeInfo) (z : Value) (size : Nat) (h1 : P.underlying t = some (.slice e)) (h2 : P.info? e = some i) (h3 : i.zero = some z) (h4 : i.size = size)
    (kl kc : IntKind) (m : Nat) (hl : a.eval l = .int kl (m : Int)) (hc : a.eval c = .int kc (m : Int)) (b2 : i.bytes * m ≤ 281474976710656) (b3 : m ≤ maxLen) (b4 : base ≤ w.heap.size)
    (hK : ∀ w', w'.ownsRow base e size (.slice (some ⟨w.heap.size, 0, none⟩) m m) m (madeCells z.cells (m * size)).toList → w.grownBy w' none → wpListIn F n P ops Q rest (a.put o.dst (.slice (some ⟨w.heap.size, 0, none⟩) m m)) w') :
    wpListIn F n P ops Q (o :: rest) a w := by
  refine wpListIn_plain hg fun K hK' => ?_
  obtain ⟨w', hrun, r1, r2⟩ := run_make_full (P := P) w base t e i z size h1 h2 h3 h4 kl kc m b2 b3 b4
  unfold Oper.wpIn
  refine ⟨?_, ?_⟩
  · simp [Oper.about, hop]
  · rw [Oper.semAt_plain F _ _ (by rw [hop]; intro c hc'; cases hc')]
    simp [execOp, hop, hl, hc, hrun, Result.andThen]
    exact hK' _ _ (hK w' r1 r2)

end Go
namespace Go.Proofs.YtjclfpcnfmpjdaaDoor
open Go.RowKit Go.Shelf

attribute [local go_sem] Oper.semAt_some

set_option maxRecDepth 100000 in
set_option maxHeartbeats 2000000 in
theorem clubsP1_in (P : Nat × Int → Prop) (n : Nat) (hn : 1 ≤ n) (l Bs n₀ : Nat) (a : Option Addr) (c : Nat) (zs : List Int) (hlen : zs.length ≤ 1048576) (hP : ∀ k, k < zs.length → P (k, zs[k]?.getD 0)) (J Jx : List { p // P p } → World → Prop)
    (hY : ∀ pre x W, J pre W → pre.length < zs.length → YieldAt Fence.wide (n - 1) Tryd.prog l #[.int .i64 (x.1.1 : Int), .int .i64 x.1.2] W fun e W' =>
      (e = .returned (.bool true) ∧ J (pre ++ [x]) W' ∧ Below n₀ W W') ∨ (e = .returned (.bool false) ∧ Jx (pre ++ [x]) W'))
    (W : World) (hBs : W.cell? ⟨Bs, 1, none⟩ = some (.slice a zs.length c)) (hI : Ints W n₀ a zs) (h0 : J [] W) :
    CallsIn Fence.wide n Tryd.prog 86 #[.func (.yield l) #[] #[], .pointer (some ⟨Bs, 0, none⟩)] W fun e W' => (∃ v, e = .returned v) ∧
      ((∃ ys, ys.map (·.1) = pairs zs zs.length ∧ J ys W') ∨ (∃ pre, (∃ k, k ≤ zs.length ∧ pre.map (·.1) = pairs zs k) ∧ Jx pre W')) := by
  refine callsIn_of_wp Tryd.func86 rfl trivial ?_ rfl
  simp only [Tryd.ntmps86, List.size_toArray, List.length_cons, List.length_nil, Nat.reduceAdd, Nat.reduceSub, Array.replicate_succ, Array.replicate_zero, List.push_toArray, List.append_toArray, List.nil_append, List.cons_append]
  gi_wp2
  gi_loopw [8] (fun i wr => ∃ (k : Nat) (pre : List { p // P p }), k ≤ zs.length ∧ i = .int .i64 k ∧ pre.map (·.1) = pairs zs k ∧ J pre wr ∧ Below n₀ W wr)
    (fun i _ => zs.length - (intOf i).toNat)
  case atStart => exact ⟨0, [], Nat.zero_le _, rfl, rfl, h0, Below.refl _ _⟩
  case round =>
    obtain ⟨k, pre, hk, rfl, hpre, hJs, hnx⟩ := hrel
    by_cases hlt : k < zs.length
    · obtain ⟨b, off, rfl, hb, hc⟩ := hI.at_ hlt
      have hcx' : wr.cell? ⟨b, off + k, none⟩ = some (.int .i64 (zs[k]?.getD 0)) := (hnx.cell (p := ⟨b, off + k, none⟩) hb).trans hc
      have hpl : pre.length < zs.length := by have := congrArg List.length hpre; rw [List.length_map, pairs_length] at this; omega
      have hPk : P (k, zs[k]) := by have := hP k hlt; simpa [hlt] using this
      have hpre' : (pre ++ [(⟨(k, zs[k]), hPk⟩ : { p // P p })]).map (·.1) = pairs zs (k + 1) := by rw [List.map_append, hpre, pairs_succ' zs k hlt]; rfl
      obtain ⟨fn, tmps, assign, body, hy, hR⟩ := hY _ ⟨(k, zs[k]), hPk⟩ wr hJs hpl
      dsimp only at hy
      clear hpre
      gi_wp2
      refine hR.mono ?_
      rintro e W3 (⟨rfl, hJ3, hk3⟩ | ⟨rfl, hJx3⟩)
      · gi_wp2
        go_roundw
        case rel => exact ⟨k + 1, _, by omega, by simp, hpre', hJ3, hnx.trans hk3⟩
        case measure => simp [intOf]; omega
      · gi_wp2
        refine bodyPost_ret (results_none rfl _ _ _) rfl ?_
        exact ⟨⟨_, rfl⟩, .inr ⟨_, ⟨k + 1, by omega, hpre'⟩, hJx3⟩⟩
    · obtain rfl : k = zs.length := by omega
      gi_wp2
      go_end0
      exact ⟨⟨_, rfl⟩, .inl ⟨_, hpre, hJs⟩⟩

theorem clubsP_stops (P : Nat × Int → Prop) (n : Nat) (hn : 1 ≤ n) (Bs n₀ : Nat) (a : Option Addr) (c : Nat) (zs : List Int) (hlen : zs.length ≤ 1048576) (hP : ∀ k, k < zs.length → P (k, zs[k]?.getD 0)) (w : World) (hBs : Bs < w.heap.size) (hn₀ : n₀ ≤ w.heap.size)
    (hc : w.cell? ⟨Bs, 1, none⟩ = some (.slice a zs.length c)) (hI : Ints w n₀ a zs) :
    SeqStopsK Fence.wide n Tryd.prog 86 #[.pointer (some ⟨Bs, 0, none⟩)] (fun x : { p // P p } => #[Value.int .i64 (x.1.1 : Int), Value.int .i64 x.1.2]) (Below n₀) (fun ys => ys.map (·.1) = pairs zs zs.length)
      (fun pre => ∃ k, k ≤ zs.length ∧ pre.map (·.1) = pairs zs k) zs.length w := fun l J Jx W hW _ _ hY h0 =>
  clubsP1_in P n hn l Bs n₀ a c zs hlen hP J Jx hY W ((hW.cell (p := ⟨Bs, 1, none⟩) hBs).trans hc) (hI.below (hW.mono hn₀)) h0

/-- All members of some clubs, one club behind the other. -/
def allMem (zs : List Int) : List Nat := zs.flatMap fun z => mem z.toNat

theorem allMem_snoc (zs : List Int) (z : Int) : allMem (zs ++ [z]) = allMem zs ++ mem z.toNat := by simp [allMem]
theorem allMem_len (zs : List Int) (h : ∀ z ∈ zs, z.toNat < 64) : (allMem zs).length ≤ 6 * zs.length := by
  induction zs with
  | nil => simp [allMem]
  | cons z zs ih =>
    have h1 := mem_length z.toNat (h z (by simp))
    have h2 := ih (fun y hy => h y (by simp [hy]))
    simp only [allMem, List.flatMap_cons, List.length_append, List.length_cons] at h2 ⊢
    omega

/-- What the body of a loop over clubs knows of a club. -/
def IsClub (m : Nat) (p : Nat × Int) : Prop := p.1 < 8 ∧ 0 ≤ p.2 ∧ p.2.toNat < 2 ^ m

theorem IsClub.small {m : Nat} (hm : m ≤ 6) {p : Nat × Int} (h : IsClub m p) : p.2.toNat < 64 := Nat.lt_of_lt_of_le h.2.2 (Nat.pow_le_pow_right (by decide) hm : 2 ^ m ≤ 2 ^ 6)
theorem isClub_all {m : Nat} {zs : List Int} (h : famIn (m : Int) zs = true) : ∀ k, k < zs.length → IsClub m (k, zs[k]?.getD 0) := by
  obtain ⟨h1, h2, h3, h4⟩ := famIn_out h
  intro k hk
  have h5 := h4 zs[k] (List.getElem_mem _)
  have h6 : zs[k]?.getD 0 = zs[k] := by simp [hk]
  refine ⟨by show k < 8; omega, ?_, ?_⟩
  · show 0 ≤ zs[k]?.getD 0
    omega
  · show (zs[k]?.getD 0).toNat < 2 ^ m
    have h7 : fullI (m : Int) = ((2 ^ m : Nat) : Int) - 1 := by simp [fullI]
    rw [h6]
    omega

theorem clubs_snd {m : Nat} {zs : List Int} {ys : List { p // IsClub m p }} (h : ys.map (·.1) = pairs zs zs.length) : ys.map (·.1.2) = zs := by
  have := congrArg (List.map (·.2)) h
  rw [List.map_map, pairs_all] at this
  exact this

theorem clubs_len {m : Nat} (hm : m ≤ 6) (ys : List { p // IsClub m p }) : (allMem (ys.map (·.1.2))).length ≤ 6 * ys.length := by
  have := allMem_len (ys.map (·.1.2)) (by
    intro z hz
    obtain ⟨y, _, rfl⟩ := List.mem_map.1 hz
    exact y.2.small hm)
  simpa using this

/-- A row of m ints in block G, in a variable of its own in block D. -/
def RowBox (D G lo m : Nat) (row : List Int) (W : World) : Prop :=
  ∃ v, Boxed W D 23 v ∧ W.ownsRow lo 3 1 v m (row.map (Value.int .i64)) ∧ v = .slice (some ⟨G, 0, none⟩) m m

theorem RowBox.box {D G lo m : Nat} {row : List Int} {W : World} (h : RowBox D G lo m row W) : Boxed W D 23 (.slice (some ⟨G, 0, none⟩) m m) := by
  obtain ⟨v, h1, _, rfl⟩ := h; exact h1

theorem RowBox.row {D G lo m : Nat} {row : List Int} {W : World} (h : RowBox D G lo m row W) : W.ownsRow lo 3 1 (.slice (some ⟨G, 0, none⟩) m m) m (row.map (Value.int .i64)) := by
  obtain ⟨v, _, h1, rfl⟩ := h; exact h1

theorem RowBox.own {β : Type} (D G lo m : Nat) (f : β → List Int) : Own (fun s W => RowBox D G lo m (f s) W) :=
  holdsRow_own lo D 23 3 1 (fun (_ : β) => m) (fun s => (f s).map (Value.int .i64)) (fun (_ : β) v => v = .slice (some ⟨G, 0, none⟩) m m)

theorem RowBox.alloc {D G lo m : Nat} {row : List Int} {W : World} (h : RowBox D G lo m row W) (o : Obj) : RowBox D G lo m row (W.alloc o) :=
  ⟨_, h.box.alloc o, h.row.alloc o, rfl⟩

theorem RowBox.set {D G lo m : Nat} {row : List Int} {W : World} (h : RowBox D G lo m row W) (hne : D ≠ G) (k : Nat) (x : Int) : RowBox D G lo m (row.set k x) (W.setCell ⟨G, k, none⟩ (.int .i64 x)) := by
  refine ⟨_, HasBlk.far h.box hne _, ?_, rfl⟩
  have h1 := (World.ownsRow.stored h.row k (.int .i64 x)).1
  rw [← List.map_set] at h1
  exact h1

theorem RowBox.cell {D G lo m : Nat} {row : List Int} {W : World} (h : RowBox D G lo m row W) (k : Nat) (hk : k < m) : W.cell? ⟨G, k, none⟩ = some (.int .i64 (row[k]?.getD 0)) ∧ W.frozen? ⟨G, k, none⟩ = false := by
  refine ⟨?_, World.ownsRow.frozenAt h.row k⟩
  have hl : row.length = m := by have := h.row.1; simpa using this
  rw [World.ownsRow.cellAt h.row k (by omega), List.getElem?_map, List.getElem?_eq_getElem (by omega)]
  rfl

/-- The members behind their bound. -/
def vals {m : Nat} (us : List (Mem m)) : List Nat := us.map (·.1)

theorem vals_nil {m : Nat} : vals ([] : List (Mem m)) = [] := rfl
theorem vals_snoc {m : Nat} (us : List (Mem m)) (u : Mem m) : vals (us ++ [u]) = vals us ++ [u.1] := by simp [vals]
theorem vals_length {m : Nat} (us : List (Mem m)) : (vals us).length = us.length := by simp [vals]
/-- The clubs behind what is known of them. -/
def sets {m : Nat} (ys : List { p // IsClub m p }) : List Int := ys.map (·.1.2)

theorem sets_snoc {m : Nat} (ys : List { p // IsClub m p }) (y : { p // IsClub m p }) : sets (ys ++ [y]) = sets ys ++ [y.1.2] := by simp [sets]
theorem sets_all {m : Nat} {zs : List Int} {ys : List { p // IsClub m p }} (h : ys.map (·.1) = pairs zs zs.length) : sets ys = zs := clubs_snd h
theorem sets_len {m : Nat} (hm : m ≤ 6) (ys : List { p // IsClub m p }) : (allMem (sets ys)).length ≤ 6 * ys.length := clubs_len hm ys
end Go.Proofs.YtjclfpcnfmpjdaaDoor

/- It is proved what named and its closure return; conditions: those of each statement. -/
namespace Go.Proofs.YtjclfpcnfmpjdaaDoor
open Go.RowKit Go.Shelf

attribute [local go_sem] Oper.semAt_some

/-- Members called by names, as a set. -/
def nm (ps : List Int) (us : List Nat) : Nat := us.foldl (fun t v => t ||| 2 ^ (ps[v]?.getD 0).toNat) 0

theorem nm_snoc (ps : List Int) (us : List Nat) (u : Nat) : nm ps (us ++ [u]) = nm ps us ||| 2 ^ (ps[u]?.getD 0).toNat := by simp [nm]
theorem nm_lt (ps : List Int) (us : List Nat) (h : ∀ v ∈ us, (ps[v]?.getD 0).toNat < 6) : nm ps us < 64 := by
  have : ∀ t, t < 64 → us.foldl (fun t v => t ||| 2 ^ (ps[v]?.getD 0).toNat) t < 64 := by
    induction us with
    | nil => intro t ht; exact ht
    | cons x us ih =>
      intro t ht
      rw [List.foldl_cons]
      exact ih (fun y hy => h y (by simp [hy])) _ (Nat.or_lt_two_pow (n := 6) ht (Nat.pow_lt_pow_right (by decide) (h x (by simp))))
  exact this 0 (by decide)

/-- A set called by names. -/
def called (ps : List Int) (s : Nat) : Nat := nm ps (mem s)

/-- Names that may be called: one for each member, below six. -/
structure Okp (m : Nat) (ps : List Int) : Prop where
  len : ps.length = m
  rng : ∀ v, v < m → 0 ≤ ps[v]?.getD 0 ∧ ps[v]?.getD 0 < 6

set_option maxRecDepth 100000 in
set_option maxHeartbeats 4000000 in
theorem named_any (m s : Nat) (hm : m ≤ 6) (hs : s < 2 ^ m) (a : Option Addr) (c : Nat) (ps : List Int) (hp : Okp m ps) (w : World) (ha : Ints w w.heap.size a ps) (hT : Tab w) :
    Calls Tryd.prog 64 #[.int .i64 (s : Int), .slice a ps.length c] w fun e w' => e = .returned (.int .i64 ((called ps s : Nat) : Int)) ∧ Below w.heap.size w w' := by
  have HA := Lib.hid ha
  have HT := Lib.hid hT
  have HP := Lib.hid hp
  obtain ⟨n, hn⟩ : ∃ n, n = ps.length := ⟨_, rfl⟩
  have hnm : n = m := by rw [hn]; exact hp.len
  have HN := Lib.hid hn
  rw [← hn]
  clear ha hT hn hp
  refine (callsIn_wide (n := 6)).1 ?_
  refine callsIn_of_wp_marks Tryd.func64 rfl trivial ?_ rfl
  simp only [Tryd.ntmps64, List.size_toArray, List.length_cons, List.length_nil, Nat.reduceAdd, Nat.reduceSub, Array.replicate_succ, Array.replicate_zero, List.push_toArray, List.append_toArray, List.nil_append, List.cons_append]
  gi_wp2_with (refine ⟨trivial, ?_⟩; gi_at_call 53; refine (callsIn_wide.2 (members_any _ _)).mono ?_; rintro e w' ⟨rfl, rfl⟩)
  have h16 : 1 ≤ 6 := by omega
  have hmx : Tryd.prog.follows .mixedOrders = true := by kernel_rfl
  have hb3 := below3 w (.cells #[.slice a m c] 23) (.cells #[.int .i64 0] 64) (.cells #[.int .i64 (s : Int)] 64)
  have q0 : HasBlk (((w.alloc (.cells #[.slice a m c] 23)).alloc (.cells #[.int .i64 0] 64)).alloc (.cells #[.int .i64 (s : Int)] 64)) w.heap.size #[.slice a m c] 23 := alloc3_0 w _ _ _
  have q1 : Boxed (((w.alloc (.cells #[.slice a m c] 23)).alloc (.cells #[.int .i64 0] 64)).alloc (.cells #[.int .i64 (s : Int)] 64)) (w.heap.size + 1) 64 (.int .i64 ((nm ps (vals ([] : List (Mem m))) : Nat) : Int)) := alloc3_1 w _ _ _
  have hst := members_stops (6 - 1) (by omega) (w.heap.size + 1 + 1) (w.heap.size + 1) m s hm hs (((w.alloc (.cells #[.slice a m c] 23)).alloc (.cells #[.int .i64 0] 64)).alloc (.cells #[.int .i64 (s : Int)] 64)) (by simp) (by simp) (by have := HT.out.lt; omega)
    ((blk_cell (alloc3_2 w _ _ _) 0).trans (cell1_0 _)) (HT.out.below hb3 HT.out.lt)
  have HBB := Lib.hid hb3
  obtain ⟨Wo, hWo⟩ : ∃ Wo, ((w.alloc (.cells #[.slice a m c] 23)).alloc (.cells #[.int .i64 0] 64)).alloc (.cells #[.int .i64 (s : Int)] 64) = Wo := ⟨_, rfl⟩
  have hso : Wo.heap.size = w.heap.size + 3 := by rw [← hWo]; simp
  rw [hWo] at hst q0 q1 HBB ⊢
  have HSO := Lib.hid hso
  have Q0 := Lib.hid q0
  clear hWo hb3 hso q0
  refine wpIn_rangeFunc_ownG rfl h16 (gf := 88) (lb := #[.pointer (some ⟨w.heap.size + 1 + 1, 0, none⟩)]) rfl trivial (enters_of Tryd.func88 (by kernel_rfl) rfl)
    hst belowK_t (belowK_b (by have := HSO.out; omega)) (Below.refl _ _) (fun _ => rfl)
    (fun us W => Boxed W (w.heap.size + 1) 64 (.int .i64 ((nm ps (vals us) : Nat) : Int)) ∧ Below (w.heap.size + 1) Wo W)
    (fun _ _ _ => False)
    (OwnFrom.and (Own.from (boxed_own _ _ (fun us : List (Mem m) => Value.int .i64 ((nm ps (vals us) : Nat) : Int))) _) (ownFrom_below (by have := HSO.out; omega) (by have := HSO.out; omega)))
    (fun _ _ _ _ _ hs _ _ => hs)
    ⟨q1, Below.refl _ _⟩
    (fun x => { tmps := #[.int .i64 (s : Int), .slice a m c, undef, .pointer (some ⟨w.heap.size, 0, none⟩), .int .i64 0, .pointer (some ⟨w.heap.size + 1, 0, none⟩), .int .i64 (x.1 : Int), .int .i64 (s : Int), .func (.func 88) #[] #[.pointer (some ⟨w.heap.size + 1 + 1, 0, none⟩)], .int .i64 (x.1 : Int), undef, undef, undef, undef, undef, undef, undef], defers := [] }) ?assign ?body ?done ?stop
  case assign =>
    intro l x W K hK
    gi_wp2
    exact hK
  case body =>
    rintro l us x W ⟨hv, hB⟩ hlt
    obtain ⟨u, hu⟩ := x
    have q0 := (hB.block w.heap.size (by omega)).trans Q0.out
    have c0 := (blk_cell q0 0).trans (cell1_0 _)
    have c1 := hv.cell
    have cf := hv.frozen
    have hru := HP.out.rng u hu
    obtain ⟨pu, hpu⟩ : ∃ pu : Nat, ps[u]?.getD 0 = (pu : Int) := ⟨(ps[u]?.getD 0).toNat, by omega⟩
    have hp6 : pu < 8 := by omega
    obtain ⟨b1, o1, rfl, hb1, hc1⟩ := HA.out.at_ (k := u) (by rw [← HN.out]; omega)
    rw [hpu] at hc1
    have v1 := (hB.cell (p := ⟨b1, o1 + u, none⟩) (show b1 < w.heap.size + 1 by omega)).trans ((HBB.out.cell (p := ⟨b1, o1 + u, none⟩) hb1).trans hc1)
    obtain ⟨d, hd⟩ : ∃ d, d = nm ps (vals us) := ⟨_, rfl⟩
    have hd8 : d < 256 := by
      have := nm_lt ps (vals us) (by
        intro v hv
        obtain ⟨y, _, rfl⟩ := List.mem_map.1 hv
        have := HP.out.rng y.1 y.2
        omega)
      omega
    rw [← hd] at c1
    have hu0 : (0 : Int) ≤ (u : Int) := by omega
    have hu1 : (u : Int) < (m : Int) := by omega
    have HV := Lib.hid hv
    have HB := Lib.hid hB
    have HD := Lib.hid hd
    have HPU := Lib.hid hpu
    clear hv hB q0 hc1 hd hpu hru
    gi_wp2
    refine wpIn_region_still_tail_o (Fence.Open.wide.inRound l) 6 hmx (by kernel_rfl) (by kernel_rfl) ?_
    simp only [List.take_succ_cons, List.take_zero, List.drop_succ_cons, List.drop_zero]
    repeat still_step
    still_call ((with_any d pu hd8 hp6 _).mono fun _ _ h => ⟨h.1, h.2.symm⟩)
    repeat still_step
    refine wpStill_nil ?_
    change wpListIn _ _ _ _ _ _ _ W.drew
    gi_wp2
    refine ⟨((KeepsOthers.setCell _ _ _).trans (KeepsOthers.drew _)).from _, ((Below.refl _ W).setCell (p := ⟨w.heap.size + 1, 0, none⟩) (Nat.le_refl _) _).drew, ?_, (HB.out.setCell (p := ⟨w.heap.size + 1, 0, none⟩) (Nat.le_refl _) _).drew⟩
    rw [vals_snoc, nm_snoc, HPU.out, Int.toNat_natCast, ← HD.out]
    exact HV.out.set _
  case done =>
    rintro D us W hD hus ⟨hv, hB⟩ hK
    have hu2 : vals us = mem s := hus
    rw [hu2] at hv
    have c1 := hv.cell
    have HBW := Lib.hid hB
    clear hv hB
    gi_wp2
    refine ⟨by simp, .inl ⟨_, _, rfl, run_takeDeferred hK, ?_⟩⟩
    exact ⟨_, results_tmp rfl _ _ _, rfl, (HBB.out.trans (HBW.out.mono (by omega))).trans (belowK_b (w := w) (Nat.le_refl _) W D _ _ (by have := HSO.out; omega) hK rfl rfl)⟩
  case stop =>
    rintro D c pre W _ _ h _
    exact h.elim

set_option maxRecDepth 100000 in
set_option maxHeartbeats 1000000 in
/-- The closure of FamilyNamed: it reads the names out of their variable. -/
theorem namedFn_any (m s : Nat) (hm : m ≤ 6) (hs : s < 2 ^ m) (a : Option Addr) (c : Nat) (ps : List Int) (hp : Okp m ps) (X : Nat) (W : World) (hX : W.cell? ⟨X, 0, none⟩ = some (.slice a ps.length c)) (ha : Ints W W.heap.size a ps) (hT : Tab W) :
    Calls Tryd.prog 63 #[.int .i64 (s : Int), .pointer (some ⟨X, 0, none⟩)] W fun e W' => e = .returned (.int .i64 ((called ps s : Nat) : Int)) ∧ Below W.heap.size W W' := by
  have HA := Lib.hid ha
  have HT := Lib.hid hT
  clear ha hT
  go_enter Tryd.func63, Tryd.ntmps63
  go_wp2_with fail
  refine (named_any m s hm hs a c ps hp _ HA.out HT.out).mono ?_
  rintro e W' ⟨rfl, hb⟩
  have HB := Lib.hid hb
  clear hb
  go_wp2
  go_ret
  exact ⟨rfl, HB.out⟩

end Go.Proofs.YtjclfpcnfmpjdaaDoor

/- It is proved what the method and of a naming returns; conditions: those of each statement. -/
namespace Go.Proofs.YtjclfpcnfmpjdaaDoor
open Go.RowKit Go.Shelf

/-- Numbers as cells. -/
def iv (xs : List Int) : Array Value := (xs.map (Value.int .i64)).toArray

theorem iv_size (xs : List Int) : (iv xs).size = xs.length := by simp [iv]
theorem iv_at (xs : List Int) (i : Nat) (h : i < xs.length) : (iv xs)[i]? = some (.int .i64 (xs[i]?.getD 0)) := by simp [iv, h]
/-- Block b holds just these numbers. -/
def Nums (W : World) (b : Nat) (t : TypeId) (xs : List Int) : Prop := HasBlk W b (iv xs) t

theorem Nums.cell {W : World} {b : Nat} {t : TypeId} {xs : List Int} (h : Nums W b t xs) (i : Nat) (hi : i < xs.length) : W.cell? ⟨b, i, none⟩ = some (.int .i64 (xs[i]?.getD 0)) := (blk_cell h i).trans (iv_at xs i hi)
theorem Nums.frozen {W : World} {b : Nat} {t : TypeId} {xs : List Int} (h : Nums W b t xs) (i : Nat) : W.frozen? ⟨b, i, none⟩ = false := blk_frozen h i
theorem Nums.lt {W : World} {b : Nat} {t : TypeId} {xs : List Int} (h : Nums W b t xs) : b < W.heap.size := lt_of_some h
theorem Nums.alloc {W : World} {b : Nat} {t : TypeId} {xs : List Int} (h : Nums W b t xs) (o : Obj) : Nums (W.alloc o) b t xs := HasBlk.alloc h o
theorem Nums.kept {W W' : World} {b : Nat} {t : TypeId} {xs : List Int} {row : Option Nat} (h : Nums W b t xs) (hg : W.grownBy W' row) (hr : row ≠ some b) : Nums W' b t xs := HasBlk.kept h hg hr
theorem Nums.below {W W' : World} {b B : Nat} {t : TypeId} {xs : List Int} (h : Nums W b t xs) (hb : Below B W W') (hB : b < B) : Nums W' b t xs := (hb.block b hB).trans h
theorem Nums.far {W : World} {b : Nat} {t : TypeId} {xs : List Int} (h : Nums W b t xs) {p : Addr} (hp : b ≠ p.block) (u : Value) : Nums (W.setCell p u) b t xs := HasBlk.far h hp u
theorem Nums.set {W : World} {b : Nat} {t : TypeId} {xs : List Int} (h : Nums W b t xs) (i : Nat) (x : Int) : Nums (W.setCell ⟨b, i, none⟩ (.int .i64 x)) b t (xs.set i x) := by
  have := heap_setCell_same W b i (iv xs) t (.int .i64 x) h
  unfold Nums HasBlk
  rw [this]
  simp [iv, List.map_set]

theorem Nums.row {W : World} {b : Nat} {t : TypeId} {xs : List Int} (h : Nums W b t xs) (ys : List Int) : Nums (W.setRow b ((ys.map (Value.int .i64)).toArray)) b t ys := setRow_heap W b (iv xs) _ t _ h
def orI (x q : Int) : Int := ((x.toNat ||| 2 ^ q.toNat : Nat) : Int)
/-- A naming's cells: the first names, how many, what each member is called: behind one list of names more. -/
def andF (xs ps : List Int) : List Int := if xs[6]?.getD 0 = 0 then ps ++ xs.drop ps.length else xs

def andM (xs ps : List Int) : List Int := (andF xs ps).set 6 (xs[6]?.getD 0 + 1)
def andC (g ps : List Int) : Nat → List Int
  | 0 => g
  | k + 1 => (andC g ps k).set (7 + k) (orI ((andC g ps k)[7 + k]?.getD 0) (ps[k]?.getD 0))

def andL (xs ps : List Int) : List Int := andC (andM xs ps) ps ps.length
theorem andF_len {xs ps : List Int} (h : ps.length ≤ xs.length) : (andF xs ps).length = xs.length := by
  unfold andF; split
  · simp; omega
  · rfl

theorem andM_len {xs ps : List Int} (h : ps.length ≤ xs.length) : (andM xs ps).length = xs.length := by rw [andM, List.length_set, andF_len h]
theorem andC_len (g ps : List Int) : ∀ k, (andC g ps k).length = g.length
  | 0 => rfl
  | k + 1 => by rw [andC, List.length_set, andC_len g ps k]

/-- Places that no round writes. -/
theorem andC_far (g ps : List Int) (i : Nat) : ∀ k, (i < 7 ∨ 7 + k ≤ i) → (andC g ps k)[i]? = g[i]?
  | 0, _ => rfl
  | k + 1, h => by rw [andC, List.getElem?_set_ne (by omega), andC_far g ps i k (by omega)]

theorem andM_far {xs ps : List Int} (h : ps.length ≤ 6) (i : Nat) (hi : 7 ≤ i) : (andM xs ps)[i]? = xs[i]? := by
  rw [andM, List.getElem?_set_ne (by omega)]
  unfold andF; split
  · rw [List.getElem?_append_right (by omega), List.getElem?_drop]; congr 1; omega
  · rfl

theorem andC_here {xs ps : List Int} (h : ps.length ≤ 6) (k : Nat) : (andC (andM xs ps) ps k)[7 + k]?.getD 0 = xs[7 + k]?.getD 0 := by
  rw [andC_far _ _ _ k (by omega), andM_far h _ (by omega)]

theorem iv13 {xs : List Int} (h : xs.length = 13) : #[Value.int .i64 (xs[0]?.getD 0), .int .i64 (xs[1]?.getD 0), .int .i64 (xs[2]?.getD 0), .int .i64 (xs[3]?.getD 0), .int .i64 (xs[4]?.getD 0), .int .i64 (xs[5]?.getD 0), .int .i64 (xs[6]?.getD 0), .int .i64 (xs[7]?.getD 0), .int .i64 (xs[8]?.getD 0), .int .i64 (xs[9]?.getD 0), .int .i64 (xs[10]?.getD 0), .int .i64 (xs[11]?.getD 0), .int .i64 (xs[12]?.getD 0)] = iv xs := by
  obtain ⟨x0, x1, x2, x3, x4, x5, x6, x7, x8, x9, x10, x11, x12, rfl⟩ : ∃ x0 x1 x2 x3 x4 x5 x6 x7 x8 x9 x10 x11 x12 : Int, xs = [x0, x1, x2, x3, x4, x5, x6, x7, x8, x9, x10, x11, x12] := by
    match xs, h with
    | [x0, x1, x2, x3, x4, x5, x6, x7, x8, x9, x10, x11, x12], _ => exact ⟨_, _, _, _, _, _, _, _, _, _, _, _, _, rfl⟩
  rfl

theorem iv8 {xs : List Int} (h : xs.length = 8) : #[Value.int .i64 (xs[0]?.getD 0), .int .i64 (xs[1]?.getD 0), .int .i64 (xs[2]?.getD 0), .int .i64 (xs[3]?.getD 0), .int .i64 (xs[4]?.getD 0), .int .i64 (xs[5]?.getD 0), .int .i64 (xs[6]?.getD 0), .int .i64 (xs[7]?.getD 0)] = iv xs := by
  obtain ⟨x0, x1, x2, x3, x4, x5, x6, x7, rfl⟩ : ∃ x0 x1 x2 x3 x4 x5 x6 x7 : Int, xs = [x0, x1, x2, x3, x4, x5, x6, x7] := by
    match xs, h with
    | [x0, x1, x2, x3, x4, x5, x6, x7], _ => exact ⟨_, _, _, _, _, _, _, _, rfl⟩
  rfl

theorem iv_inj {xs ys : List Int} (h : iv xs = iv ys) : xs = ys := by
  have h2 : xs.map (Value.int .i64) = ys.map (Value.int .i64) := by simpa [iv] using h
  exact (List.map_inj_right (fun a b e => by injection e)).1 h2

end Go.Proofs.YtjclfpcnfmpjdaaDoor

/- It is proved what wantedBy and atLeast return; conditions: those of each statement. -/
namespace Go.Proofs.YtjclfpcnfmpjdaaDoor
open Go.RowKit Go.Shelf

def z5 : Array Value := #[Value.int IntKind.i64 0, Value.int IntKind.i64 0, Value.int IntKind.i64 0, Value.int IntKind.i64 0, Value.int IntKind.i64 0]
end Go.Proofs.YtjclfpcnfmpjdaaDoor

/- It is proved what slices.Sort and slices.Compact do with a list of the call's own; conditions: those of each statement. -/
namespace Go.Proofs.YtjclfpcnfmpjdaaDoor
open Go.RowKit

/- The numbers that the library's functions have in this program. -/
def sortLays_ren : Go.Shelf.Ren := ⟨fun | 189 => 103 | 125 => 110 | 257 => 109 | 128 => 122 | 129 => 123 | 294 => 113 | 295 => 114 | 296 => 115 | 297 => 116 | 298 => 117 | 299 => 118 | 216 => 119 | 300 => 120 | 301 => 121 | 328 => 124 | 329 => 125 | 330 => 126 | 331 => 127 | 332 => 128 | 215 => 112 | 343 => 129 | n => n, fun | 28 => 23 | 3 => 3 | 46 => 86 | 0 => 0 | 51 => 117 | 53 => 119 | 4 => 4 | 183 => 131 | 182 => 130 | 131 => 38 | 5 => 5 | 9 => 9 | 218 => 136 | 222 => 140 | 228 => 142 | 229 => 143 | n => n, fun | n => n⟩
theorem sortLays : Go.Proofs.Lays.n189 Tryd.prog sortLays_ren := {
  mixed := by kernel_rfl
  f125 := Tryd.func110.trans (congrArg some (by kernel_rfl))
  f128 := Tryd.func122.trans (congrArg some (by kernel_rfl))
  f129 := Tryd.func123.trans (congrArg some (by kernel_rfl))
  f189 := Tryd.func103.trans (congrArg some (by kernel_rfl))
  f215 := Tryd.func112.trans (congrArg some (by kernel_rfl))
  f216 := Tryd.func119.trans (congrArg some (by kernel_rfl))
  f257 := Tryd.func109.trans (congrArg some (by kernel_rfl))
  f294 := Tryd.func113.trans (congrArg some (by kernel_rfl))
  f295 := Tryd.func114.trans (congrArg some (by kernel_rfl))
  f296 := Tryd.func115.trans (congrArg some (by kernel_rfl))
  f297 := Tryd.func116.trans (congrArg some (by kernel_rfl))
  f298 := Tryd.func117.trans (congrArg some (by kernel_rfl))
  f299 := Tryd.func118.trans (congrArg some (by kernel_rfl))
  f300 := Tryd.func120.trans (congrArg some (by kernel_rfl))
  f301 := Tryd.func121.trans (congrArg some (by kernel_rfl))
  f328 := Tryd.func124.trans (congrArg some (by kernel_rfl))
  f329 := Tryd.func125.trans (congrArg some (by kernel_rfl))
  f330 := Tryd.func126.trans (congrArg some (by kernel_rfl))
  f331 := Tryd.func127.trans (congrArg some (by kernel_rfl))
  f332 := Tryd.func128.trans (congrArg some (by kernel_rfl))
  f343 := Tryd.func129.trans (congrArg some (by kernel_rfl))
  t0 := Tryd.underlying0
  a0 := Tryd.isAgg0
  z0 := Tryd.sizeOf0
  v0 := Tryd.zeroValue0
  t3 := Tryd.underlying3
  a3 := Tryd.isAgg3
  z3 := Tryd.sizeOf3
  v3 := Tryd.zeroValue3
  t4 := Tryd.underlying4
  a4 := Tryd.isAgg4
  z4 := Tryd.sizeOf4
  v4 := Tryd.zeroValue4
  t5 := Tryd.underlying5
  a5 := Tryd.isAgg5
  z5 := Tryd.sizeOf5
  v5 := Tryd.zeroValue5
  t9 := Tryd.underlying9
  a9 := Tryd.isAgg9
  z9 := Tryd.sizeOf9
  v9 := Tryd.zeroValue9
  t28 := Tryd.underlying23
  a28 := Tryd.isAgg23
  z28 := Tryd.sizeOf23
  v28 := Tryd.zeroValue23
  t46 := Tryd.underlying86
  a46 := Tryd.isAgg86
  z46 := Tryd.sizeOf86
  v46 := Tryd.zeroValue86
  t51 := Tryd.underlying117
  a51 := Tryd.isAgg117
  z51 := Tryd.sizeOf117
  v51 := Tryd.zeroValue117
  t53 := Tryd.underlying119
  a53 := Tryd.isAgg119
  z53 := Tryd.sizeOf119
  v53 := Tryd.zeroValue119
  t131 := Tryd.underlying38
  a131 := Tryd.isAgg38
  z131 := Tryd.sizeOf38
  v131 := Tryd.zeroValue38
  t182 := Tryd.underlying130
  a182 := Tryd.isAgg130
  z182 := Tryd.sizeOf130
  v182 := Tryd.zeroValue130
  t183 := Tryd.underlying131
  a183 := Tryd.isAgg131
  z183 := Tryd.sizeOf131
  v183 := Tryd.zeroValue131
  t218 := Tryd.underlying136
  a218 := Tryd.isAgg136
  z218 := Tryd.sizeOf136
  v218 := Tryd.zeroValue136
  t222 := Tryd.underlying140
  a222 := Tryd.isAgg140
  z222 := Tryd.sizeOf140
  v222 := Tryd.zeroValue140
  t228 := Tryd.underlying142
  a228 := Tryd.isAgg142
  z228 := Tryd.sizeOf142
  v228 := Tryd.zeroValue142
  t229 := Tryd.underlying143
  a229 := Tryd.isAgg143
  z229 := Tryd.sizeOf143
  v229 := Tryd.zeroValue143 }

theorem grown_below (w : World) (os : Array Obj) : Below w.heap.size w (Sort.grow w os) :=
  ⟨rfl, rfl, rfl, by simp, fun k hk => Sort.heap_grow_old w os hk⟩

theorem grownBy_put (w : World) (g q : Nat) (d : Array Int) : w.grownBy (Sort.putRow (Value.int .i64) (Sort.ahead w q) g 0 d) (some g) := by
  refine ⟨rfl, rfl, rfl, by simp [Sort.putRow, Sort.mapBlock, Sort.ahead], fun k hk hne => ?_⟩
  have : g ≠ k := fun e => hne (by rw [e])
  simp [Sort.putRow, Sort.mapBlock, Sort.ahead, Array.getElem?_modify, this]

end Go.Proofs.YtjclfpcnfmpjdaaDoor

/- It is proved that both sides look at names alike; conditions: those of each statement. -/
namespace Go.Proofs.YtjclfpcnfmpjdaaDoor
open Go.RowKit

/-- All names met, as a set. -/
def orP (ps : List Int) : Nat := ps.foldl (fun t p => t ||| 2 ^ p.toNat) 0

theorem orP_snoc (ps : List Int) (p : Int) : orP (ps ++ [p]) = orP ps ||| 2 ^ p.toNat := by simp [orP]
theorem orP_lt (m : Nat) (ps : List Int) (h : ∀ p ∈ ps, p.toNat < m) : orP ps < 2 ^ m := by
  have : ∀ t, t < 2 ^ m → ps.foldl (fun t p => t ||| 2 ^ p.toNat) t < 2 ^ m := by
    induction ps with
    | nil => intro t ht; exact ht
    | cons x ps ih =>
      intro t ht
      rw [List.foldl_cons]
      exact ih (fun y hy => h y (by simp [hy])) _ (Nat.or_lt_two_pow ht (Nat.pow_lt_pow_right (by decide) (h x (by simp))))
  exact this 0 (Nat.two_pow_pos m)

/-- Names in range. -/
def inR (m : Nat) (ps : List Int) : Bool := ps.all fun p => inB p 0 ((m : Int) - 1)

theorem inR_at {m : Nat} {ps : List Int} (h : inR m ps = true) {k : Nat} (hk : k < ps.length) : 0 ≤ ps[k]?.getD 0 ∧ ps[k]?.getD 0 < (m : Int) := by
  have := inB_out (List.all_eq_true.1 h ps[k] (List.getElem_mem hk))
  have e : ps[k]?.getD 0 = ps[k] := by simp [hk]
  rw [e]; omega

theorem inR_no {m : Nat} {ps : List Int} {k : Nat} (hk : k < ps.length) (h : inB (ps[k]?.getD 0) 0 ((m : Int) - 1) = false) : inR m ps = false := by
  refine List.all_eq_false.2 ⟨ps[k], List.getElem_mem hk, ?_⟩
  have e : ps[k]?.getD 0 = ps[k] := by simp [hk]
  rw [e] at h
  simp [h]

theorem inR_yes {m : Nat} {ps : List Int} (h : ∀ k, k < ps.length → inB (ps[k]?.getD 0) 0 ((m : Int) - 1) = true) : inR m ps = true := by
  refine List.all_eq_true.2 fun p hp => ?_
  obtain ⟨k, hk, rfl⟩ := List.getElem_of_mem hp
  have := h k hk
  rwa [show ps[k]?.getD 0 = ps[k] from by simp [hk]] at this

/-- Each of m numbers once. -/
def namesB (m : Nat) (ps : List Int) : Bool := inR m ps && (decide (ps.length = m) && decide (orP ps = 2 ^ m - 1))

/-- How many members a set has. -/
def popS (s : Nat) : Nat := (mem s).length

set_option maxRecDepth 100000 in
theorem pop_or : ∀ s, s < 64 → ∀ v, v < 6 → popS (s ||| 2 ^ v) = popS s + (if s.testBit v then 0 else 1) := by decide +kernel

set_option maxRecDepth 100000 in
theorem pop_full : ∀ m, m ≤ 6 → ∀ s, s < 2 ^ m → (popS s = m ↔ s = 2 ^ m - 1) := by decide +kernel

theorem take_snoc (ps : List Int) (k : Nat) (h : k < ps.length) : ps.take (k + 1) = ps.take k ++ [ps[k]?.getD 0] := by
  rw [List.take_succ_eq_append_getElem h]; simp [h]

theorem orP64 {m : Nat} (hm : m ≤ 6) {ps : List Int} (h : inR m ps = true) (k : Nat) : orP (ps.take k) < 64 := by
  have h1 := orP_lt m (ps.take k) (fun p hp => by
    have := inB_out (List.all_eq_true.1 h p (List.mem_of_mem_take hp))
    omega)
  exact Nat.lt_of_lt_of_le h1 (Nat.pow_le_pow_right (by decide) hm : 2 ^ m ≤ 2 ^ 6)

theorem pop_take {m : Nat} (hm : m ≤ 6) {ps : List Int} (h : inR m ps = true) : ∀ k, k ≤ ps.length → popS (orP (ps.take k)) ≤ k := by
  intro k
  induction k with
  | zero => intro _; simp [orP]; decide
  | succ k ih =>
    intro hk
    have h1 := inR_at h (k := k) (by omega)
    rw [take_snoc ps k (by omega), orP_snoc, pop_or _ (orP64 hm h k) _ (by omega)]
    have := ih (by omega)
    split <;> omega

/-- A name met twice. -/
theorem names_twice {m : Nat} (hm : m ≤ 6) {ps : List Int} (h : inR m ps = true) (hl : ps.length = m) {k : Nat} (hk : k < m) (ht : (orP (ps.take k)).testBit (ps[k]?.getD 0).toNat = true) : namesB m ps = false := by
  have key : ∀ j, k < j → j ≤ m → popS (orP (ps.take j)) < j := by
    intro j
    induction j with
    | zero => intro h1; omega
    | succ j ih =>
      intro h1 h2
      have h3 := inR_at h (k := j) (by omega)
      rw [take_snoc ps j (by omega), orP_snoc, pop_or _ (orP64 hm h j) _ (by omega)]
      rcases Nat.lt_or_ge k j with h4 | h4
      · have := ih h4 (by omega)
        split <;> omega
      · obtain rfl : k = j := by omega
        rw [if_pos ht]
        have := pop_take hm h k (by omega)
        omega
  have h5 := key m hk (Nat.le_refl _)
  rw [← hl, List.take_length] at h5
  have h6 := orP_lt m ps (fun p hp => by
    have := inB_out (List.all_eq_true.1 h p hp)
    omega)
  have h7 : ¬ orP ps = 2 ^ m - 1 := fun e => by
    have := (pop_full m hm _ h6).2 e
    omega
  simp [namesB, h7]

/-- No name met twice. -/
theorem names_once {m : Nat} (hm : m ≤ 6) {ps : List Int} (h : inR m ps = true) (hl : ps.length = m) (ht : ∀ k, k < m → (orP (ps.take k)).testBit (ps[k]?.getD 0).toNat = false) : namesB m ps = true := by
  have key : ∀ j, j ≤ m → popS (orP (ps.take j)) = j := by
    intro j
    induction j with
    | zero => intro _; simp [orP]; decide
    | succ j ih =>
      intro h2
      have h3 := inR_at h (k := j) (by omega)
      rw [take_snoc ps j (by omega), orP_snoc, pop_or _ (orP64 hm h j) _ (by omega), ht j (by omega)]
      have := ih (by omega)
      simp [this]
  have h5 := key m (Nat.le_refl _)
  rw [← hl, List.take_length] at h5
  have h6 := orP_lt m ps (fun p hp => by
    have := inB_out (List.all_eq_true.1 h p hp)
    omega)
  have h7 := (pop_full m hm _ h6).1 (by omega)
  simp [namesB, h, hl, h7]

theorem namesB_ok {m : Nat} (hm : m ≤ 6) {ps : List Int} (h : namesB m ps = true) : Okp m ps := by
  simp only [namesB, Bool.and_eq_true, decide_eq_true_eq] at h
  refine ⟨h.2.1, fun v hv => ?_⟩
  have := inR_at h.1 (k := v) (by omega)
  omega

end Go.Proofs.YtjclfpcnfmpjdaaDoor

/- It is proved how lists of the call's own and boxed families read; conditions: the bounds in each statement. -/
namespace Go.Proofs.YtjclfpcnfmpjdaaDoor
open Go.RowKit

theorem own_ints {w : World} {B : Nat} {a : Option Addr} {n cap : Nat} {zs : List Int} (h : OwnI w B (.slice a n cap) zs) : Ints w w.heap.size a zs := by
  rcases h.2 with ⟨h2, hn⟩ | ⟨g, c, cur, e, hb, hg, r⟩
  · exact .inl (List.eq_nil_of_length_eq_zero hn)
  · injection e with e1 e2 e3
    subst e1
    refine .inr ⟨g, 0, rfl, (Array.getElem?_eq_some_iff.1 hg).1, fun j hj => ?_⟩
    have h' : w.ownsRow B 3 1 (.slice (some ⟨g, 0, none⟩) zs.length c) zs.length (zs.map (Value.int .i64)) := ⟨h.1, .inr ⟨g, c, cur, rfl, hb, hg, r⟩⟩
    have := h'.cellAt j (by omega)
    simpa [hj] using this

end Go.Proofs.YtjclfpcnfmpjdaaDoor

/- It is proved that the call of the law FnExactFamilyDegrees returns true, given what the two functions return; conditions: those of each statement. -/
namespace Go.Proofs.YtjclfpcnfmpjdaaDoor
open Go.RowKit

/-- What a function of a family that hands back a list and a bool returns. -/
def RetSB (w : World) (zs : List Int) (ok : Bool) (e : Ending) (w' : World) : Prop :=
  ∃ a cap, e = .returned (.tuple #[.slice a zs.length cap, .bool ok]) ∧ OwnI w' w.heap.size (.slice a zs.length cap) zs ∧ Below w.heap.size w w'

/-- A list of ints of the call's own, in a block of lo, .., hi - 1 (or nil). -/
structure XO (lo hi : Nat) (a : Option Addr) (n cap : Nat) (zs : List Int) (W : World) : Prop where
  own : OwnN W lo a n cap zs
  rng : ∀ g, (Value.slice a n cap).ownBlock = some g → lo ≤ g ∧ g < hi
  size : hi ≤ W.heap.size

theorem XO.ints {lo hi : Nat} {a : Option Addr} {n cap : Nat} {zs : List Int} {W : World} (h : XO lo hi a n cap zs W) : Ints W W.heap.size a zs := by
  have h1 := h.own
  have hl : zs.length = n := by have := h1.1; simpa using this
  subst hl
  exact own_ints (n := zs.length) (cap := cap) (B := lo) h1

theorem XO.kept {lo hi : Nat} {a : Option Addr} {n cap : Nat} {zs : List Int} {W W' : World} {row : Option Nat} (h : XO lo hi a n cap zs W) (hg : W.grownBy W' row) (hr : ∀ g, row = some g → g < lo ∨ hi ≤ g) : XO lo hi a n cap zs W' := by
  refine ⟨World.ownsRow.kept h.own hg ?_, h.rng, Nat.le_trans h.size hg.size⟩
  cases ho : (Value.slice a n cap).ownBlock with
  | none => exact .inl rfl
  | some g =>
    right
    intro e
    have h1 := h.rng g ho
    have h2 := hr g e.symm
    omega

theorem XO.step {lo hi : Nat} {a : Option Addr} {n cap : Nat} {zs : List Int} {W W' : World} (h : XO lo hi a n cap zs W) (hb : Below W.heap.size W W') : XO lo hi a n cap zs W' :=
  h.kept (only_of_below hb none) (fun g e => by cases e)

theorem XO.drew {lo hi : Nat} {a : Option Addr} {n cap : Nat} {zs : List Int} {W : World} (h : XO lo hi a n cap zs W) : XO lo hi a n cap zs W.drew := ⟨h.own, h.rng, h.size⟩
theorem XO.marked {lo hi : Nat} {a : Option Addr} {n cap : Nat} {zs : List Int} {W W' : World} (h : XO lo hi a n cap zs W) (ho : OwnI W' lo (.slice a n cap) (marks n)) (hg : W.grownBy W' (Value.slice a n cap).ownBlock) : XO lo hi a n cap (marks n) W' := by
  refine ⟨?_, h.rng, Nat.le_trans h.size hg.size⟩
  have := ho
  unfold OwnI at this
  rwa [marks_length] at this

theorem XO.start {w : World} {lo : Nat} {a : Option Addr} {cap : Nat} {zs : List Int} (ho : OwnI w lo (.slice a zs.length cap) zs) : XO lo w.heap.size a zs.length cap zs w :=
  ⟨ho, fun g e => World.ownsRow.lt ho g e, Nat.le_refl _⟩

theorem XO.ownI {lo hi : Nat} {a : Option Addr} {cap : Nat} {zs : List Int} {W : World} (h : XO lo hi a zs.length cap zs W) : OwnI W lo (.slice a zs.length cap) zs := h.own
theorem sameB_self (zs : List Int) : sameB zs zs = true := by simp [sameB]
end Go.Proofs.YtjclfpcnfmpjdaaDoor

/- It is proved what FamilyDegrees of the program returns; conditions: those of each statement. -/
namespace Go.Proofs.YtjclfpcnfmpjdaaDoor
open Go.RowKit Go.Shelf

attribute [local go_sem] Oper.semAt_some

def famDeg (m : Int) (zs : List Int) : List Int := if famIn m zs then degL m.toNat (allMem zs) else []
set_option maxRecDepth 100000 in
set_option maxHeartbeats 2000000 in
theorem implDegrees_no (m : Int) (a : Option Addr) (c : Nat) (zs : List Int) (w : World) (ha : Ints w w.heap.size a zs) (hx : zs.length ≤ 1048576) (hf : famIn m zs = false) :
    Calls Tryd.prog 14 #[.agg #[.int .i64 m, .slice a zs.length c]] w (RetSB w [] false) := by
  have HA := Lib.hid ((ha.below (below1 w (.cells #[.int .i64 m, .slice a zs.length c] 25))).mono (B' := (w.alloc (.cells #[.int .i64 m, .slice a zs.length c] 25)).heap.size) (by simp))
  have HF := Lib.hid hf
  clear hf ha
  go_enter Tryd.func14, Tryd.ntmps14
  go_wp2_with (go_at_call 46; refine (implFamilyIn_any _ _ _ zs _ HA.out hx).mono ?_; rintro e w1 ⟨rfl, hb⟩; rw [HF.out]; have HB := Lib.hid hb; clear hb)
  go_ret2
  exact ⟨none, 0, rfl, World.ownsRow_nil _ _ 3 1, (below1 _ _).trans (HB.out.mono (by simp))⟩

set_option maxRecDepth 100000 in
set_option maxHeartbeats 4000000 in
theorem implDegrees_yes (m : Nat) (a : Option Addr) (c : Nat) (zs : List Int) (w : World) (ha : Ints w w.heap.size a zs) (hT : Tab w) (hx : zs.length ≤ 1048576) (hf : famIn (m : Int) zs = true) :
    Calls Tryd.prog 14 #[.agg #[.int .i64 (m : Int), .slice a zs.length c]] w (RetSB w (degL m (allMem zs)) true) := by
  obtain ⟨i0, hi0, hz0, hz1, hz2⟩ := info_parts Tryd.info3
  have HA := Lib.hid ((ha.below (below1 w (.cells #[.int .i64 (m : Int), .slice a zs.length c] 25))).mono (B' := (w.alloc (.cells #[.int .i64 (m : Int), .slice a zs.length c] 25)).heap.size) (by simp))
  have HI := Lib.hid ha
  have HF := Lib.hid hf
  have HT := Lib.hid hT
  have hPc := isClub_all hf
  obtain ⟨hm1, hm6, hl8, -⟩ := famIn_out hf
  have hm6' : m ≤ 6 := by omega
  clear hf ha hT
  refine (callsIn_wide (n := 6)).1 ?_
  refine callsIn_of_wp_marks Tryd.func14 rfl trivial ?_ rfl
  simp only [Tryd.ntmps14, List.size_toArray, List.length_cons, List.length_nil, Nat.reduceAdd, Nat.reduceSub, Array.replicate_succ, Array.replicate_zero, List.push_toArray, List.append_toArray, List.nil_append, List.cons_append]
  gi_wp2_with fail
  refine ⟨trivial, (callsIn_wide.2 (implFamilyIn_any _ _ _ zs _ HA.out hx)).mono ?_⟩
  rintro e w1 ⟨rfl, hb⟩
  rw [HF.out]
  have q0 : w1.heap[w.heap.size]? = some (.cells #[.int .i64 (m : Int), .slice a zs.length c] 25 (0, 0)) := (hb.block _ (by simp)).trans (alloc_new w _)
  have x0 := blk_cell q0 0
  have x1 := blk_cell q0 1
  have xs : w.heap.size + 1 ≤ w1.heap.size := by have := hb.size; simpa using this
  have HB := Lib.hid ((below1 w _).trans (hb.mono (by simp)))
  have Q0 := Lib.hid q0
  simp only [cell2_0, cell2_1] at x0 x1
  clear hb q0
  gi_wp2_with (gi_at_make; refine mark_make ?_)
  refine unmark_make ?_
  refine wpListIn_make_fullD _ rfl _ _ 23 rfl w1.heap.size 3 i0 (.int .i64 0) 1 Tryd.underlying23 hi0 hz0 hz1 .i64 .i64 m rfl rfl (by rw [hz2]; omega) (by simp only [maxLen]; omega) (Nat.le_refl _) ?_
  intro w2 hown hg
  have y0 := ((hg.block w.heap.size (by omega) (by simp)).trans Q0.out : w2.heap[w.heap.size]? = _)
  have z0 := blk_cell (w := w2.alloc (.cells #[.slice (some ⟨w1.heap.size, 0, none⟩) m m] 23)) ((alloc_old _ _ _ (lt_of_some y0)).trans y0) 0
  have z1 := blk_cell (w := w2.alloc (.cells #[.slice (some ⟨w1.heap.size, 0, none⟩) m m] 23)) ((alloc_old _ _ _ (lt_of_some y0)).trans y0) 1
  have hGl : w1.heap.size < w2.heap.size := by have := (World.ownsRow.lt hown _ rfl).2; simpa using this
  have HO : Hid (w2.ownsRow w1.heap.size 3 1 (.slice (some ⟨w1.heap.size, 0, none⟩) m m) m ((degL m []).map (Value.int .i64))) := Lib.hid (by rw [degL_nil]; have := hown; rw [show (madeCells (Value.int .i64 0).cells (m * 1)).toList = (List.replicate m (0 : Int)).map (Value.int .i64) from by rw [show (Value.int .i64 0).cells = #[Value.int .i64 0] from rfl, toList_madeCells_one]; simp] at this; exact this)
  have HG := Lib.hid (HB.out.trans (((Below.refl _ _).grown hg (Nat.le_refl _) (by simp) : Below w1.heap.size w1 w2).mono (by omega)))
  simp only [cell2_0, cell2_1] at z0 z1
  clear hown hg y0 x0 x1
  gi_wp2_with (refine ⟨trivial, ?_⟩; gi_at_call 51; refine (callsIn_wide.2 (clubs_any _ _ _ _ _)).mono ?_; rintro e w' ⟨rfl, rfl⟩)
  have hle : w.heap.size ≤ w2.heap.size := by omega
  have h16 : 1 ≤ 6 := by omega
  have bD := Boxed.new w2 23 (.slice (some ⟨w1.heap.size, 0, none⟩) m m)
  have HBB : Hid (Below w.heap.size w ((w2.alloc (.cells #[.slice (some ⟨w1.heap.size, 0, none⟩) m m] 23)).alloc (.cells #[.int .i64 (m : Int), .slice a zs.length c] 25))) := Lib.hid (HG.out.trans ((below2 w2 _ _).mono (by omega)))
  have hst := clubsP_stops (IsClub m) (6 - 1) (by omega) (w2.heap.size + 1) w.heap.size a c zs hx hPc ((w2.alloc (.cells #[.slice (some ⟨w1.heap.size, 0, none⟩) m m] 23)).alloc (.cells #[.int .i64 (m : Int), .slice a zs.length c] 25)) (by simp) (by simp; omega)
    (by simp) (HI.out.below HBB.out)
  have h0 : RowBox w2.heap.size w1.heap.size w.heap.size m (degL m (allMem (sets ([] : List { p // IsClub m p })))) ((w2.alloc (.cells #[.slice (some ⟨w1.heap.size, 0, none⟩) m m] 23)).alloc (.cells #[.int .i64 (m : Int), .slice a zs.length c] 25)) :=
    ⟨_, bD.alloc _, by have := ownsRow_base HO.out (B := w.heap.size) (by omega); exact (this.alloc _).alloc _, rfl⟩
  obtain ⟨Wo, hWo⟩ : ∃ Wo, (w2.alloc (.cells #[.slice (some ⟨w1.heap.size, 0, none⟩) m m] 23)).alloc (.cells #[.int .i64 (m : Int), .slice a zs.length c] 25) = Wo := ⟨_, rfl⟩
  have hso : Wo.heap.size = w2.heap.size + 1 + 1 := by rw [← hWo]; simp
  rw [hWo] at hst HBB h0 ⊢
  have HSO := Lib.hid hso
  clear hWo bD hso
  refine wpIn_rangeFunc_ownH rfl h16 (gf := 86) (lb := #[.pointer (some ⟨w2.heap.size + 1, 0, none⟩)]) rfl trivial (enters_of Tryd.func86 (by kernel_rfl) rfl)
    hst belowK_t (belowK_b (by have := HSO.out; omega)) (Below.refl _ _) (fun _ => rfl)
    (fun pre W => RowBox w2.heap.size w1.heap.size w.heap.size m (degL m (allMem (sets pre))) W ∧ Below w.heap.size w W)
    (fun _ _ _ => False)
    (OwnFrom.and (Own.from (RowBox.own _ _ _ _ (fun pre => degL m (allMem (sets pre)))) _) (ownFrom_below (Nat.le_refl _) (by have := HSO.out; omega)))
    (fun _ _ _ _ _ hs _ _ => hs)
    ⟨h0, HBB.out⟩
    (fun x a' _ => a' = { tmps := #[.agg #[.int .i64 (m : Int), .slice a zs.length c], .pointer (some ⟨w.heap.size, 0, none⟩), .slice none 0 0, .bool false, .pointer (some ⟨w2.heap.size, 0, none⟩), undef, .int .i64 x.1.2, undef, .agg #[.int .i64 (m : Int), .slice a zs.length c], .bool true, .bool false, .pointer (some ⟨w.heap.size, 0, none⟩), .int .i64 (m : Int), .slice (some ⟨w1.heap.size, 0, none⟩) m m, .agg #[.int .i64 (m : Int), .slice a zs.length c], .func (.func 86) #[] #[.pointer (some ⟨w2.heap.size + 1, 0, none⟩)], .int .i64 (x.1.1 : Int), .int .i64 x.1.2, undef, undef, undef, undef, undef, undef, undef, undef, undef, undef], defers := [] })
    (fun _ _ _ _ _ _ hs _ _ => hs)
    ?assign ?body ?done ?stop
  case assign =>
    rintro l pre x W K hi hK
    gi_wp2
    exact hK _ _ (KeepsFrom.refl _ _) (Below.refl _ _) hi rfl
  case body =>
    rintro l pre x a' W hl ⟨r, hr⟩ ⟨hv, hB⟩ rfl hlt
    obtain ⟨s, hs⟩ : ∃ s : Nat, x.1.2 = (s : Int) := ⟨x.1.2.toNat, by have := x.2.2.1; omega⟩
    have hs2 : s < 2 ^ m := by have := x.2.2.2; rw [hs] at this; simpa using this
    rw [hs]
    have HV := Lib.hid hv
    have HBW := Lib.hid hB
    have hWs : w.heap.size ≤ W.heap.size := hB.size
    have h1' : 1 ≤ 6 - 1 - 1 := by omega
    clear hv hB
    gi_wp2_with (refine ⟨trivial, ?_⟩; gi_at_call 53; refine (callsIn_wide.2 (members_any _ _)).mono ?_; rintro e w' ⟨rfl, rfl⟩)
    have hDW : w2.heap.size < W.heap.size := HV.out.box.lt
    have hst2 := (members_stops (6 - 1 - 1 - 1) (by omega) W.heap.size w.heap.size m s hm6' hs2 (W.alloc (.cells #[.int .i64 (s : Int)] 64)) (by simp) (by simp; omega) HT.out.lt (by simp)
      (HT.out.below (HBW.out.alloc hWs _) HT.out.lt)).inRound l
    have hr' : (W.alloc (.cells #[.int .i64 (s : Int)] 64)).heap[l]? = some (.loop r) := (alloc_old W _ l (lt_of_some hr)).trans hr
    have h00 : RowBox w2.heap.size w1.heap.size w.heap.size m (degL m (allMem (sets pre) ++ vals ([] : List (Mem m)))) (W.alloc (.cells #[.int .i64 (s : Int)] 64)) := by
      rw [vals_nil, List.append_nil]; exact HV.out.alloc _
    have hbl : (allMem (sets pre)).length ≤ 48 := by have := sets_len hm6' pre; omega
    refine wpIn_rangeFunc_ownN (l₀ := l) (r₀ := r) rfl hr' h1' (gf := 88) (lb := #[.pointer (some ⟨W.heap.size, 0, none⟩)]) rfl trivial (enters_of Tryd.func88 (by kernel_rfl) rfl)
      hst2 belowK_t (belowK_b (by simp; omega)) (Below.refl _ _) (fun _ => rfl)
      (fun us W' => RowBox w2.heap.size w1.heap.size w.heap.size m (degL m (allMem (sets pre) ++ vals us)) W' ∧ (Below w.heap.size W W' ∧ KeepsFrom Wo.heap.size W W'))
      (fun _ _ _ => False)
      (OwnFrom.and (Own.from (RowBox.own _ _ _ _ (fun us => degL m (allMem (sets pre) ++ vals us))) _) (OwnFrom.and (ownFrom_below hWs (by simp; omega)) (ownFrom_keepsFrom (by simp))))
      (fun _ _ _ _ _ hs _ _ => hs)
      ⟨h00, (Below.refl _ W).alloc hWs _, (KeepsOthers.alloc _ _).from _⟩
      (fun y a'' _ => a'' = { tmps := #[.agg #[.int .i64 (m : Int), .slice a zs.length c], .pointer (some ⟨w.heap.size, 0, none⟩), .slice none 0 0, .bool false, .pointer (some ⟨w2.heap.size, 0, none⟩), undef, .int .i64 (s : Int), .int .i64 (y.1 : Int), .agg #[.int .i64 (m : Int), .slice a zs.length c], .bool true, .bool false, .pointer (some ⟨w.heap.size, 0, none⟩), .int .i64 (m : Int), .slice (some ⟨w1.heap.size, 0, none⟩) m m, .agg #[.int .i64 (m : Int), .slice a zs.length c], .func (.func 86) #[] #[.pointer (some ⟨w2.heap.size + 1, 0, none⟩)], .int .i64 (x.1.1 : Int), .int .i64 (s : Int), .int .i64 (s : Int), .func (.func 88) #[] #[.pointer (some ⟨W.heap.size, 0, none⟩)], .int .i64 (y.1 : Int), undef, undef, undef, undef, undef, undef, undef], defers := [] })
      (fun _ _ _ _ _ _ hs _ _ => hs)
      ?assign2 ?body2 ?done2 ?stop2
    case assign2 =>
      rintro l2 us y W' K hi hK
      gi_wp2
      exact hK _ _ (KeepsFrom.refl _ _) (Below.refl _ _) hi rfl
    case body2 =>
      rintro l2 us y a'' W' _ _ ⟨hv, hBW, hKF⟩ rfl hul
      obtain ⟨u, hu⟩ := y
      obtain ⟨d, hd⟩ : ∃ d, d = (allMem (sets pre) ++ vals us).count u := ⟨_, rfl⟩
      have hd60 : d ≤ 60 := by
        have h1 := List.count_le_length (a := u) (l := allMem (sets pre) ++ vals us)
        simp only [List.length_append, vals_length] at h1
        omega
      have hcD := hv.box.cell
      obtain ⟨hcs, hfz⟩ := hv.cell u hu
      rw [degL_at _ _ _ hu, ← hd] at hcs
      have HS := Lib.hid (hv.set (by omega) u ((d : Int) + 1))
      have HV2 := Lib.hid hv
      have HB2 := Lib.hid hBW
      have HK2 := Lib.hid hKF
      have HD := Lib.hid hd
      clear hv hBW hKF hd
      gi_wp2
      refine ⟨(KeepsOthers.setCell _ _ _).from _, (Below.refl _ W').setCell (p := ⟨w1.heap.size, u, none⟩) (by show w.heap.size ≤ w1.heap.size; omega) _, ?_, HB2.out.setCell (p := ⟨w1.heap.size, u, none⟩) (by show w.heap.size ≤ w1.heap.size; omega) _, HK2.out.trans ((KeepsOthers.setCell _ _ _).from _)⟩
      rw [vals_snoc, ← List.append_assoc, degL_snoc, ← HD.out]
      exact HS.out
    case done2 =>
      rintro us W' hus ⟨hv, hBW, hKF⟩
      gi_wp2
      refine ⟨hKF, hBW, ?_, HBW.out.trans hBW⟩
      rw [sets_snoc, allMem_snoc, hs, Int.toNat_natCast, ← hus]
      exact hv
    case stop2 =>
      rintro c us W' _ h
      exact h.elim
  case done =>
    rintro D ys W hD hys ⟨hv, hB⟩ hK
    rw [sets_all hys] at hv
    have hc := hv.box.cell
    have HR := Lib.hid hv.row
    have HBW := Lib.hid hB
    clear hv hB
    gi_wp2
    refine ⟨by simp, .inl ⟨_, _, rfl, run_takeDeferred hK, ?_⟩⟩
    refine ⟨_, results_tmp2 rfl _ _ _, some ⟨w1.heap.size, 0, none⟩, m, by rw [degL_length]; rfl, ?_, HBW.out.trans (belowK_b (w := w) (Nat.le_refl _) W D _ _ (by have := HSO.out; omega) hK rfl rfl)⟩
    unfold OwnI
    rw [degL_length]
    exact ownsRow_base (ownsRow_putObj HR.out _ hK rfl) (Nat.le_refl _)
  case stop =>
    rintro D c pre W _ _ h _
    exact h.elim

end Go.Proofs.YtjclfpcnfmpjdaaDoor

/- It is proved what FamilyDegrees of the model returns; conditions: those of each statement. -/
namespace Go.Proofs.YtjclfpcnfmpjdaaDoor
open Go.RowKit

set_option maxRecDepth 100000 in
theorem bit_fin : ∀ s : Fin 64, ∀ v : Fin 6, bits BinOp.and IntKind.i64 ((s.val : Int) / 2 ^ v.val) 1 = (((s.val >>> v.val) &&& 1 : Nat) : Int) := by decide +kernel

theorem bit_at (s v : Nat) (hs : s < 64) (hv : v < 6) : bits BinOp.and IntKind.i64 ((s : Int) / 2 ^ v) 1 = (((s >>> v) &&& 1 : Nat) : Int) := bit_fin ⟨s, hs⟩ ⟨v, hv⟩
theorem implDegrees_any (m : Int) (a : Option Addr) (c : Nat) (zs : List Int) (w : World) (ha : Ints w w.heap.size a zs) (hT : Tab w) (hx : zs.length ≤ 1048576) :
    Calls Tryd.prog 14 #[.agg #[.int .i64 m, .slice a zs.length c]] w (RetSB w (famDeg m zs) (famIn m zs)) := by
  cases hf : famIn m zs
  · rw [show famDeg m zs = [] from by simp [famDeg, hf]]
    exact implDegrees_no m a c zs w ha hx hf
  · obtain ⟨hm1, hm6, -, -⟩ := famIn_out hf
    obtain ⟨k, rfl⟩ : ∃ k : Nat, m = (k : Int) := ⟨m.toNat, by omega⟩
    rw [show famDeg (k : Int) zs = degL k (allMem zs) from by simp [famDeg, hf]]
    exact implDegrees_yes k a c zs w ha hT hx hf

theorem famDeg_len (m : Int) (zs : List Int) : (famDeg m zs).length ≤ 1048576 := by
  unfold famDeg
  split
  · rename_i h
    have := (famIn_out h).2.1
    rw [degL_length]; omega
  · simp

end Go.Proofs.YtjclfpcnfmpjdaaDoor

/- It is proved what FamilyDual of the model returns; conditions: those of each statement. -/
namespace Go.Proofs.YtjclfpcnfmpjdaaDoor
open Go.RowKit

set_option maxRecDepth 100000 in
theorem or1_fin : ∀ x : Fin 256, ∀ e : Fin 2, ∀ p : Fin 8, bits BinOp.or IntKind.i64 (x.val : Int) ((e.val : Int) * 2 ^ p.val) = ((x.val ||| (e.val * 2 ^ p.val) : Nat) : Int) := by decide +kernel

theorem or1_at (x e p : Nat) (hx : x < 256) (he : e ≤ 1) (hp : p < 8) : bits BinOp.or IntKind.i64 (x : Int) ((e : Int) * 2 ^ p) = ((x ||| (e * 2 ^ p) : Nat) : Int) := or1_fin ⟨x, hx⟩ ⟨e, by omega⟩ ⟨p, hp⟩
theorem e2_small (e p : Nat) (he : e ≤ 1) (hp : p < 8) : (e : Int) * 2 ^ p ≤ 128 ∧ 0 ≤ (e : Int) * 2 ^ p := by
  obtain ⟨h1, h2⟩ := p2_small p hp
  obtain rfl | rfl : e = 0 ∨ e = 1 := by omega
  · simp
  · simp; omega

end Go.Proofs.YtjclfpcnfmpjdaaDoor

/- It is proved what has, namesIn, l1Names and l1Called return; conditions: those of each statement. -/
namespace Go.Proofs.YtjclfpcnfmpjdaaDoor
open Go.RowKit

set_option maxRecDepth 100000 in
theorem has_fin : ∀ x : Fin 64, ∀ p : Fin 6, (bits BinOp.and IntKind.i64 ((x.val : Int) / 2 ^ p.val) 1 == 1) = x.val.testBit p.val := by decide +kernel

theorem has_any (x p : Nat) (hx : x < 64) (hp : p < 6) (w : World) :
    Calls Tryd.prog 67 #[.int .i64 (x : Int), .int .i64 (p : Int)] w fun e w' => e = .returned (.bool (x.testBit p)) ∧ w = w' := by
  have HH := Lib.hid (has_fin ⟨x, hx⟩ ⟨p, hp⟩)
  simp only at HH
  go_enter Tryd.func67, Tryd.ntmps67
  go_wp2
  go_ret
  exact ⟨by rw [← HH.out]; rfl, rfl⟩

set_option maxRecDepth 100000 in
set_option maxHeartbeats 2000000 in
theorem namesIn_any (m : Nat) (hm : m ≤ 6) (a : Option Addr) (c : Nat) (ps : List Int) (w : World) (ha : Ints w w.heap.size a ps) (hx : ps.length ≤ 1048576) :
    Calls Tryd.prog 62 #[.int .i64 (m : Int), .slice a ps.length c] w fun e w' => e = .returned (.bool (namesB m ps)) ∧ w = w' := by
  obtain ⟨n, hn⟩ : ∃ n, n = ps.length := ⟨_, rfl⟩
  have HN := Lib.hid hn
  rw [← hn]
  rw [← hn] at hx
  by_cases hl : n = m
  · have HLM : Hid (ps.length = m) := Lib.hid (by omega)
    subst hl
    clear hn
    go_enter Tryd.func62, Tryd.ntmps62
    go_wp2
    go_loop [5, 14] (fun s i => ∃ k : Nat, k ≤ n ∧ i = .int .i64 (k : Int) ∧ s = .int .i64 ((orP (ps.take k) : Nat) : Int) ∧ (∀ j, j < k → inB (ps[j]?.getD 0) 0 ((n : Int) - 1) = true) ∧ (∀ j, j < k → (orP (ps.take j)).testBit (ps[j]?.getD 0).toNat = false)) (fun _ i => n - (intOf i).toNat)
    case atStart => exact ⟨0, Nat.zero_le _, rfl, rfl, fun j hj => by omega, fun j hj => by omega⟩
    case round =>
      obtain ⟨k, hk, rfl, rfl, hr, ht⟩ := hrel
      by_cases hlt : k < n
      · obtain ⟨b1, o1, rfl, hb1, hc1⟩ := ha.at_ (k := k) (by rw [← HN.out]; exact hlt)
        obtain ⟨p, hp⟩ : ∃ p, p = ps[k]?.getD 0 := ⟨_, rfl⟩
        rw [← hp] at hc1
        have HP := Lib.hid hp
        have HR := Lib.hid hr
        have HT := Lib.hid ht
        have hk0 : (0 : Int) ≤ (k : Int) := by omega
        have hk1 : (k : Int) < (n : Int) := by omega
        clear hr ht hp
        by_cases hp0 : p < 0
        · have HF : Hid (namesB n ps = false) := Lib.hid (by
            have := inR_no (m := n) (ps := ps) (k := k) (by rw [← HN.out]; exact hlt) (by rw [← HP.out]; exact inB_false (.inl hp0))
            simp [namesB, this])
          go_wp2
          go_ret
          exact ⟨by rw [HF.out]; rfl, rfl⟩
        · by_cases hpm : (n : Int) ≤ p
          · have HF : Hid (namesB n ps = false) := Lib.hid (by
              have := inR_no (m := n) (ps := ps) (k := k) (by rw [← HN.out]; exact hlt) (by rw [← HP.out]; exact inB_false (.inr (by omega)))
              simp [namesB, this])
            go_wp2
            go_ret
            exact ⟨by rw [HF.out]; rfl, rfl⟩
          · obtain ⟨q, rfl⟩ : ∃ q : Nat, p = (q : Int) := ⟨p.toNat, by omega⟩
            obtain ⟨d, hd⟩ : ∃ d, d = orP (ps.take k) := ⟨_, rfl⟩
            have hd64 : d < 64 := by
              rw [hd]
              have h1 := orP_lt n (ps.take k) (fun z hz => by
                obtain ⟨j, hj, rfl⟩ := List.getElem_of_mem hz
                simp only [List.length_take] at hj
                have h2 := inB_out (HR.out j (by omega))
                rw [List.getElem_take]
                rw [show ps[j]?.getD 0 = ps[j]'(by omega) from by rw [List.getElem?_eq_getElem (by omega)]; rfl] at h2
                omega)
              exact Nat.lt_of_lt_of_le h1 (Nat.pow_le_pow_right (by decide) hm : 2 ^ n ≤ 2 ^ 6)
            have hq6 : q < 6 := by omega
            have HD := Lib.hid hd
            rw [← hd]
            clear hd
            cases hb : d.testBit q
            · have HB := Lib.hid hb
              clear hb
              go_wp2_with (first
                | (go_at_call 67; refine (has_any d q hd64 hq6 _).mono ?_; rintro e w' ⟨rfl, rfl⟩; rw [HB.out])
                | (go_at_call 90; refine (with_any d q (by omega) (by omega) _).mono ?_; rintro e w' ⟨rfl, rfl⟩))
              go_round
              case rel => exact ⟨k + 1, by omega, by go_num, by rw [take_snoc ps k (by rw [← HN.out]; exact hlt), orP_snoc, ← HP.out, ← HD.out]; rfl, fun j hj => by
                rcases Nat.lt_succ_iff_lt_or_eq.1 hj with h | rfl
                · exact HR.out j h
                · rw [← HP.out]; exact inB_true (by omega) (by omega), fun j hj => by
                rcases Nat.lt_succ_iff_lt_or_eq.1 hj with h | rfl
                · exact HT.out j h
                · rw [← HP.out, ← HD.out]; exact HB.out⟩
              case measure => simp [intOf]; omega
            · have HB := Lib.hid hb
              have HF : Hid (namesB n ps = false) := Lib.hid (by
                cases hin : inR n ps
                · simp [namesB, hin]
                · exact names_twice hm hin HLM.out hlt (by rw [← HP.out, ← HD.out]; exact HB.out))
              clear hb
              go_wp2_with (go_at_call 67; refine (has_any d q hd64 hq6 _).mono ?_; rintro e w' ⟨rfl, rfl⟩; rw [HB.out])
              go_ret
              exact ⟨by rw [HF.out]; rfl, rfl⟩
      · obtain rfl : k = n := by omega
        have HF : Hid (namesB k ps = true) := Lib.hid (names_once hm (inR_yes (fun j hj => hr j (by have := HLM.out; omega))) HLM.out ht)
        clear hr ht
        go_wp2
        go_ret
        exact ⟨by rw [HF.out]; rfl, rfl⟩
  · have HF : Hid (namesB m ps = false) := Lib.hid (by
      have : ¬ ps.length = m := by omega
      simp [namesB, this])
    have hlz : ((n : Int) != (m : Int)) = true := by rw [bne_iff_ne]; omega
    clear hn
    go_enter Tryd.func62, Tryd.ntmps62
    go_wp2
    go_ret
    exact ⟨by rw [HF.out]; rfl, rfl⟩

theorem seen_full (m d : Nat) : (((d : Nat) : Int) == 2 ^ m - 1) = decide (d = 2 ^ m - 1) := by
  have h : (1 : Nat) ≤ 2 ^ m := Nat.one_le_two_pow
  have h2 : ((2 : Int) ^ m) = ((2 ^ m : Nat) : Int) := by simp
  rw [h2]
  by_cases hd : d = 2 ^ m - 1
  · rw [decide_eq_true hd, beq_iff_eq]; omega
  · rw [decide_eq_false hd, beq_eq_false_iff_ne]; omega

set_option maxRecDepth 100000 in
set_option maxHeartbeats 2000000 in
theorem l1Names_any (m : Nat) (hm1 : 1 ≤ m) (hm : m ≤ 6) (a : Option Addr) (c : Nat) (ps : List Int) (w : World) (ha : Ints w w.heap.size a ps) (hx : ps.length ≤ 1048576) :
    Calls Tryd.prog 73 #[.slice a ps.length c, .int .i64 (m : Int)] w fun e w' => e = .returned (.bool (namesB m ps)) ∧ w = w' := by
  obtain ⟨n, hn⟩ : ∃ n, n = ps.length := ⟨_, rfl⟩
  have HN := Lib.hid hn
  rw [← hn]
  rw [← hn] at hx
  clear hn
  go_enter Tryd.func73, Tryd.ntmps73
  go_wp2
  go_loop [5, 6] (fun s i => ∃ k : Nat, k ≤ n ∧ i = .int .i64 (k : Int) ∧ s = .int .i64 ((orP (ps.take k) : Nat) : Int) ∧ (∀ j, j < k → inB (ps[j]?.getD 0) 0 ((m : Int) - 1) = true)) (fun _ i => n - (intOf i).toNat)
  case atStart => exact ⟨0, Nat.zero_le _, rfl, rfl, fun j hj => by omega⟩
  case round =>
    obtain ⟨k, hk, rfl, rfl, hr⟩ := hrel
    by_cases hlt : k < n
    · obtain ⟨b1, o1, rfl, hb1, hc1⟩ := ha.at_ (k := k) (by rw [← HN.out]; exact hlt)
      obtain ⟨p, hp⟩ : ∃ p, p = ps[k]?.getD 0 := ⟨_, rfl⟩
      rw [← hp] at hc1
      have HP := Lib.hid hp
      have HR := Lib.hid hr
      have hk0 : (0 : Int) ≤ (k : Int) := by omega
      have hk1 : (k : Int) < (n : Int) := by omega
      clear hr hp
      cases hb : inB p 0 ((m : Int) - 1)
      · have HB := Lib.hid hb
        have HF : Hid (namesB m ps = false) := Lib.hid (by
          have := inR_no (m := m) (ps := ps) (k := k) (by rw [← HN.out]; exact hlt) (by rw [← HP.out]; exact HB.out)
          simp [namesB, this])
        clear hb
        go_wp2_with (go_at_call 81; refine (l6In_any _ _ _ _).mono ?_; rintro e w' ⟨rfl, rfl⟩; rw [HB.out])
        go_ret
        exact ⟨by rw [HF.out]; rfl, rfl⟩
      · have HB := Lib.hid hb
        obtain ⟨hp0, hp1⟩ := inB_out hb
        obtain ⟨q, rfl⟩ : ∃ q : Nat, p = (q : Int) := ⟨p.toNat, by omega⟩
        obtain ⟨d, hd⟩ : ∃ d, d = orP (ps.take k) := ⟨_, rfl⟩
        have hd64 : d < 64 := by
          rw [hd]
          have h1 := orP_lt m (ps.take k) (fun z hz => by
            obtain ⟨j, hj, rfl⟩ := List.getElem_of_mem hz
            simp only [List.length_take] at hj
            have h2 := inB_out (HR.out j (by omega))
            rw [List.getElem_take]
            rw [show ps[j]?.getD 0 = ps[j]'(by omega) from by rw [List.getElem?_eq_getElem (by omega)]; rfl] at h2
            omega)
          exact Nat.lt_of_lt_of_le h1 (Nat.pow_le_pow_right (by decide) hm : 2 ^ m ≤ 2 ^ 6)
        have HO := Lib.hid (or_at d q (by omega) (by omega))
        obtain ⟨h1q, h2q⟩ := p2_small q (by omega)
        have HD := Lib.hid hd
        rw [← hd]
        clear hb hd
        go_wp2_with (go_at_call 81; refine (l6In_any _ _ _ _).mono ?_; rintro e w' ⟨rfl, rfl⟩; rw [HB.out])
        go_round
        case rel => exact ⟨k + 1, by omega, by go_num, by rw [HO.out, take_snoc ps k (by rw [← HN.out]; exact hlt), orP_snoc, ← HP.out, ← HD.out]; rfl, fun j hj => by
          rcases Nat.lt_succ_iff_lt_or_eq.1 hj with h | rfl
          · exact HR.out j h
          · rw [← HP.out]; exact HB.out⟩
        case measure => simp [intOf]; omega
    · obtain rfl : k = n := by omega
      have hin : inR m ps = true := inR_yes (fun j hj => hr j (by have := HN.out; omega))
      have hfull : orP (ps.take k) = orP ps := by rw [HN.out, List.take_length]
      obtain ⟨d, hd⟩ : ∃ d, d = orP (ps.take k) := ⟨_, rfl⟩
      have HS := Lib.hid (seen_full m d)
      rw [← hd]
      by_cases hl : k = m
      · have HF : Hid (namesB m ps = decide (d = 2 ^ m - 1)) := Lib.hid (by
          have : ps.length = m := by rw [← HN.out]; exact hl
          simp [namesB, hin, this, hd, hfull])
        obtain ⟨h1q, h2q⟩ := p2_small m (by omega)
        clear hr hin hfull hd
        subst hl
        go_wp2
        go_ret
        exact ⟨by rw [HF.out, ← HS.out]; rfl, rfl⟩
      · have HF : Hid (namesB m ps = false) := Lib.hid (by
          have : ¬ ps.length = m := by rw [← HN.out]; exact hl
          simp [namesB, this])
        have hlz : ((k : Int) == (m : Int)) = false := by rw [beq_eq_false_iff_ne]; omega
        clear hr hin hfull hd
        go_wp2
        go_ret
        exact ⟨by rw [HF.out]; rfl, rfl⟩

/-- What is called after v members. -/
def cal (ps : List Int) (s v : Nat) : Nat := (List.range v).foldl (fun t u => t ||| (((s >>> u) &&& 1) * 2 ^ (ps[u]?.getD 0).toNat)) 0

theorem cal_succ (ps : List Int) (s v : Nat) : cal ps s (v + 1) = cal ps s v ||| (((s >>> v) &&& 1) * 2 ^ (ps[v]?.getD 0).toNat) := by simp [cal, List.range_succ]
set_option maxRecDepth 100000 in
theorem mem_range : ∀ m, m ≤ 6 → ∀ s, s < 2 ^ m → mem s = (List.range m).filter fun i => s.testBit i := by decide +kernel

set_option maxRecDepth 100000 in
theorem bit_if : ∀ s, s < 64 → ∀ u, u < 6 → ((s >>> u) &&& 1) = if s.testBit u then 1 else 0 := by decide +kernel

theorem cal_called (m : Nat) (hm : m ≤ 6) (ps : List Int) (s : Nat) (hs : s < 2 ^ m) : cal ps s m = called ps s := by
  have hs64 : s < 64 := Nat.lt_of_lt_of_le hs (Nat.pow_le_pow_right (by decide) hm : 2 ^ m ≤ 2 ^ 6)
  have key : ∀ v, v ≤ m → cal ps s v = nm ps ((List.range v).filter fun i => s.testBit i) := by
    intro v
    induction v with
    | zero => intro _; rfl
    | succ v ih =>
      intro hv
      rw [cal_succ, ih (by omega), List.range_succ, List.filter_append, bit_if s hs64 v (by omega)]
      cases hb : s.testBit v
      · simp [hb]
      · simp only [List.filter_cons, hb, if_true, List.filter_nil, nm_snoc, Nat.one_mul]
  rw [key m (Nat.le_refl _), called, mem_range m hm s hs]

set_option maxRecDepth 100000 in
set_option maxHeartbeats 2000000 in
theorem l1Called_any (m s : Nat) (hm : m ≤ 6) (hs : s < 2 ^ m) (a : Option Addr) (c : Nat) (ps : List Int) (hp : Okp m ps) (w : World) (ha : Ints w w.heap.size a ps) :
    Calls Tryd.prog 93 #[.int .i64 (s : Int), .slice a ps.length c] w fun e w' => e = .returned (.int .i64 ((called ps s : Nat) : Int)) ∧ Below w.heap.size w w' := by
  have hs64 : s < 64 := Nat.lt_of_lt_of_le hs (Nat.pow_le_pow_right (by decide) hm : 2 ^ m ≤ 2 ^ 6)
  have HL := Lib.hid hp.len
  have HR := Lib.hid hp.rng
  have HI := Lib.hid ha
  rw [HL.out]
  clear ha hp
  go_enter Tryd.func93, Tryd.ntmps93
  go_wp2
  go_loopw [5, 6] (fun t i wr => ∃ v : Nat, v ≤ m ∧ i = .int .i64 (v : Int) ∧ t = .int .i64 ((cal ps s v : Nat) : Int) ∧ cal ps s v < 64 ∧ Below w.heap.size w wr) (fun _ i _ => m - (intOf i).toNat)
  case atStart => exact ⟨0, Nat.zero_le _, rfl, rfl, by simp [cal], Below.refl _ _⟩
  case round =>
    obtain ⟨v, hv, rfl, rfl, hc64, hB⟩ := hrel
    have HBW := Lib.hid hB
    by_cases hlt : v < m
    · obtain ⟨b1, o1, rfl, hb1, hc1⟩ := HI.out.at_ (k := v) (by rw [HL.out]; exact hlt)
      obtain ⟨hq0, hq1⟩ := HR.out v hlt
      obtain ⟨q, hq⟩ : ∃ q : Nat, ps[v]?.getD 0 = (q : Int) := ⟨(ps[v]?.getD 0).toNat, by omega⟩
      rw [hq] at hc1
      have c1 := (hB.cell (p := ⟨b1, o1 + v, none⟩) hb1).trans hc1
      obtain ⟨d, hd⟩ : ∃ d, d = cal ps s v := ⟨_, rfl⟩
      rw [← hd] at hc64 ⊢
      obtain ⟨e, he⟩ : ∃ e, e = (s >>> v) &&& 1 := ⟨_, rfl⟩
      have he1 : e ≤ 1 := by rw [he]; exact Nat.and_le_right
      have hq6 : q < 6 := by omega
      have HW1 : Hid (bits BinOp.and IntKind.i64 ((s : Int) / 2 ^ v) 1 = (e : Int)) := Lib.hid (by rw [bit_at s v hs64 (by omega), ← he])
      have HW2 : Hid (bits BinOp.or IntKind.i64 (d : Int) ((e : Int) * 2 ^ q) = ((d ||| (e * 2 ^ q) : Nat) : Int)) := Lib.hid (or1_at d e q (by omega) he1 (by omega))
      have HW3 : Hid (wrap64 ((e : Int) * 2 ^ q) = (e : Int) * 2 ^ q) := Lib.hid (by obtain ⟨h1, h2⟩ := e2_small e q he1 (by omega); unfold wrap64; omega)
      have HCS : Hid (cal ps s (v + 1) = d ||| (e * 2 ^ q)) := Lib.hid (by rw [cal_succ, ← hd, ← he, hq, Int.toNat_natCast])
      have hlt64 : d ||| (e * 2 ^ q) < 64 := by
        refine Nat.or_lt_two_pow (n := 6) hc64 ?_
        have h2 : 2 ^ q ≤ 2 ^ 5 := Nat.pow_le_pow_right (by decide) (by omega)
        have h3 : e * 2 ^ q ≤ 1 * 2 ^ 5 := Nat.mul_le_mul he1 h2
        have h4 : (1 * 2 ^ 5 : Nat) < 2 ^ 6 := by decide
        omega
      have HL64 := Lib.hid hlt64
      have hv0 : (0 : Int) ≤ (v : Int) := by omega
      have hv1 : (v : Int) < (m : Int) := by omega
      clear hB hc1 hq hd he hq0 hq1 hlt64
      go_wp2
      go_quiet (fail)
      simp only [HW1.out, HW3.out, HW2.out]
      go_wp2
      go_roundw
      case rel => exact ⟨v + 1, by omega, by go_num, by rw [HCS.out], by rw [HCS.out]; exact HL64.out, below_drewN HBW.out _⟩
      case measure => simp [intOf]; omega
    · obtain rfl : v = m := by omega
      rw [cal_called v hm ps s hs]
      clear hB
      go_wp2
      go_ret
      exact ⟨rfl, HBW.out⟩

end Go.Proofs.YtjclfpcnfmpjdaaDoor

/- It is proved what l1Named returns; conditions: those of each statement. -/
namespace Go.Proofs.YtjclfpcnfmpjdaaDoor
open Go.RowKit

theorem row_below {W W' : World} {B size n : Nat} {e : TypeId} {v : Value} {xs : List Value} (h : W.ownsRow B e size v n xs) (hb : Below W.heap.size W W') : W'.ownsRow B e size v n xs :=
  World.ownsRow.kept h (only_of_below hb none) (by cases v.ownBlock <;> simp)

/-- A club called by names. -/
def callZ (ps : List Int) (z : Int) : Int := ((called ps z.toNat : Nat) : Int)

set_option maxRecDepth 100000 in
set_option maxHeartbeats 2000000 in
theorem l1Named_any (m : Nat) (a b : Option Addr) (c d : Nat) (zs ps : List Int) (w : World) (ha : Ints w w.heap.size a zs) (hb : Ints w w.heap.size b ps) (hf : famIn (m : Int) zs = true) (hp : Okp m ps) :
    Calls Tryd.prog 74 #[.agg #[.int .i64 (m : Int), .slice a zs.length c], .slice b ps.length d] w (RetFam w m (zs.map (callZ ps))) := by
  obtain ⟨i0, hi0, hz0, hz1, hz2⟩ := info_parts Tryd.info3
  have hPc := isClub_all hf
  obtain ⟨hm1, hm6, hl8, -⟩ := famIn_out hf
  have hm6' : m ≤ 6 := by omega
  have HA := Lib.hid ha
  have HB := Lib.hid hb
  have HP := Lib.hid hp
  obtain ⟨n, hn⟩ : ∃ n, n = zs.length := ⟨_, rfl⟩
  have HN := Lib.hid hn
  obtain ⟨k0, hk0⟩ : ∃ k0, k0 = ps.length := ⟨_, rfl⟩
  have HK := Lib.hid hk0
  rw [← hn, ← hk0]
  have hl8' : n ≤ 8 := by omega
  have hPn : ∀ k, k < n → IsClub m (k, zs[k]?.getD 0) := fun k hk => hPc k (by omega)
  have hb3 := below3 w (.cells #[.int .i64 (m : Int), .slice a n c] 25) (.cells #[.int .i64 0, .slice none 0 0] 25) (.cells #[] 3)
  have HB3 := Lib.hid hb3
  have HQ0 : Hid (HasBlk (((w.alloc (.cells #[.int .i64 (m : Int), .slice a n c] 25)).alloc (.cells #[.int .i64 0, .slice none 0 0] 25)).alloc (.cells #[] 3)) w.heap.size #[.int .i64 (m : Int), .slice a n c] 25) := Lib.hid (alloc3_0 w _ _ _)
  have HQ1 : Hid (HasBlk (((w.alloc (.cells #[.int .i64 (m : Int), .slice a n c] 25)).alloc (.cells #[.int .i64 0, .slice none 0 0] 25)).alloc (.cells #[] 3)) (w.heap.size + 1) #[.int .i64 0, .slice none 0 0] 25) := Lib.hid (alloc3_1 w _ _ _)
  have HO0 : Hid (OwnN (((w.alloc (.cells #[.int .i64 (m : Int), .slice a n c] 25)).alloc (.cells #[.int .i64 0, .slice none 0 0] 25)).alloc (.cells #[] 3)) (w.heap.size + 2) (some ⟨w.heap.size + 1 + 1, 0, none⟩) 0 0 []) := Lib.hid (own_empty (alloc3_2 w _ _ _) (by omega))
  clear ha hb hf hp hn hk0 hl8 hPc hb3
  go_enter Tryd.func74, Tryd.ntmps74
  go_wp2
  go_loopw [5, 6] (fun v i wr => ∃ (k : Nat) (a' : Option Addr) (c' : Nat), k ≤ n ∧ i = .int .i64 (k : Int) ∧ v = .slice a' k c' ∧ OwnN wr (w.heap.size + 2) a' k c' ((zs.take k).map (callZ ps)) ∧ Below (w.heap.size + 2) (((w.alloc (.cells #[.int .i64 (m : Int), .slice a n c] 25)).alloc (.cells #[.int .i64 0, .slice none 0 0] 25)).alloc (.cells #[] 3)) wr) (fun _ i _ => n - (intOf i).toNat)
  case atStart => exact ⟨0, _, _, Nat.zero_le _, rfl, rfl, HO0.out, Below.refl _ _⟩
  case round =>
    obtain ⟨k, a', c', hk, rfl, rfl, ho, hB⟩ := hrel
    obtain ⟨wo, hwo⟩ : ∃ wo, wo = wr := ⟨wr, rfl⟩
    subst hwo
    have q0 := (hB.block w.heap.size (by omega)).trans HQ0.out
    have q1 := (hB.block (w.heap.size + 1) (by omega)).trans HQ1.out
    have x0 := (blk_cell q0 0).trans (cell2_0 _ _)
    have x1 := (blk_cell q0 1).trans (cell2_1 _ _)
    have Q1 := Lib.hid q1
    have HO := Lib.hid ho
    have HW := Lib.hid hB
    have hsz : w.heap.size + 3 ≤ wo.heap.size := by have := hB.size; simpa using this
    have hbw : Hid (Below w.heap.size w wo) := Lib.hid (HB3.out.trans (hB.mono (by omega)))
    clear ho hB q0 q1
    by_cases hlt : k < n
    · obtain ⟨s, hs⟩ : ∃ s : Nat, zs[k]?.getD 0 = (s : Int) := ⟨(zs[k]?.getD 0).toNat, by have := (hPn k hlt).2.1; simp only at this; omega⟩
      have hs2 : s < 2 ^ m := by have := (hPn k hlt).2.2; simp only [hs] at this; simpa using this
      obtain ⟨b1, o1, rfl, hb1, hc1⟩ := HA.out.at_ (k := k) (by have := HN.out; omega)
      rw [hs] at hc1
      have c1 := (hbw.out.cell (p := ⟨b1, o1 + k, none⟩) hb1).trans hc1
      have HS := Lib.hid hs
      have hk0' : (0 : Int) ≤ (k : Int) := by omega
      have hk1' : (k : Int) < (n : Int) := by omega
      clear hc1 hs
      go_wp2_with fail
      rw [HK.out]
      refine (l1Called_any m s hm6' hs2 b d ps HP.out wo ((HB.out.below hbw.out).mono (by omega))).mono ?_
      rintro e w3 ⟨rfl, hb3⟩
      have HO3 := Lib.hid (row_below HO.out hb3)
      have hs3 := hb3.size
      have HW3 := Lib.hid (HW.out.trans (hb3.mono (by omega)))
      clear hb3
      rw [← HK.out]
      go_wp2_with (at_builtin; refine wpList_append_own _ rfl _ _ 23 rfl (w.heap.size + 2) 3 i0 (.int .i64 0) 1 8 Tryd.underlying23 hi0 hz0 hz1 hz2 rfl (by decide) _ _ _ rfl (HO3.out.alloc _) ⟨w3.heap.size, 0, none⟩ 1 1 [.int .i64 _] rfl rfl (cell_one_new _ _ _) (by simp [Value.oneCell']) (by simp only [maxLen]; omega) (by omega) (by simp; omega) ?_; intro v' w9 hown hgrow _; obtain ⟨g', cap', rfl, _, _⟩ := World.ownsRow.form hown (by omega))
      go_roundw
      case rel => exact ⟨k + 1, _, _, by omega, by go_num, rfl, by rw [map_at _ zs k (by have := HN.out; omega), HS.out]; exact own_more hown, (HW3.out.alloc (by omega) _).grown hgrow (by simp; omega) (fun g e => (World.ownsRow.lt HO3.out g e).1)⟩
      case measure => simp [intOf]; omega
    · obtain rfl : k = n := by omega
      go_wp2_with fail
      refine (l1With_any _ _ _ _ _ _ _ _).mono ?_
      rintro e w5 ⟨rfl, hb5⟩
      have q1 := (hb5.block (w.heap.size + 1) (by omega)).trans Q1.out
      have d0 := (blk_cell q1 0).trans (cell2_0 _ _)
      have d1 := (blk_cell q1 1).trans (cell2_1 _ _)
      have f0 := blk_frozen q1 0
      have f1 := blk_frozen q1 1
      have HO5 := Lib.hid (row_below HO.out hb5)
      have hs5 := hb5.size
      have HW5 := Lib.hid (hbw.out.trans (hb5.mono (by omega)))
      clear hb5 q1
      go_wp2
      refine bodyPost_ret (v := .agg #[.int .i64 (m : Int), .slice a' k c']) (by simp [results, Tryd.results74, go_sem, d0, d1]) rfl ?_
      have hmt : (zs.take k).map (callZ ps) = zs.map (callZ ps) := by rw [HN.out, List.take_length]
      refine ⟨a', c', by rw [List.length_map, ← HN.out], ?_, ?_⟩
      · have h1 := HO5.out
        rw [hmt] at h1
        unfold OwnI
        rw [List.length_map, ← HN.out]
        exact ownsRow_base (ownsRow_setCell_below (ownsRow_setCell_below h1 (a := ⟨w.heap.size + 1, 0, none⟩) (show w.heap.size + 1 < w.heap.size + 2 by omega) _) (a := ⟨w.heap.size + 1, 1, none⟩) (show w.heap.size + 1 < w.heap.size + 2 by omega) _) (by omega)
      · exact (HW5.out.setCell (p := ⟨w.heap.size + 1, 0, none⟩) (by simp) _).setCell (p := ⟨w.heap.size + 1, 1, none⟩) (by simp) _

end Go.Proofs.YtjclfpcnfmpjdaaDoor

/- It is proved what slices.Sort does with the first places of an array, and how listed clubs are told; conditions: those of each statement. -/
namespace Go.Proofs.YtjclfpcnfmpjdaaDoor
open Go.RowKit Go.Shelf

def leZ : Int → Int → Bool := fun x y => decide (x ≤ y)
theorem nums_own {β : Type} (b : Nat) (t : TypeId) (f : β → List Int) : Own (fun (s : β) W => Nums W b t (f s)) := fun s W W' row h hg hrow =>
  HasBlk.kept h hg (fun e => by obtain ⟨o, ho, hc⟩ := hrow b e; rw [show W.heap[b]? = _ from h] at ho; cases ho; cases hc)

theorem putCells_iv (ys L : List Int) (n : Nat) (hy : ys.length = n) (hn : n ≤ L.length) : Sort.putCells (Value.int .i64) 0 ys.toArray (iv L) = iv (ys ++ L.drop n) := by
  apply Array.ext_getElem?
  intro j
  simp only [Sort.putCells, Array.getElem?_mapIdx, iv, List.getElem?_toArray, List.map_append, List.size_toArray, Nat.zero_le, true_and, Nat.zero_add, Nat.sub_zero]
  by_cases hj : j < n
  · rw [List.getElem?_append_left (by simp; omega), List.getElem?_map, List.getElem?_map, List.getElem?_eq_getElem (by omega : j < L.length), List.getElem?_eq_getElem (by omega : j < ys.length)]
    simp only [Option.map_some]
    rw [if_pos (by omega), getElem!_pos _ j (by simp; omega)]
    simp
  · rw [List.getElem?_append_right (by simp; omega), List.getElem?_map, List.getElem?_map, List.getElem?_drop, List.length_map, hy, show n + (j - n) = j from by omega]
    cases L[j]? with
    | none => rfl
    | some z => simp only [Option.map_some]; rw [if_neg (by omega)]

theorem sort_nums (g n cap t : Nat) (L : List Int) (w : World) (h : Nums w g t L) (hn : n ≤ L.length) (hc : n ≤ cap) (hl : L.length ≤ 1048576) :
    Calls Tryd.prog 103 #[.slice (some ⟨g, 0, none⟩) n cap] w fun e w' => e = .returned (.tuple #[]) ∧ Nums w' g t ((L.take n).mergeSort leZ ++ L.drop n) ∧ w.grownBy w' (some g) := by
  have htl : (L.take n).length = n := by rw [List.length_take]; omega
  have hH : Sort.Holds (Value.int .i64) w g 0 (L.take n).toArray := by
    intro j hj
    have hj' : j < n := by simpa [htl] using hj
    refine ⟨?_, h.frozen _⟩
    have h1 := h.cell j (by omega)
    rw [Nat.zero_add, h1]
    have : ((L.take n).toArray)[j]! = L[j]?.getD 0 := by
      rw [getElem!_pos _ j hj]
      simp [show j < L.length by omega]
    rw [this]
  have hc := Any.slices_Sort_int sortLays g 0 cap (L.take n) w hH h.lt (by rw [htl]; omega)
  rw [htl] at hc
  refine hc.mono ?_
  rintro e w' ⟨rfl, q, os, rfl⟩
  refine ⟨rfl, ?_, only_trans (grownBy_put w g q _) (only_of_below (grown_below _ os) _)⟩
  have h1 : Nums (Sort.putRow (Value.int .i64) (Sort.ahead w q) g 0 ((L.take n).mergeSort leZ).toArray) g t ((L.take n).mergeSort leZ ++ L.drop n) := by
    have hb := h
    unfold Nums HasBlk at hb ⊢
    have hlt := (Array.getElem?_eq_some_iff.1 hb).1
    simp only [Sort.putRow, Sort.mapBlock, Sort.ahead, Array.getElem?_modify, if_pos, hb, Option.map_some, Sort.onCells]
    rw [putCells_iv _ _ n (by rw [List.length_mergeSort, htl]) hn]
  exact h1.below (grown_below _ os) h1.lt

/-- The array of clubs as it is filled. -/
def madeL (ps : List Int) (pre : List (Nat × Int)) : List Int := pre.foldl (fun L p => L.set p.1 (callZ ps p.2)) (List.replicate 8 0)

theorem madeL_snoc (ps : List Int) (pre : List (Nat × Int)) (p : Nat × Int) : madeL ps (pre ++ [p]) = (madeL ps pre).set p.1 (callZ ps p.2) := by simp [madeL]
theorem madeL_len (ps : List Int) : ∀ pre : List (Nat × Int), (madeL ps pre).length = 8 := by
  intro pre
  unfold madeL
  suffices h : ∀ (pre : List (Nat × Int)) (L : List Int), (pre.foldl (fun L p => L.set p.1 (callZ ps p.2)) L).length = L.length by rw [h]; simp
  intro pre
  induction pre with
  | nil => intro L; rfl
  | cons p pre ih => intro L; rw [List.foldl_cons, ih, List.length_set]

theorem madeL_pairs (ps zs : List Int) (h8 : zs.length ≤ 8) : ∀ k, k ≤ zs.length → madeL ps (pairs zs k) = (zs.take k).map (callZ ps) ++ List.replicate (8 - k) 0
  | 0, _ => by simp [pairs, madeL]
  | k + 1, hk => by
    rw [pairs_succ' zs k (by omega), madeL_snoc, madeL_pairs ps zs h8 k (by omega)]
    have hl : ((zs.take k).map (callZ ps)).length = k := by rw [List.length_map, List.length_take]; omega
    rw [List.set_append_right _ _ (by simp only; omega), hl, Nat.sub_self, show 8 - k = (8 - (k + 1)) + 1 from by omega, List.replicate_succ, List.set_cons_zero, List.take_succ_eq_append_getElem (by omega), List.map_append, List.append_assoc]
    rfl

/-- The list that names make of a family's clubs, and behind it zeros. -/
def keyL (zs ps : List Int) : List Int := (zs.map (callZ ps)).mergeSort leZ ++ List.replicate (8 - zs.length) 0

theorem keyL_len (zs ps : List Int) (h : zs.length ≤ 8) : (keyL zs ps).length = 8 := by simp [keyL]; omega
theorem keyL_made (zs ps : List Int) (h8 : zs.length ≤ 8) : ((madeL ps (pairs zs zs.length)).take zs.length).mergeSort leZ ++ (madeL ps (pairs zs zs.length)).drop zs.length = keyL zs ps := by
  have hl : (zs.map (callZ ps)).length = zs.length := by simp
  rw [madeL_pairs ps zs h8 _ (Nat.le_refl _), List.take_length, List.take_append_of_le_length (by omega), List.take_of_length_le (by omega), List.drop_append_of_le_length (by omega), List.drop_of_length_le (by omega), List.nil_append, keyL]

end Go.Proofs.YtjclfpcnfmpjdaaDoor

/- It is proved what the iterator over a set's members yields, each member known to be one; conditions: those of each statement. -/
namespace Go.Proofs.YtjclfpcnfmpjdaaDoor
open Go.RowKit Go.Shelf

attribute [local go_sem] Oper.semAt_some

/-- A member of s. -/
abbrev MemS (s : Nat) := { v : Nat // v ∈ mem s }

def valsS {s : Nat} (ys : List (MemS s)) : List Nat := ys.map (·.1)
theorem valsS_snoc {s : Nat} (ys : List (MemS s)) (y : MemS s) : valsS (ys ++ [y]) = valsS ys ++ [y.1] := by simp [valsS]
set_option maxRecDepth 100000 in
set_option maxHeartbeats 2000000 in
theorem membersS1_in (n : Nat) (hn : 1 ≤ n) (l Bs n₀ s : Nat) (hs64 : s < 64) (J Jx : List (MemS s) → World → Prop)
    (hY : ∀ pre x W, J pre W → pre.length < 6 → YieldAt Fence.wide (n - 1) Tryd.prog l #[.int .i64 (x.1 : Int)] W fun e W' =>
      (e = .returned (.bool true) ∧ J (pre ++ [x]) W' ∧ Below n₀ W W') ∨ (e = .returned (.bool false) ∧ Jx (pre ++ [x]) W'))
    (W : World) (hBs : W.cell? ⟨Bs, 0, none⟩ = some (.int .i64 (s : Int))) (hT : Tab W) (hn0 : 1 < n₀) (h0 : J [] W) :
    CallsIn Fence.wide n Tryd.prog 88 #[.func (.yield l) #[] #[], .pointer (some ⟨Bs, 0, none⟩)] W fun e W' => (∃ v, e = .returned v) ∧
      ((∃ ys, valsS ys = mem s ∧ J ys W') ∨ (∃ pre, valsS pre <+: mem s ∧ Jx pre W')) := by
  have hss : (s : Int) < 64 := by omega
  refine callsIn_of_wp Tryd.func88 rfl trivial ?_ rfl
  simp only [Tryd.ntmps88, List.size_toArray, List.length_cons, List.length_nil, Nat.reduceAdd, Nat.reduceSub, Array.replicate_succ, Array.replicate_zero, List.push_toArray, List.append_toArray, List.nil_append, List.cons_append]
  gi_wp2
  gi_loopw [3] (fun r wr => ∃ (t : Nat) (pre : List (MemS s)), t < 64 ∧ valsS pre ++ mem t = mem s ∧ r = .int .u64 (t : Int) ∧ J pre wr ∧ Below n₀ W wr)
    (fun r _ => (intOf r).toNat)
  case atStart => exact ⟨s, [], hs64, by simp [valsS], rfl, h0, Below.refl _ _⟩
  case round =>
    obtain ⟨t, pre, ht, hpre, rfl, hJs, hnx⟩ := hrel
    by_cases h0 : t = 0
    · subst h0
      rw [mem_zero, List.append_nil] at hpre
      gi_wp2
      go_end0
      exact ⟨⟨_, rfl⟩, .inl ⟨pre, hpre, hJs⟩⟩
    · have hc := mem_cons t ht h0
      rw [hc] at hpre
      have hk : Lib.ctz 64 t ∈ mem s := by rw [← hpre]; simp
      have hlen : pre.length < 6 := by
        have h1 := mem_length s hs64
        rw [← hpre] at h1
        simp [valsS] at h1
        omega
      have HA := Lib.hid (low_and t h0 ht)
      have hT2 : Tab wr := hT.below hnx hn0
      have hpre' : valsS (pre ++ [(⟨Lib.ctz 64 t, hk⟩ : MemS s)]) ++ mem (t &&& (t - 1)) = mem s := (by rw [valsS_snoc, List.append_assoc]; exact hpre)
      have hlt : t &&& (t - 1) < t := by have := @Nat.and_le_right t (t - 1); omega
      obtain ⟨fn, tmps, assign, body, hy, hR⟩ := hY _ ⟨Lib.ctz 64 t, hk⟩ wr hJs hlen
      dsimp only at hy
      have ht0 : (0 : Int) < (t : Int) := by omega
      clear hc hpre
      gi_wp2
      refine ⟨trivial, (callsIn_wide.2 (tz_any t h0 ht _ hT2)).mono ?_⟩
      rintro e w' ⟨rfl, rfl⟩
      gi_wp2
      refine hR.mono ?_
      rintro e W3 (⟨rfl, hJ3, hk3⟩ | ⟨rfl, hJx3⟩)
      · gi_wp2
        go_roundw
        case rel => exact ⟨t &&& (t - 1), _, by omega, hpre', by rw [HA.out], hJ3, hnx.trans hk3⟩
        case measure => rw [HA.out]; simp only [intOf]; omega
      · gi_wp2
        refine bodyPost_ret (results_none rfl _ _ _) rfl ?_
        exact ⟨⟨_, rfl⟩, .inr ⟨_, ⟨mem (t &&& (t - 1)), hpre'⟩, hJx3⟩⟩

theorem membersS_stops (n : Nat) (hn : 1 ≤ n) (Bs n₀ s : Nat) (hs : s < 64) (w : World) (hBs : Bs < w.heap.size) (hn₀ : n₀ ≤ w.heap.size) (hn1 : 1 < n₀)
    (hc : w.cell? ⟨Bs, 0, none⟩ = some (.int .i64 (s : Int))) (hT : Tab w) :
    SeqStopsK Fence.wide n Tryd.prog 88 #[.pointer (some ⟨Bs, 0, none⟩)] (fun x : MemS s => #[Value.int .i64 (x.1 : Int)]) (Below n₀) (fun ys => valsS ys = mem s)
      (fun pre => valsS pre <+: mem s) 6 w := fun l J Jx W hW _ _ hY h0 =>
  membersS1_in n hn l Bs n₀ s hs J Jx hY W ((hW.cell (p := ⟨Bs, 0, none⟩) hBs).trans hc) (hT.below hW (by omega)) hn1 h0

theorem yield_any {m : Nat} (m' : Nat) {P : Program} {l : Nat} {args : Array Value} {W : World} {R : Ending → World → Prop} (h : YieldAt Fence.wide m P l args W R) : YieldAt Fence.wide m' P l args W R := by
  obtain ⟨fn, tmps, assign, body, hy, hR⟩ := h
  exact ⟨fn, tmps, assign, body, hy, hR.1, fun c cs _ => hR.2 c cs (room_wide _)⟩

/-- Numbers of names. -/
def nI (p : List Nat) : List Int := List.map (fun (v : Nat) => (v : Int)) p

theorem nI_len (p : List Nat) : (nI p).length = p.length := by simp [nI]
theorem nI_snoc (p : List Nat) (v : Nat) : nI (p ++ [v]) = nI p ++ [(v : Int)] := by simp [nI]
theorem permsL_count : ∀ (k : Nat) (us : List Nat), us.length ≤ 6 → (permsL k us).length ≤ 6 ^ k
  | 0, _, _ => by simp [permsL]
  | k + 1, us, h => by
    rw [permsL]
    refine Nat.le_trans (flat_len _ (6 ^ k) us (fun v _ => ?_)) (by rw [Nat.pow_succ, Nat.mul_comm]; exact Nat.mul_le_mul_left _ h)
    rw [List.length_map]
    exact permsL_count k _ (Nat.le_trans (List.length_erase_le) h)

/-- What has been yielded behind names that were chosen first. -/
def partL (k : Nat) (us vs : List Nat) : List (List Nat) := vs.flatMap fun v => (permsL k (us.erase v)).map (v :: ·)

theorem partL_snoc (k : Nat) (us vs : List Nat) (v : Nat) : partL k us (vs ++ [v]) = partL k us vs ++ (permsL k (us.erase v)).map (v :: ·) := by simp [partL]
theorem partL_count (k : Nat) (us vs : List Nat) (h : us.length ≤ 6) : (partL k us vs).length ≤ vs.length * 6 ^ k := by
  unfold partL
  refine flat_len _ _ vs (fun v _ => ?_)
  rw [List.length_map]
  exact permsL_count k _ (Nat.le_trans (List.length_erase_le) h)

end Go.Proofs.YtjclfpcnfmpjdaaDoor

/- It is proved what a loop over a function does where the function keeps its state in cells of its own and the body writes one block that lay ahead of the loop; conditions: those of each statement. -/
namespace Go
open Go.RowKit

/-- Whatever lies in a block that X does not name lies as it lay. -/
structure But (X : Nat → Prop) (W W' : World) : Prop where
  os : W'.os = W.os
  tape : W'.tape = W.tape
  output : W'.output = W.output
  size : W.heap.size ≤ W'.heap.size
  same : ∀ k, k < W.heap.size → ¬ X k → W'.heap[k]? = W.heap[k]?

theorem But.refl (X : Nat → Prop) (W : World) : But X W W := ⟨rfl, rfl, rfl, Nat.le_refl _, fun _ _ _ => rfl⟩
theorem But.trans {X : Nat → Prop} {A B C : World} (h : But X A B) (k : But X B C) : But X A C :=
  ⟨k.os.trans h.os, k.tape.trans h.tape, k.output.trans h.output, Nat.le_trans h.size k.size, fun i hi hX => (k.same i (Nat.lt_of_lt_of_le hi h.size) hX).trans (h.same i hi hX)⟩

theorem But.mono {X Y : Nat → Prop} {A B : World} (h : But X A B) (hXY : ∀ k, k < A.heap.size → X k → Y k) : But Y A B := ⟨h.os, h.tape, h.output, h.size, fun i hi hY => h.same i hi (fun e => hY (hXY _ hi e))⟩
theorem But.of_grownBy {X : Nat → Prop} {W W' : World} {row : Option Nat} (hg : W.grownBy W' row) (hr : ∀ r, row = some r → r < W.heap.size → X r) : But X W W' :=
  ⟨hg.os, hg.tape, hg.output, hg.size, fun k hk hX => hg.block k hk (fun e => hX (hr k e.symm hk))⟩

theorem But.putObj {X : Nat → Prop} (W : World) (l : Nat) (o : Obj) (hl : X l) : But X W (W.putObj l o) := But.of_grownBy (grownBy_putObj' W l o) (fun r e _ => by cases e; exact hl)
theorem But.alloc {X : Nat → Prop} (W : World) (o : Obj) : But X W (W.alloc o) := But.of_grownBy (World.grownBy_alloc W o none) (by simp)
theorem But.setCell {X : Nat → Prop} (W : World) (b i : Nat) (v : Value) (hb : b < W.heap.size → X b) : But X W (W.setCell ⟨b, i, none⟩ v) :=
  ⟨rfl, rfl, rfl, by simp, fun k hk hX => Below.heap_setCell W ⟨b, i, none⟩ v k (fun e => hX (by subst e; exact hb hk))⟩

theorem But.drew {X : Nat → Prop} (W : World) : But X W W.drew := ⟨rfl, rfl, rfl, Nat.le_refl _, fun _ _ _ => rfl⟩
theorem But.keep {X : Nat → Prop} {W W' : World} {k : Nat} {o : Obj} (h : But X W W') (hX : ¬ X k) (hk : W.heap[k]? = some o) : W'.heap[k]? = some o := (h.same k (Array.getElem?_eq_some_iff.1 hk).1 hX).trans hk
theorem But.below {X : Nat → Prop} {W W' : World} {B : Nat} (h : But X W W') (hB : B ≤ W.heap.size) (hX : ∀ k, X k → B ≤ k) : Below B W W' :=
  ⟨h.os, h.tape, h.output, h.size, fun k hk => h.same k (Nat.lt_of_lt_of_le hk hB) (fun e => by have := hX k e; omega)⟩

theorem But.from {X : Nat → Prop} {W W' : World} {B : Nat} (h : But X W W') (hX : ∀ k o, B ≤ k → W.heap[k]? = some o → X k → o.isCells = true) : KeepsFrom B W W' :=
  ⟨h.size, fun k o hB hk ho => h.keep (fun e => by rw [hX k o hB hk e] at ho; cases ho) hk⟩

theorem But.of_below {X : Nat → Prop} {W W' : World} (h : Below W.heap.size W W') : But X W W' := ⟨h.os, h.tape, h.output, h.size, fun k hk _ => h.block k hk⟩
/-- What abides whatever is done to blocks from B on. -/
def OwnAll {β : Type} (B : Nat) (J : β → World → Prop) : Prop := ∀ s A C row, J s A → A.grownBy C row → (∀ r, row = some r → B ≤ r) → J s C

/-- The contract of an iterator that may keep cells of its own: a round finds Ok of what it is handed, and leaves every block but the loop's record and block b as it was. -/
def SeqCells {α : Type} (n : Nat) (P : Program) (g : Nat) (lb : Array Value) (encs : α → Array Value) (b : Nat) (Ok : α → World → Prop) (S : List α → Prop) (N : Nat) (w : World) : Prop :=
  ∀ (l : Nat) (J : List α → World → Prop) (W : World), Below w.heap.size w W → w.heap.size ≤ l → l < W.heap.size → b < W.heap.size → OwnAll W.heap.size J →
    (∀ pre x W1, J pre W1 → Ok x W1 → pre.length < N → YieldAt Fence.wide (n - 1) P l (encs x) W1 fun e W' => e = .returned (.bool true) ∧ J (pre ++ [x]) W' ∧ But (fun k => k = l ∨ k = b) W1 W') →
    J [] W →
    CallsIn Fence.wide n P g (#[.func (.yield l) #[] #[]] ++ lb) W fun e W' => (∃ v, e = .returned v) ∧ ∃ xs, S xs ∧ J xs W'

/-- How a round ends. -/
def postCells {α : Type} (b : Nat) (I : List α → World → Prop) (xs : List α) (W : World) : Exit → Act → World → Prop
  | .normal, _, W' => But (fun k => k = b) W W' ∧ I xs W'
  | _, _, _ => False

theorem wpIn_rangeFunc_cells {P : Program} {n : Nat} {α : Type} {g : Operand} {ps : Array Tmp} {assign body : Code} {Q : Exit → Act → World → Prop} {a : Act} {w : World}
    (h1 : 1 ≤ n) {gf : Nat} {lb : Array Value} (hg : a.eval g = .func (.func gf) #[] lb) (eg : ∀ args w, (callFunc gf args).run P w = .ok (.enter gf args) w)
    {encs : α → Array Value} {b : Nat} {Ok : α → World → Prop} {S : List α → Prop} {N : Nat} {w0 : World} (hseq : SeqCells (n - 1) P gf lb encs b Ok S N w0) (hb0 : Below w0.heap.size w0 w) (hbw : b < w.heap.size) (hps : ∀ x, (encs x).size = ps.size)
    (hOk : ∀ x A l o, Ok x A → (∃ o', A.heap[l]? = some o' ∧ o'.isCells = false) → Ok x (A.putObj l o))
    (I : List α → World → Prop) (hI : OwnAll w.heap.size I) (h0 : I [] w) (a₁ : α → Act)
    (hassign : ∀ (l : Nat) (x : α) (W : World) (K : Act → World → Prop), K (a₁ x) W →
      assign.wpIn (Fence.wide.inRound l) (n - 1 - 1) P (Exit.then K (fun _ _ _ => False)) { tmps := (ps.zip (encs x)).foldl (fun t (p, v) => t.setIfInBounds p v) a.tmps, defers := [] } W)
    (hbody : ∀ (l : Nat) (pre : List α) (x : α) (W : World), I pre W → Ok x W → pre.length < N → body.wpIn (Fence.wide.inRound l) (n - 1 - 1) P (postCells b I (pre ++ [x]) W) (a₁ x) W)
    (hdone : ∀ (D : Nat) (xs : List α) (W : World), w.heap.size ≤ D → S xs → I xs W → W.heap[D]? = some (.deferred (some [])) → Q .normal { a with defers := { target := .collected D, args := #[] } :: a.defers } W) :
    (Code.rangeFunc g ps assign body).wpIn Fence.wide n P Q a w := by
  refine wpIn_rangeFunc ?_
  intro fn hfn
  rw [show Fence.wide.round = none from rfl]
  obtain ⟨rec, hrec⟩ : ∃ rec : LoopState → Option Code → Loop, rec = fun st pe => { state := st, pending := pe, fn, tmps := a.tmps, params := ps, assign, body, defers := w.heap.size } := ⟨_, rfl⟩
  obtain ⟨W1, hW1⟩ : ∃ W1, (w.alloc (.deferred (some []))).alloc (.loop (rec .ready none)) = W1 := ⟨_, rfl⟩
  have hs1 : W1.heap.size = w.heap.size + 2 := by rw [← hW1]; simp
  have hL1 : W1.heap[w.heap.size + 1]? = some (.loop (rec .ready none)) := by
    rw [← hW1]; have := World.alloc_heap_new (w.alloc (.deferred (some []))) (.loop (rec .ready none)); rwa [World.size_alloc] at this
  have hK1 : W1.heap[w.heap.size]? = some (.deferred (some [])) := by
    rw [← hW1]; exact (Below.heap_alloc _ _ _ (by simp)).trans (World.alloc_heap_new w _)
  have hI1 : I [] W1 := by
    rw [← hW1]
    exact hI _ _ _ none (hI _ _ _ none h0 (World.grownBy_alloc _ _ _) (by simp)) (World.grownBy_alloc _ _ _) (by simp)
  have hb1 : Below w0.heap.size w0 W1 := by
    rw [← hW1]; exact hb0.trans ((((Below.refl _ w).alloc (Nat.le_refl _) _).alloc (by simp) _).mono hb0.size)
  have hput : ∀ (xs : List α) (W : World) (o : Obj), I xs W → I xs (W.putObj (w.heap.size + 1) o) := fun xs W o h => hI _ _ _ _ h (grownBy_putObj' W _ o) (fun r e => by cases e; omega)
  refine ⟨w.heap.size + 1, [{ target := .collected w.heap.size, args := #[] }], W1, { target := .fn (.func gf) lb, args := #[.func (.yield (w.heap.size + 1)) #[] #[]] }, W1, gf,
    #[.func (.yield (w.heap.size + 1)) #[] #[]] ++ lb, W1, ?_, ?_, fun _ _ => trivial, ?_, fun _ => h1, ?_⟩
  · rw [← hW1, hrec]; exact run_enterLoop_outer _ _ _ _ _
  · simp only [resolve, hg]
    simp [go_sem]
  · simp [invoke, go_sem, eg]
  · refine (hseq (w.heap.size + 1) (fun pre W => I pre W ∧ W.heap[w.heap.size + 1]? = some (.loop (rec .ready none)) ∧ W.heap[w.heap.size]? = some (.deferred (some []))) W1 hb1 (by have := hb0.size; omega) (by omega) (by omega) ?_ ?_ ⟨hI1, hL1, hK1⟩).mono ?_
    · rintro s A C row ⟨hi, hl, hk⟩ hgr hr
      have hne : ∀ k, k < w.heap.size + 2 → some k ≠ row := fun k hk' e => by have := hr k e.symm; omega
      exact ⟨hI s A C row hi hgr (fun r e => by have := hr r e; omega), (hgr.block _ (Array.getElem?_eq_some_iff.1 hl).1 (hne _ (by omega))).trans hl, (hgr.block _ (Array.getElem?_eq_some_iff.1 hk).1 (hne _ (by omega))).trans hk⟩
    · rintro pre x W ⟨hi, hl, hk⟩ hok hlen
      have hlt : w.heap.size + 1 < W.heap.size := (Array.getElem?_eq_some_iff.1 hl).1
      have hy := run_yield (P := P) (args := encs x) hl (by rw [hrec]; exact hps x)
      rw [hrec] at hy
      refine ⟨fn, _, assign, body, hy, roundIn_of_wpIn hfn (hassign _ x W _ ⟨_, run_beginRound hl (by rw [hrec]), ?_⟩)⟩
      have hok2 : Ok x (W.putObj (w.heap.size + 1) (.loop { rec .ready none with state := .busy })) := hOk _ _ _ _ hok ⟨_, hl, rfl⟩
      have hl2 : (W.putObj (w.heap.size + 1) (.loop { rec .ready none with state := .busy })).heap[w.heap.size + 1]? = some (.loop { rec .ready none with state := .busy }) := World.putObj_heap_same hlt
      have hk2 : (W.putObj (w.heap.size + 1) (.loop { rec .ready none with state := .busy })).heap[w.heap.size]? = some (.deferred (some [])) := (World.putObj_heap_other (by omega)).trans hk
      refine wpIn_mono (hbody _ pre x _ (hput _ _ _ hi) hok2 hlen) ?_
      rintro e a3 W3 hp
      cases e with
      | normal =>
        obtain ⟨hk3, hi3⟩ := hp
        have hl3 := hk3.keep (by omega) hl2
        have hr := run_endRound (P := P) none hl3
        have hb4 : But (fun k => k = w.heap.size + 1 ∨ k = b) W (W3.putObj (w.heap.size + 1) (.loop (rec .ready none))) :=
          ((But.putObj W _ _ (.inl rfl)).trans (hk3.mono (fun k _ e => .inr e))).trans (But.putObj W3 _ _ (.inl rfl))
        rw [hrec] at hr hb4 ⊢
        refine ⟨_, _, hr, rfl, ⟨hput _ _ _ hi3, World.putObj_heap_same (Array.getElem?_eq_some_iff.1 hl3).1, (World.putObj_heap_other (by omega)).trans (hk3.keep (by omega) hk2)⟩, hb4⟩
      | _ => exact hp.elim
    · rintro e W2 ⟨⟨v, rfl⟩, xs, hS, hi, hl, hk⟩
      refine ⟨none, _, by have := run_endLoop (P := P) hl (by rw [hrec]; simp); rw [hrec] at this; exact this, ?_⟩
      exact hdone _ xs _ (Nat.le_refl _) hS (hput _ _ _ hi) ((World.putObj_heap_other (by omega)).trans hk)

end Go

/- It is proved what goOn does where no member is left; conditions: those of each statement. -/
namespace Go.Proofs.YtjclfpcnfmpjdaaDoor
open Go.RowKit Go.Shelf

attribute [local go_sem] Oper.semAt_some

/-- What allNames keeps: what it is to call, the names so far, the function itself. -/
structure OS (By Bp Bg Br l m : Nat) (W : World) (p : List Nat) : Prop where
  y : Boxed W By 122 (.func (.yield l) #[] #[])
  g : Boxed W Bg 123 (.func (.func 106) #[] #[.pointer (some ⟨By, 0, none⟩), .pointer (some ⟨Bp, 0, none⟩), .pointer (some ⟨Bg, 0, none⟩)])
  q : Boxed W Bp 23 (.slice (some ⟨Br, 0, none⟩) p.length m)
  r : ∃ R : List Int, R.length = m ∧ R.take p.length = nI p ∧ Nums W Br 3 R
  t : Tab W

/-- The blocks that may turn. -/
def Xg (Bp Br l b : Nat) : Nat → Prop := fun k => k = l ∨ k = b ∨ k = Bp ∨ k = Br

/-- Where they lie. -/
structure Lies (By Bp Bg Br l b n₁ : Nat) : Prop where
  l1 : 1 < l
  l2 : l < n₁
  b1 : 1 < b
  b2 : b < n₁
  y : n₁ ≤ By
  p : n₁ ≤ Bp
  g : n₁ ≤ Bg
  r : n₁ ≤ Br
  yp : By ≠ Bp
  yr : By ≠ Br
  gp : Bg ≠ Bp
  gr : Bg ≠ Br
  pr : Bp ≠ Br

theorem tab_but {X : Nat → Prop} {W W' : World} (h : Tab W) (hb : But X W W') (hX : ∀ k, X k → 1 < k) : Tab W' :=
  h.below (hb.below (B := 2) h.lt (fun k hk => hX k hk)) (by omega)

theorem OS.but {By Bp Bg Br l m b n₁ : Nat} {W W' : World} {p : List Nat} (h : OS By Bp Bg Br l m W p) (L : Lies By Bp Bg Br l b n₁) (hb : But (fun k => k = l ∨ k = b) W W') : OS By Bp Bg Br l m W' p := by
  have hn : ∀ k, n₁ ≤ k → ¬ (k = l ∨ k = b) := fun k hk => by have := L.l2; have := L.b2; omega
  obtain ⟨R, hR1, hR2, hR3⟩ := h.r
  exact ⟨hb.keep (hn _ L.y) h.y, hb.keep (hn _ L.g) h.g, hb.keep (hn _ L.p) h.q, ⟨R, hR1, hR2, hb.keep (hn _ L.r) hR3⟩, tab_but h.t hb (fun k hk => by have := L.l1; have := L.b1; omega)⟩

theorem OS.alloc {By Bp Bg Br l m : Nat} {W : World} {p : List Nat} (h : OS By Bp Bg Br l m W p) (o : Obj) : OS By Bp Bg Br l m (W.alloc o) p := by
  obtain ⟨R, hR1, hR2, hR3⟩ := h.r
  exact ⟨h.y.alloc _, h.g.alloc _, h.q.alloc _, ⟨R, hR1, hR2, hR3.alloc _⟩, tab_but (X := fun _ => False) h.t (But.alloc _ _) (by simp)⟩

/-- Other blocks are written. -/
theorem OS.far {By Bp Bg Br l m : Nat} {W : World} {p : List Nat} (h : OS By Bp Bg Br l m W p) {B : Nat} (hy : By ≠ B) (hp : Bp ≠ B) (hg : Bg ≠ B) (hr : Br ≠ B) (h1 : 1 < B) (v : Value) : OS By Bp Bg Br l m (W.setCell ⟨B, 0, none⟩ v) p := by
  obtain ⟨R, hR1, hR2, hR3⟩ := h.r
  exact ⟨HasBlk.far h.y (show By ≠ B from hy) v, HasBlk.far h.g (show Bg ≠ B from hg) v, HasBlk.far h.q (show Bp ≠ B from hp) v, ⟨R, hR1, hR2, hR3.far (show Br ≠ B from hr) v⟩, tab_but (X := fun k => k = B) h.t (But.setCell _ _ _ _ (fun _ => rfl)) (fun k e => by omega)⟩

/-- What a round finds of what it is handed. -/
def OkN (m : Nat) (x : Value × List Nat) (W : World) : Prop := (x.2.length = m ∧ ∀ v ∈ x.2, v < m) ∧ ∃ a c, x.1 = .slice a x.2.length c ∧ Ints W W.heap.size a (nI x.2)

theorem OS.ok {By Bp Bg Br l m : Nat} {W : World} {p : List Nat} (h : OS By Bp Bg Br l m W p) (hp : p.length = m) (hv : ∀ v ∈ p, v < m) : OkN m (.slice (some ⟨Br, 0, none⟩) p.length m, p) W := by
  obtain ⟨R, hR1, hR2, hR3⟩ := h.r
  refine ⟨⟨hp, hv⟩, _, _, rfl, .inr ⟨Br, 0, rfl, hR3.lt, fun j hj => ?_⟩⟩
  have hj : j < p.length := by simpa [nI_len] using hj
  rw [Nat.zero_add, hR3.cell j (by omega), ← hR2, List.getElem?_take, if_pos hj]

set_option maxRecDepth 100000 in
set_option maxHeartbeats 2000000 in
theorem goOn0 (By Bp Bg Br l m b n₁ N : Nat) (L : Lies By Bp Bg Br l b n₁) (J : List (Value × List Nat) → World → Prop) (hJ : OwnAll n₁ J)
    (hY : ∀ k pre x W1, J pre W1 → OkN m x W1 → pre.length < N → YieldAt Fence.wide k Tryd.prog l #[x.1] W1 fun e W' => e = .returned (.bool true) ∧ J (pre ++ [x]) W' ∧ But (fun k => k = l ∨ k = b) W1 W')
    (p : List Nat) (hp : p.length = m) (hpv : ∀ v ∈ p, v < m) (pre : List (Value × List Nat)) (hpN : pre.length < N) (W : World) (hn : n₁ ≤ W.heap.size) (h0 : J pre W) (hO : OS By Bp Bg Br l m W p) :
    Calls Tryd.prog 106 #[.int .i64 0, .pointer (some ⟨By, 0, none⟩), .pointer (some ⟨Bp, 0, none⟩), .pointer (some ⟨Bg, 0, none⟩)] W fun e W' => e = .returned (.bool true) ∧
      (∃ xs : List (Value × List Nat), xs.map (·.2) = [p] ∧ J (pre ++ xs) W') ∧ OS By Bp Bg Br l m W' p ∧ But (Xg Bp Br l b) W W' := by
  have hO2 := (hO.alloc (.cells #[.int .i64 0] 64)).alloc (.cells #[.bool false] 4)
  have hJ2 : J pre ((W.alloc (.cells #[.int .i64 0] 64)).alloc (.cells #[.bool false] 4)) := hJ _ _ _ none (hJ _ _ _ none h0 (World.grownBy_alloc _ _ _) (by simp)) (World.grownBy_alloc _ _ _) (by simp)
  have hbt : But (Xg Bp Br l b) W ((W.alloc (.cells #[.int .i64 0] 64)).alloc (.cells #[.bool false] 4)) := (But.alloc _ _).trans (But.alloc _ _)
  have q1 := alloc2_1 W (.cells #[.int .i64 0] 64) (.cells #[.bool false] 4)
  obtain ⟨fn, tmps, assign, body, hy, hR⟩ := hY 5 pre (.slice (some ⟨Br, 0, none⟩) p.length m, p) _ hJ2 (hO2.ok hp hpv) hpN
  dsimp only at hy
  have cy := hO2.y.cell
  have cp := hO2.q.cell
  obtain ⟨k, hk⟩ : ∃ k, k = p.length := ⟨_, rfl⟩
  have HK := Lib.hid hk
  rw [← hk] at hy cp
  have HO2 := Lib.hid hO2
  have HBT := Lib.hid hbt
  have HL := Lib.hid L
  have Q1 := Lib.hid q1
  clear hk hO2 hbt q1 hJ2 hY h0 L
  refine (callsIn_wide (n := 6)).1 ?_
  refine callsIn_of_wp Tryd.func106 rfl trivial ?_ rfl
  simp only [Tryd.ntmps106, List.size_toArray, List.length_cons, List.length_nil, Nat.reduceAdd, Nat.reduceSub, Array.replicate_succ, Array.replicate_zero, List.push_toArray, List.append_toArray, List.nil_append, List.cons_append]
  gi_wp2
  refine hR.mono ?_
  rintro e W3 ⟨rfl, hJ3, hb3⟩
  have q3 : HasBlk W3 (W.heap.size + 1) #[.bool false] 4 := hb3.keep (by have := HL.out.l2; have := HL.out.b2; omega) Q1.out
  have c3 := (blk_cell q3 0).trans (cell1_0 _)
  have f3 := blk_frozen q3 0
  have hs3 := hb3.size
  have hO3 := HO2.out.but HL.out hb3
  have HO3 := Lib.hid (hO3.far (B := W.heap.size + 1) (by have := hO.y.lt; omega) (by have := hO.q.lt; omega) (by have := hO.g.lt; omega) (by obtain ⟨_, _, _, h⟩ := hO.r; have := h.lt; omega) (by have := HL.out.l1; have := HL.out.l2; omega) (.bool true))
  have HB3 := Lib.hid (HBT.out.trans ((hb3.mono (Y := Xg Bp Br l b) (fun k _ e => by unfold Xg; rcases e with h | h <;> simp [h]))))
  have HJ3 := Lib.hid hJ3
  clear hb3 hO3 hJ3 q3
  gi_wp2
  refine bodyPost_ret (v := .bool true) (by simp [results, Tryd.results106, go_sem, c3]) rfl ?_
  refine ⟨rfl, ⟨[(.slice (some ⟨Br, 0, none⟩) k m, p)], rfl, ?_⟩, HO3.out, ?_⟩
  · rw [HK.out]
    exact hJ _ _ _ (some (W.heap.size + 1)) HJ3.out (only_setCell (p := ⟨W.heap.size + 1, 0, none⟩) (World.grownBy.refl _ _) rfl _) (fun r e => by injection e; omega)
  · refine ⟨HB3.out.os, HB3.out.tape, HB3.out.output, by have := HB3.out.size; simpa using this, fun i hi hX => ?_⟩
    exact (Below.heap_setCell W3 ⟨W.heap.size + 1, 0, none⟩ _ i (show i ≠ W.heap.size + 1 by omega)).trans (HB3.out.same i hi hX)

end Go.Proofs.YtjclfpcnfmpjdaaDoor

/- It is proved what goOn does; conditions: those of each statement. -/
namespace Go.Proofs.YtjclfpcnfmpjdaaDoor
open Go.RowKit Go.Shelf

attribute [local go_sem] Oper.semAt_some

theorem OS.drew {By Bp Bg Br l m : Nat} {W : World} {p : List Nat} (h : OS By Bp Bg Br l m W p) : OS By Bp Bg Br l m W.drew p := ⟨h.y, h.g, h.q, h.r, h.t⟩
theorem OS.grown {By Bp Bg Br l m : Nat} {W W' : World} {p : List Nat} {row : Option Nat} (h : OS By Bp Bg Br l m W p) (hg : W.grownBy W' row) (hr : ∀ r, row = some r → r ≠ By ∧ r ≠ Bp ∧ r ≠ Bg ∧ r ≠ Br ∧ 1 < r) : OS By Bp Bg Br l m W' p := by
  obtain ⟨R, hR1, hR2, hR3⟩ := h.r
  have hb : But (fun k => row = some k) W W' := But.of_grownBy hg (fun r e _ => e)
  exact ⟨hb.keep (fun e => (hr _ e).1 rfl) h.y, hb.keep (fun e => (hr _ e).2.2.1 rfl) h.g, hb.keep (fun e => (hr _ e).2.1 rfl) h.q, ⟨R, hR1, hR2, hb.keep (fun e => (hr _ e).2.2.2.1 rfl) hR3⟩, tab_but h.t hb (fun k e => (hr k e).2.2.2.2)⟩

theorem Lies.x1 {By Bp Bg Br l b n₁ : Nat} (L : Lies By Bp Bg Br l b n₁) : ∀ k, Xg Bp Br l b k → 1 < k := by
  intro k h
  have := L.l1; have := L.l2; have := L.b1; have := L.p; have := L.r
  unfold Xg at h; omega

theorem mem_none (s : Nat) (hs : s < 64) (h : mem s = []) : s = 0 := by
  by_cases h0 : s = 0
  · exact h0
  · rw [mem_cons s hs h0] at h; cases h

/-- A name is put behind the names so far: what that leaves. -/
theorem put_name {By Bp Bg Br l m b n₁ : Nat} (L : Lies By Bp Bg Br l b n₁) {W : World} {p : List Nat} (hO : OS By Bp Bg Br l m W p) (hp : p.length < m) (v : Nat) :
    ∃ E, ((W.alloc (.cells #[.int .i64 (v : Int)] 3)).setCell ⟨Br, p.length, none⟩ (.int .i64 (v : Int))).setCell ⟨Bp, 0, none⟩ (.slice (some ⟨Br, 0, none⟩) (p.length + 1) m) = E ∧ OS By Bp Bg Br l m E (p ++ [v]) ∧ But (Xg Bp Br l b) W E ∧ W.heap.size ≤ E.heap.size := by
  obtain ⟨R, hR1, hR2, hR3⟩ := hO.r
  have hgr := L.gr; have hyr := L.yr; have hyp := L.yp; have hgp := L.gp; have hpr := L.pr
  refine ⟨_, rfl, ⟨?_, ?_, ?_, ⟨R.set p.length (v : Int), by rw [List.length_set, hR1], ?_, ?_⟩, ?_⟩, ?_, by simp⟩
  · exact HasBlk.far (HasBlk.far (HasBlk.alloc hO.y _) (show By ≠ Br from hyr) _) (show By ≠ Bp from hyp) _
  · exact HasBlk.far (HasBlk.far (HasBlk.alloc hO.g _) (show Bg ≠ Br from hgr) _) (show Bg ≠ Bp from hgp) _
  · rw [List.length_append]
    exact (show Boxed _ Bp 23 _ from HasBlk.far (HasBlk.alloc hO.q (.cells #[.int .i64 (v : Int)] 3)) (show Bp ≠ Br from hpr) (.int .i64 (v : Int))).set _
  · rw [List.length_append, List.length_singleton, List.take_succ_eq_append_getElem (by rw [List.length_set]; omega), List.take_set_of_le (Nat.le_refl _), hR2, nI_snoc]
    simp
  · exact ((hR3.alloc _).set p.length (v : Int)).far (show Br ≠ Bp from fun e => hpr e.symm) _
  · exact tab_but (X := Xg Bp Br l b) hO.t (((But.alloc _ _).trans (But.setCell _ _ _ _ (fun _ => .inr (.inr (.inr rfl))))).trans (But.setCell _ _ _ _ (fun _ => .inr (.inr (.inl rfl))))) L.x1
  · exact ((But.alloc _ _).trans (But.setCell _ _ _ _ (fun _ => .inr (.inr (.inr rfl))))).trans (But.setCell _ _ _ _ (fun _ => .inr (.inr (.inl rfl))))

/-- The last name is taken off again. -/
theorem off_name {By Bp Bg Br l m b n₁ : Nat} (L : Lies By Bp Bg Br l b n₁) {W : World} {p : List Nat} {v : Nat} (hO : OS By Bp Bg Br l m W (p ++ [v])) :
    OS By Bp Bg Br l m (W.setCell ⟨Bp, 0, none⟩ (.slice (some ⟨Br, 0, none⟩) p.length m)) p ∧ But (Xg Bp Br l b) W (W.setCell ⟨Bp, 0, none⟩ (.slice (some ⟨Br, 0, none⟩) p.length m)) := by
  obtain ⟨R, hR1, hR2, hR3⟩ := hO.r
  have hgr := L.gr; have hyr := L.yr; have hyp := L.yp; have hgp := L.gp; have hpr := L.pr
  have hbt : But (Xg Bp Br l b) W (W.setCell ⟨Bp, 0, none⟩ (.slice (some ⟨Br, 0, none⟩) p.length m)) := But.setCell _ _ _ _ (fun _ => .inr (.inr (.inl rfl)))
  refine ⟨⟨HasBlk.far hO.y (show By ≠ Bp from hyp) _, HasBlk.far hO.g (show Bg ≠ Bp from hgp) _, hO.q.set _, ⟨R, hR1, ?_, hR3.far (show Br ≠ Bp from fun e => hpr e.symm) _⟩, tab_but hO.t hbt L.x1⟩, hbt⟩
  have := congrArg (List.take p.length) hR2
  rw [List.take_take, nI_snoc, List.length_append, Nat.min_eq_left (by simp)] at this
  rw [this, List.take_left' (nI_len p)]

end Go.Proofs.YtjclfpcnfmpjdaaDoor

/- It is proved what append does with any list of ints, and what slices.Grow and slices.Concat return; conditions: those of each statement. -/
namespace Go.Proofs.YtjclfpcnfmpjdaaDoor
open Go.RowKit

theorem Ints.add_ {w : World} {B : Nat} {x : Addr} {zs : List Int} (h : Ints w B (some x) zs) : ∀ j u, (zs.map (Value.int .i64))[j]? = some u → w.cell? (x.add j) = some u := by
  intro j u hu
  rcases h with rfl | ⟨b, off, e, hb, hc⟩
  · simp at hu
  · injection e with e
    subst e
    have hj : j < zs.length := by have := (List.getElem?_eq_some_iff.1 hu).1; simpa using this
    rw [show (⟨b, off, none⟩ : Addr).add j = ⟨b, off + j, none⟩ from by unfold Addr.add; split <;> simp_all, hc j hj]
    simp [hj] at hu ⊢
    exact hu

/-- append of any list of ints onto a row of the call's own. -/
theorem app_run {w : World} {B n : Nat} {v : Value} {xs : List Value} (h : w.ownsRow B 3 1 v n xs) (hB : B ≤ w.heap.size) (a : Option Addr) (c : Nat) (zs : List Int) (hz : Ints w w.heap.size a zs) (hn : n ≤ 1048576) (hzn : zs.length ≤ 1048576) :
    ∃ a' c' w', (Builtin.append_ #[23, 23] 23 #[v, .slice a zs.length c]).run Tryd.prog w = .ok (.slice a' (n + zs.length) c') w' ∧
      w'.ownsRow B 3 1 (.slice a' (n + zs.length) c') (n + zs.length) (xs ++ zs.map (Value.int .i64)) ∧ w.grownBy w' v.ownBlock := by
  obtain ⟨i0, hi0, hz0, hz1, hz2⟩ := info_parts Tryd.info3
  have form : ∀ {w' : World} {v' : Value} {k : Nat} {ys : List Value}, w'.ownsRow B 3 1 v' k ys → ∃ a' c', v' = .slice a' k c' := fun {w' v' k ys} h' => by
    rcases h'.2 with ⟨rfl, rfl⟩ | ⟨g, cap, cur, rfl, _⟩
    · exact ⟨none, 0, rfl⟩
    · exact ⟨_, _, rfl⟩
  rcases a with _ | x
  · have hzs : zs = [] := by
      rcases hz with h | ⟨_, _, e, _⟩
      · exact h
      · cases e
    subst hzs
    obtain ⟨a', c', rfl⟩ := form h
    refine ⟨a', c', w, ?_, by simpa using h, World.grownBy.refl _ _⟩
    rcases h.2 with ⟨e, rfl⟩ | ⟨g, cap, cur, e, _, _, hnc, _⟩
    · cases e; simp [Builtin.append_, run_underlying Tryd.underlying23, sizeOf, typeInfo, hi0, Builtin.lenOf, Builtin.firstCells]
    · cases e; simp [Builtin.append_, run_underlying Tryd.underlying23, sizeOf, typeInfo, hi0, Builtin.lenOf, Builtin.firstCells, hnc, storeCells]
  · obtain ⟨v', w', hr, h2, h3, _⟩ := run_append_own (P := Tryd.prog) w B 23 23 3 i0 (.int .i64 0) 1 8 Tryd.underlying23 hi0 hz0 hz1 hz2 rfl (by decide) v n xs h x zs.length c (zs.map (Value.int .i64)) (by simp) hz.add_ (ints_oneCell _ _) (by simp only [maxLen]; omega) (by omega) hB
    obtain ⟨a', c', rfl⟩ := form h2
    exact ⟨a', c', w', hr, h2, h3⟩

end Go.Proofs.YtjclfpcnfmpjdaaDoor

/- It is proved what the FamilyDrop of the program returns; conditions: those of each statement. -/
namespace Go.Proofs.YtjclfpcnfmpjdaaDoor
open Go.RowKit

/-- Without the club at place p. -/
def without (zs : List Int) (p : Nat) : List Int := zs.take p ++ zs.drop (p + 1)

theorem Ints.take_ {w : World} {B : Nat} {a : Option Addr} {zs : List Int} (h : Ints w B a zs) (p : Nat) : Ints w B a (zs.take p) := by
  rcases h with rfl | ⟨b, off, e, hb, hc⟩
  · exact .inl (by simp)
  · exact .inr ⟨b, off, e, hb, fun j hj => by
      rw [List.length_take] at hj
      rw [hc j (by omega), List.getElem?_take, if_pos (by omega)]⟩

theorem Ints.drop_ {w : World} {B b off : Nat} {zs : List Int} (h : Ints w B (some ⟨b, off, none⟩) zs) (p : Nat) (hp : p < zs.length) : Ints w B (some ⟨b, off + p, none⟩) (zs.drop p) := by
  rcases h with rfl | ⟨b', off', e, hb, hc⟩
  · simp at hp
  · injection e with e
    injection e with e1 e2
    subst e1; subst e2
    exact .inr ⟨b, off + p, rfl, hb, fun j hj => by
      rw [List.length_drop] at hj
      have := hc (p + j) (by omega)
      rw [Nat.add_assoc, this, List.getElem?_drop]⟩

end Go.Proofs.YtjclfpcnfmpjdaaDoor

/- It is proved what without returns; conditions: those of each statement. -/
namespace Go.Proofs.YtjclfpcnfmpjdaaDoor
open Go.RowKit Go.Shelf

/-- A set without a member. -/
def woP (s v : Nat) : Nat := s &&& (63 - 2 ^ v)

set_option maxRecDepth 100000 in
theorem wo_fin : ∀ x : Fin 64, ∀ p : Fin 6, bits BinOp.andNot IntKind.i64 (x.val : Int) (2 ^ p.val) = ((woP x.val p.val : Nat) : Int) := by decide +kernel

theorem wo_at (x p : Nat) (hx : x < 64) (hp : p < 6) : bits BinOp.andNot IntKind.i64 (x : Int) (2 ^ p) = ((woP x p : Nat) : Int) := wo_fin ⟨x, hx⟩ ⟨p, hp⟩
set_option maxRecDepth 100000 in
theorem wo_mem_fin : ∀ x : Fin 64, ∀ p : Fin 6, mem (woP x.val p.val) = (mem x.val).erase p.val := by decide +kernel

theorem wo_mem (x p : Nat) (hx : x < 64) (hp : p < 6) : mem (woP x p) = (mem x).erase p := wo_mem_fin ⟨x, hx⟩ ⟨p, hp⟩
theorem wo_le (x p : Nat) : woP x p ≤ x := Nat.and_le_left
theorem without_any (x p : Nat) (hx : x < 64) (hp : p < 6) (w : World) :
    Calls Tryd.prog 107 #[.int .i64 (x : Int), .int .i64 (p : Int)] w fun e w' => e = .returned (.int .i64 ((woP x p : Nat) : Int)) ∧ w = w' := by
  have hp8 : (p : Int) < 8 := by omega
  obtain ⟨h1, h2⟩ := p2_small p (by omega)
  have HO := Lib.hid (wo_at x p hx hp)
  go_enter Tryd.func107, Tryd.ntmps107
  go_wp2
  go_ret
  exact ⟨by rw [HO.out]; rfl, rfl⟩

end Go.Proofs.YtjclfpcnfmpjdaaDoor

/- It is proved that the dual of a dual is the family; conditions: those of each statement. -/
namespace Go.Proofs.YtjclfpcnfmpjdaaDoor
open Go.RowKit

theorem mem_mem (s v : Nat) : v ∈ mem s ↔ v < 6 ∧ s.testBit v = true := by simp [mem]
end Go.Proofs.YtjclfpcnfmpjdaaDoor

/- It is proved what goOn does; conditions: those of each statement. -/
namespace Go.Proofs.YtjclfpcnfmpjdaaDoor
open Go.RowKit Go.Shelf

attribute [local go_sem] Oper.semAt_some

set_option maxRecDepth 100000 in
set_option maxHeartbeats 8000000 in
theorem goOn_any (By Bp Bg Br l m b n₁ N : Nat) (hm : m ≤ 6) (L : Lies By Bp Bg Br l b n₁) (J : List (Value × List Nat) → World → Prop) (hJ : OwnAll n₁ J)
    (hY : ∀ k pre x W1, J pre W1 → OkN m x W1 → pre.length < N → YieldAt Fence.wide k Tryd.prog l #[x.1] W1 fun e W' => e = .returned (.bool true) ∧ J (pre ++ [x]) W' ∧ But (fun k => k = l ∨ k = b) W1 W') :
    ∀ (k s : Nat), s < 64 → (mem s).length = k → (∀ v ∈ mem s, v < m) → ∀ (p : List Nat) (pre : List (Value × List Nat)) (W : World), p.length + k = m → (∀ v ∈ p, v < m) → pre.length + 6 ^ k ≤ N → n₁ ≤ W.heap.size → J pre W → OS By Bp Bg Br l m W p →
    Calls Tryd.prog 106 #[.int .i64 (s : Int), .pointer (some ⟨By, 0, none⟩), .pointer (some ⟨Bp, 0, none⟩), .pointer (some ⟨Bg, 0, none⟩)] W fun e W' => e = .returned (.bool true) ∧
      (∃ xs : List (Value × List Nat), xs.map (·.2) = (permsL k (mem s)).map (p ++ ·) ∧ J (pre ++ xs) W') ∧ OS By Bp Bg Br l m W' p ∧ But (Xg Bp Br l b) W W'
  | 0, s, hs, hk, hsm, p, pre, W, hp, hpv, hN, hn, h0, hO => by
    obtain rfl : s = 0 := mem_none s hs (List.eq_nil_of_length_eq_zero hk)
    refine (goOn0 By Bp Bg Br l m b n₁ N L J hJ hY p (by omega) hpv pre (by simp at hN; omega) W hn h0 hO).mono ?_
    rintro e W' ⟨rfl, ⟨xs, hxs, hj⟩, hO', hb⟩
    exact ⟨rfl, ⟨xs, by rw [hxs]; simp [permsL], hj⟩, hO', hb⟩
  | k + 1, s, hs, hk, hsm, p, pre, W, hp, hpv, hN, hn, h0, hO => by
    have hs0 : ((s : Int) == 0) = false := by
      have : s ≠ 0 := fun e => by subst e; rw [mem_zero] at hk; cases hk
      simp; omega
    have hmx : Tryd.prog.follows .mixedOrders = true := by kernel_rfl
    have h16 : 1 ≤ 6 := by omega
    have hus : (mem s).length ≤ 6 := by omega
    have hO3 := ((hO.alloc (.cells #[.int .i64 (s : Int)] 64)).alloc (.cells #[.bool false] 4)).alloc (.cells #[.int .i64 (s : Int)] 64)
    have hJ3 : J pre (((W.alloc (.cells #[.int .i64 (s : Int)] 64)).alloc (.cells #[.bool false] 4)).alloc (.cells #[.int .i64 (s : Int)] 64)) :=
      hJ _ _ _ none (hJ _ _ _ none (hJ _ _ _ none h0 (World.grownBy_alloc _ _ _) (by simp)) (World.grownBy_alloc _ _ _) (by simp)) (World.grownBy_alloc _ _ _) (by simp)
    have q0 := alloc3_0 W (.cells #[.int .i64 (s : Int)] 64) (.cells #[.bool false] 4) (.cells #[.int .i64 (s : Int)] 64)
    have q1 := alloc3_1 W (.cells #[.int .i64 (s : Int)] 64) (.cells #[.bool false] 4) (.cells #[.int .i64 (s : Int)] 64)
    have q2 := alloc3_2 W (.cells #[.int .i64 (s : Int)] 64) (.cells #[.bool false] 4) (.cells #[.int .i64 (s : Int)] 64)
    have hbt : But (Xg Bp Br l b) W (((W.alloc (.cells #[.int .i64 (s : Int)] 64)).alloc (.cells #[.bool false] 4)).alloc (.cells #[.int .i64 (s : Int)] 64)) := ((But.alloc _ _).trans (But.alloc _ _)).trans (But.alloc _ _)
    have hlt4 : By < W.heap.size ∧ Bp < W.heap.size ∧ Bg < W.heap.size ∧ Br < W.heap.size := ⟨hO.y.lt, hO.q.lt, hO.g.lt, by obtain ⟨_, _, _, h⟩ := hO.r; exact h.lt⟩
    have hx1 : ∀ i, Xg Bp Br l b i → i < W.heap.size := by intro i h; have := L.l2; have := L.b2; unfold Xg at h; omega
    have IH := goOn_any By Bp Bg Br l m b n₁ N hm L J hJ hY k
    clear h0 hO hY
    refine (callsIn_wide (n := 6)).1 ?_
    refine callsIn_of_wp_marks Tryd.func106 rfl trivial ?_ rfl
    simp only [Tryd.ntmps106, List.size_toArray, List.length_cons, List.length_nil, Nat.reduceAdd, Nat.reduceSub, Array.replicate_succ, Array.replicate_zero, List.push_toArray, List.append_toArray, List.nil_append, List.cons_append]
    gi_wp2_with (refine ⟨trivial, ?_⟩; gi_at_call 53; refine (callsIn_wide.2 (members_any _ _)).mono ?_; rintro e w' ⟨rfl, rfl⟩)
    obtain ⟨W0, hW0⟩ : ∃ W0, ((W.alloc (.cells #[.int .i64 (s : Int)] 64)).alloc (.cells #[.bool false] 4)).alloc (.cells #[.int .i64 (s : Int)] 64) = W0 := ⟨_, rfl⟩
    have hso : W0.heap.size = W.heap.size + 1 + 1 + 1 := by rw [← hW0]; simp
    rw [hW0] at hO3 hJ3 q0 q1 q2 hbt ⊢
    have Q0 : Hid (HasBlk W0 W.heap.size #[.int .i64 (s : Int)] 64) := Lib.hid q0
    have Q1 : Hid (HasBlk W0 (W.heap.size + 1) #[.bool false] 4) := Lib.hid q1
    have HJ3 := Lib.hid hJ3
    have HO3 := Lib.hid hO3
    have HSO := Lib.hid hso
    have HBT := Lib.hid hbt
    have HXl := Lib.hid hx1
    have hst := membersS_stops (6 - 1) (by omega) (W.heap.size + 1 + 1) 2 s hs W0 (by omega) (by have := L.l1; have := L.l2; omega) (by omega) ((blk_cell q2 0).trans (cell1_0 _)) hO3.t
    clear hW0 q0 q1 q2 hJ3 hO3 hbt hso hx1
    refine wpIn_rangeFunc_ownG rfl h16 (gf := 88) (lb := #[.pointer (some ⟨W.heap.size + 1 + 1, 0, none⟩)]) rfl trivial (enters_of Tryd.func88 (by kernel_rfl) rfl)
      hst belowK_t (belowK_b (by have := HSO.out; omega)) (Below.refl _ _) (fun _ => rfl)
      (fun ys Wr => (∃ xs : List (Value × List Nat), xs.map (·.2) = (partL k (mem s) (valsS ys)).map (p ++ ·) ∧ J (pre ++ xs) Wr) ∧ OS By Bp Bg Br l m Wr p ∧ But (Xg Bp Br l b) W0 Wr)
      (fun _ _ _ => False)
      ?own
      (fun _ _ _ _ _ hs _ _ => hs)
      ⟨⟨[], rfl, by rw [List.append_nil]; exact HJ3.out⟩, HO3.out, But.refl _ _⟩
      (fun x => { tmps := #[.int .i64 (s : Int), .pointer (some ⟨By, 0, none⟩), .pointer (some ⟨Bp, 0, none⟩), .pointer (some ⟨Bg, 0, none⟩), .pointer (some ⟨W.heap.size, 0, none⟩), .pointer (some ⟨W.heap.size + 1, 0, none⟩), .int .i64 (x.1 : Int), .int .i64 (s : Int), .bool false, undef, undef, undef, .int .i64 (s : Int), .func (.func 88) #[] #[.pointer (some ⟨W.heap.size + 1 + 1, 0, none⟩)], .int .i64 (x.1 : Int), undef, undef, undef, undef, undef, undef, undef, undef, undef, undef, undef, undef, undef, undef, undef], defers := [] }) ?assign ?body ?done ?stop
    case own =>
      rintro ys A B row ⟨⟨xs, hxs, hj⟩, hO, hb⟩ hg hr
      have hr' : ∀ r, row = some r → W0.heap.size ≤ r := fun r e => (hr r e).1
      have hs0 := HSO.out
      refine ⟨⟨xs, hxs, hJ _ _ _ row hj hg (fun r e => by have := hr' r e; omega)⟩, hO.grown hg (fun r e => by have := hr' r e; have := L.l1; have := L.l2; omega), ?_⟩
      exact ⟨hg.os.trans hb.os, hg.tape.trans hb.tape, hg.output.trans hb.output, Nat.le_trans hb.size hg.size, fun i hi hX => (hg.block i (Nat.lt_of_lt_of_le hi hb.size) (fun e => by have := hr' i e.symm; omega)).trans (hb.same i hi hX)⟩
    case assign =>
      intro l1 x Wr K hK
      gi_wp2
      exact hK
    case body =>
      rintro l1 ys x Wr ⟨⟨xs, hxs, hj⟩, hO, hb⟩ hlt
      obtain ⟨v, hv⟩ := x
      have hv6 : v < 6 := by
        have := (mem_mem s v).1 hv
        omega
      have hpm : p.length < m := by omega
      obtain ⟨E, hE, hOE, hbE, hsE⟩ := put_name L hO hpm v
      have hgE : J (pre ++ xs) E := by
        rw [← hE]
        have a0 := hJ _ _ _ none hj (World.grownBy_alloc _ (.cells #[.int .i64 (v : Int)] 3) none) (by simp)
        have a1 := hJ _ _ _ (some Br) a0 (only_setCell (p := ⟨Br, p.length, none⟩) (World.grownBy.refl _ _) rfl (.int .i64 (v : Int))) (fun r e => by injection e with e; rw [← e]; exact L.r)
        exact hJ _ _ _ (some Bp) a1 (only_setCell (p := ⟨Bp, 0, none⟩) (World.grownBy.refl _ _) rfl (.slice (some ⟨Br, 0, none⟩) (p.length + 1) m)) (fun r e => by injection e with e; rw [← e]; exact L.p)
      have cp := hO.q.cell
      have fp := (hO.q.alloc (.cells #[.int .i64 (v : Int)] 3)).frozen
      have cp' := (hO.q.alloc (.cells #[.int .i64 (v : Int)] 3)).cell
      have hprne : ¬ (Bp = Br) := L.pr
      obtain ⟨R, hR1, hR2, hR3⟩ := hO.r
      have cr := hR3.cell p.length (by omega)
      have fr := (hR3.alloc (.cells #[.int .i64 (v : Int)] 3)).frozen p.length
      have cr' := (hR3.alloc (.cells #[.int .i64 (v : Int)] 3)).cell p.length (by omega)
      have cl0 := (blk_cell (show HasBlk Wr W.heap.size #[.int .i64 (s : Int)] 64 from hb.keep (fun e => by have := HXl.out _ e; omega) Q0.out) 0).trans (cell1_0 _)
      have clE := (blk_cell (show HasBlk E W.heap.size #[.int .i64 (s : Int)] 64 from hbE.keep (fun e => by have := HXl.out _ e; omega) (hb.keep (fun e => by have := HXl.out _ e; omega) Q0.out)) 0).trans (cell1_0 _)
      have cgE := hOE.g.cell
      have hxl : xs.length ≤ ys.length * 6 ^ k := by
        have h1 := congrArg List.length hxs
        rw [List.length_map, List.length_map] at h1
        have h2 := partL_count k (mem s) (valsS ys) hus
        rw [show (valsS ys).length = ys.length from by simp [valsS]] at h2
        omega
      have hpn : (pre ++ xs).length + 6 ^ k ≤ N := by
        rw [List.length_append]
        have h1 : ys.length * 6 ^ k + 6 ^ k ≤ 6 * 6 ^ k := by
          rw [← Nat.succ_mul]; exact Nat.mul_le_mul_right _ hlt
        rw [Nat.pow_succ, Nat.mul_comm (6 ^ k) 6] at hN
        omega
      have hwm : mem (woP s v) = (mem s).erase v := wo_mem s v hs hv6
      have IHc := IH (woP s v) (by have := wo_le s v; omega) (by rw [hwm, List.length_erase_of_mem hv]; omega) (fun u hu => hsm u (List.mem_of_mem_erase (by rw [hwm] at hu; exact hu))) (p ++ [v]) (pre ++ xs) E.drew (by simp; omega) (fun u hu => by rcases List.mem_append.1 hu with h | h; exact hpv u h; simp at h; rw [h]; exact hsm v hv) hpn (show n₁ ≤ E.heap.size by have := HSO.out; have := hb.size; omega) (hJ _ _ _ none hgE ⟨rfl, rfl, rfl, Nat.le_refl _, fun _ _ _ => rfl⟩ (by simp)) hOE.drew
      rw [hwm] at IHc
      obtain ⟨pl, hpl⟩ : ∃ pl, pl = p.length := ⟨_, rfl⟩
      have HPL := Lib.hid hpl
      have hplm : pl < m := by omega
      have hplI : (pl : Int) < (m : Int) := by omega
      have HO := Lib.hid hO
      have HB := Lib.hid hb
      have HXS := Lib.hid hxs
      have HBE := Lib.hid hbE
      have HW1 : Hid (∀ (W4 : World), OS By Bp Bg Br l m W4 (p ++ [v]) → OS By Bp Bg Br l m (W4.setCell ⟨Bp, 0, none⟩ (.slice (some ⟨Br, 0, none⟩) pl m)) p ∧ But (Xg Bp Br l b) W4 (W4.setCell ⟨Bp, 0, none⟩ (.slice (some ⟨Br, 0, none⟩) pl m))) := Lib.hid (fun W4 h => by rw [hpl]; exact off_name L h)
      rw [← hpl] at hE cp cr fr cr' cp'
      clear hO hb hxs hbE hR1 hR2 hR3 hj hgE hOE hxl hpn hwm hpl hpm hp
      gi_wp2
      refine wpIn_region_still_tail_o (Fence.Open.wide.inRound l1) 4 hmx (by kernel_rfl) (by kernel_rfl) ?_
      simp only [List.take_succ_cons, List.take_zero, List.drop_succ_cons, List.drop_zero]
      repeat still_step
      still_call ((without_any s v hs hv6 _).mono fun _ _ h => ⟨h.1, h.2.symm⟩)
      repeat still_step
      refine wpStill_nil ?_
      change wpListIn _ _ _ _ _ _ _ E.drew
      gi_wp2_with (refine ⟨trivial, ?_⟩; gi_at_call 106; refine (CallsIn.inRound l1 (callsIn_wide.2 IHc)).mono ?_; rintro e W4 ⟨rfl, ⟨xs2, hxs2, hj2⟩, hO4, hb4⟩; have c4 := hO4.q.cell; have f4 := hO4.q.frozen; rw [show (p ++ [v]).length = pl + 1 from by rw [List.length_append, HPL.out]; rfl] at c4; have HJ2 := Lib.hid hj2; have HO4 := Lib.hid hO4; have HB4 := Lib.hid hb4; have HXS2 := Lib.hid hxs2; clear hj2 hO4 hb4 hxs2)
      obtain ⟨hO5, hb5⟩ := HW1.out W4 HO4.out
      have hbt5 := (HBE.out.trans (But.drew E)).trans (HB4.out.trans hb5)
      have hs0 := HSO.out
      refine ⟨hbt5.from (fun i o hB hi hX => by have := HXl.out i hX; omega), hbt5.below (B := 2) (by have := HB.out.size; omega) (fun i hX => L.x1 i hX), ⟨xs ++ xs2, ?_, ?_⟩, hO5, HB.out.trans hbt5⟩
      · rw [valsS_snoc, partL_snoc, List.map_append, List.map_append, HXS.out, HXS2.out, List.map_map]
        congr 1
        apply List.map_congr_left
        intro z _
        simp
      · rw [← List.append_assoc]
        exact hJ _ _ _ (some Bp) HJ2.out (only_setCell (p := ⟨Bp, 0, none⟩) (World.grownBy.refl _ _) rfl _) (fun r e => by injection e with e; rw [← e]; exact L.p)
    case done =>
      rintro D ys Wr hD hys ⟨⟨xs, hxs, hj⟩, hO, hb⟩ hK
      rw [hys] at hxs
      have qr : HasBlk Wr (W.heap.size + 1) #[.bool false] 4 := hb.keep (fun e => by have := HXl.out _ e; omega) Q1.out
      have c3 := (blk_cell qr 0).trans (cell1_0 _)
      have f3 := blk_frozen qr 0
      have hs0 := HSO.out
      have hK1 : (Wr.setCell ⟨W.heap.size + 1, 0, none⟩ (.bool true)).heap[D]? = some (.deferred (some [])) := (Below.heap_setCell Wr ⟨W.heap.size + 1, 0, none⟩ (.bool true) D (show D ≠ W.heap.size + 1 by omega)).trans hK
      have hDl : D < Wr.heap.size := lt_of_some hK
      have hL1 := L.l1
      have hL2 := L.l2
      have hO5 : OS By Bp Bg Br l m ((Wr.setCell ⟨W.heap.size + 1, 0, none⟩ (.bool true)).putObj D (.deferred none)) p := OS.grown (hO.far (B := W.heap.size + 1) (by omega) (by omega) (by omega) (by omega) (by omega) (.bool true)) (grownBy_putObj' _ D _) (fun r e => by injection e; omega)
      have hJ5 : J (pre ++ xs) ((Wr.setCell ⟨W.heap.size + 1, 0, none⟩ (.bool true)).putObj D (.deferred none)) :=
        hJ _ _ _ (some D) (hJ _ _ _ (some (W.heap.size + 1)) hj (only_setCell (p := ⟨W.heap.size + 1, 0, none⟩) (World.grownBy.refl _ _) rfl _) (fun r e => by injection e; omega)) (grownBy_putObj' _ D _) (fun r e => by injection e; omega)
      have qr5 : HasBlk ((Wr.setCell ⟨W.heap.size + 1, 0, none⟩ (.bool true)).putObj D (.deferred none)) (W.heap.size + 1) #[.bool true] 4 := (World.putObj_heap_other (by omega)).trans ((show Boxed Wr (W.heap.size + 1) 4 (.bool false) from qr).set (.bool true))
      have c5 := (blk_cell qr5 0).trans (cell1_0 _)
      have HB5 : Hid (But (Xg Bp Br l b) W ((Wr.setCell ⟨W.heap.size + 1, 0, none⟩ (.bool true)).putObj D (.deferred none))) := Lib.hid (by
        have h1 := HBT.out.trans hb
        exact ⟨h1.os, h1.tape, h1.output, by have := h1.size; simpa using this, fun i hi hX => (World.putObj_heap_other (by omega)).trans ((Below.heap_setCell Wr ⟨W.heap.size + 1, 0, none⟩ _ i (show i ≠ W.heap.size + 1 by omega)).trans (h1.same i hi hX))⟩)
      have HO5 := Lib.hid hO5
      have HJ5 := Lib.hid hJ5
      have HXS := Lib.hid hxs
      clear hO hb hO5 hJ5 hj hxs hK qr qr5
      gi_wp2
      refine ⟨by simp, .inl ⟨_, _, rfl, run_takeDeferred hK1, ?_⟩⟩
      refine ⟨.bool true, by simp [results, Tryd.results106, go_sem, c5], rfl, ⟨xs, ?_, HJ5.out⟩, HO5.out, HB5.out⟩
      rw [HXS.out]
      rfl
    case stop =>
      rintro D c pre W _ _ h _
      exact h.elim

end Go.Proofs.YtjclfpcnfmpjdaaDoor

/- It is proved what FamilyCommon of the program and of the model return; conditions: those of each statement. -/
namespace Go.Proofs.YtjclfpcnfmpjdaaDoor
open Go.RowKit Go.Shelf

attribute [local go_sem] Oper.semAt_some

def andAll (m : Int) (zs : List Int) : Int := zs.foldl (fun s z => bits .and .i64 s z) (fullI m)
def famCommon (m : Int) (zs : List Int) : Int := if famIn m zs then andAll m zs else 0
theorem full_any (m : Int) (a : Option Addr) (n cap : Nat) (w : World) (h1 : 1 ≤ m) (h2 : m ≤ 6) :
    Calls Tryd.prog 56 #[.agg #[.int .i64 m, .slice a n cap]] w fun e w' => e = .returned (.int .i64 (fullI m)) ∧ w' = w.alloc (.cells #[.int .i64 m, .slice a n cap] 25) := by
  rcases m16 h1 h2 with rfl | rfl | rfl | rfl | rfl | rfl
  all_goals
    go_enter Tryd.func56, Tryd.ntmps56
    go_wp2
    go_ret
    exact ⟨rfl, rfl⟩

end Go.Proofs.YtjclfpcnfmpjdaaDoor

/- It is proved what allNames yields; conditions: those of each statement. -/
namespace Go.Proofs.YtjclfpcnfmpjdaaDoor
open Go.RowKit Go.Shelf

set_option maxRecDepth 100000 in
theorem mem_full_fin : ∀ m : Fin 7, mem (2 ^ m.val - 1) = List.range m.val := by decide +kernel

theorem mem_fullR (m : Nat) (hm : m ≤ 6) : mem (2 ^ m - 1) = List.range m := mem_full_fin ⟨m, by omega⟩
theorem full_nat (m : Nat) : fullI (m : Int) = ((2 ^ m - 1 : Nat) : Int) := by
  have h1 : 1 ≤ 2 ^ m := Nat.one_le_two_pow
  have : ((2 ^ m - 1 : Nat) : Int) = ((2 ^ m : Nat) : Int) - 1 := by omega
  rw [this]; simp [fullI]

theorem run_make0 (m : Nat) (hm : m ≤ 6) (w : World) : (Instr.makeSlice 23 (.int .i64 0) (.int .i64 (m : Int))).run Tryd.prog w = .ok (.slice (some ⟨w.heap.size, 0, none⟩) 0 m) (w.alloc (.cells (iv (List.replicate m 0)) 3)) := by
  obtain ⟨i0, hi0, hz0, hz1, hz2⟩ := info_parts Tryd.info3
  have := run_make (P := Tryd.prog) w 23 3 i0 (.int .i64 0) Tryd.underlying23 hi0 hz0 .i64 .i64 0 (m : Int) (Int.le_refl _) (by omega) (by rw [hz2]; omega) (by omega)
  rw [this, hz1]
  have e : madeCells (Value.int .i64 0).cells ((m : Int).toNat * 1) = iv (List.replicate m 0) := by
    apply Array.toList_inj.1
    rw [show (Value.int .i64 0).cells = #[Value.int .i64 0] from rfl, toList_madeCells_one]; simp [iv]
  rw [e]; rfl

theorem store_new (w : World) (n : Nat) (hn : n = w.heap.size) (u v : Value) (t : TypeId) (hv : v.oneCell' = true) : (store ⟨n, 0, none⟩ v).run Tryd.prog (w.alloc (.cells #[u] t)) = .ok () (w.alloc (.cells #[v] t)) := by
  subst hn
  have q : Boxed (w.alloc (.cells #[u] t)) w.heap.size t u := Boxed.new w t u
  rw [run_store _ _ _ _ _ hv, q.cell]
  simp only [q.frozen]
  rw [World.setCell_alloc_new]
  rfl

set_option maxRecDepth 100000 in
set_option maxHeartbeats 4000000 in
theorem allNames1_in (m b n : Nat) (hm0 : 1 ≤ m) (hm : m ≤ 6) (hb1 : 1 < b) (Bm : Nat) (w : World) (hBm : Bm < w.heap.size) (hc : w.cell? ⟨Bm, 0, none⟩ = some (.int .i64 (m : Int))) (hT : Tab w) :
    SeqCells n Tryd.prog 105 #[.pointer (some ⟨Bm, 0, none⟩)] (fun x : Value × List Nat => #[x.1]) b (OkN m) (fun xs => xs.map (·.2) = permsL m (List.range m)) (6 ^ m) w := by
  intro l J W hW hl1 hl2 hb2 hJ hY h0
  refine callsIn_wide.2 ?_
  have hT1 := hT.lt
  have hTW : Tab W := hT.below hW (by omega)
  have hcW := (hW.cell (p := ⟨Bm, 0, none⟩) hBm).trans hc
  have hBW : Bm < W.heap.size := Nat.lt_of_lt_of_le hBm hW.size
  have hmk := run_make0 m hm
  have hlen : (mem (2 ^ m - 1)).length = m := by rw [mem_fullR m hm, List.length_range]
  have h63 : 2 ^ m - 1 < 64 := by have := Nat.pow_le_pow_right (n := 2) (by decide) hm; omega
  obtain ⟨W4, hW4, q0, q1, q2, q3, hs4, hb4⟩ : ∃ W4, (((W.alloc (.cells #[.func (.yield l) #[] #[]] 122)).alloc (.cells (iv (List.replicate m 0)) 3)).alloc (.cells #[.slice (some ⟨W.heap.size + 1, 0, none⟩) 0 m] 23)).alloc (.cells #[.func (.func 106) #[] #[.pointer (some ⟨W.heap.size, 0, none⟩), .pointer (some ⟨W.heap.size + 1 + 1, 0, none⟩), .pointer (some ⟨W.heap.size + 1 + 1 + 1, 0, none⟩)]] 123) = W4 ∧
      HasBlk W4 W.heap.size #[.func (.yield l) #[] #[]] 122 ∧ Nums W4 (W.heap.size + 1) 3 (List.replicate m 0) ∧ HasBlk W4 (W.heap.size + 1 + 1) #[.slice (some ⟨W.heap.size + 1, 0, none⟩) 0 m] 23 ∧
      HasBlk W4 (W.heap.size + 1 + 1 + 1) #[.func (.func 106) #[] #[.pointer (some ⟨W.heap.size, 0, none⟩), .pointer (some ⟨W.heap.size + 1 + 1, 0, none⟩), .pointer (some ⟨W.heap.size + 1 + 1 + 1, 0, none⟩)]] 123 ∧ W4.heap.size = W.heap.size + 1 + 1 + 1 + 1 ∧ Below W.heap.size W W4 := by
    refine ⟨_, rfl, ?_, ?_, ?_, ?_, by simp, (below3 W _ _ _).alloc (by simp; omega) _⟩
    · exact (alloc_old _ _ _ (by simp <;> omega)).trans (alloc3_0 W _ _ _)
    · exact (alloc_old _ _ _ (by simp <;> omega)).trans (alloc3_1 W _ _ _)
    · exact (alloc_old _ _ _ (by simp <;> omega)).trans (alloc3_2 W _ _ _)
    · unfold HasBlk
      rw [show W.heap.size + 1 + 1 + 1 = (((W.alloc (.cells #[.func (.yield l) #[] #[]] 122)).alloc (.cells (iv (List.replicate m 0)) 3)).alloc (.cells #[.slice (some ⟨W.heap.size + 1, 0, none⟩) 0 m] 23)).heap.size from by simp]
      exact alloc_new _ _
  have hJ4 : J [] W4 := by
    rw [← hW4]
    exact hJ _ _ _ none (hJ _ _ _ none (hJ _ _ _ none (hJ _ _ _ none h0 (World.grownBy_alloc _ _ _) (by simp)) (World.grownBy_alloc _ _ _) (by simp)) (World.grownBy_alloc _ _ _) (by simp)) (World.grownBy_alloc _ _ _) (by simp)
  have hO4 : OS W.heap.size (W.heap.size + 1 + 1) (W.heap.size + 1 + 1 + 1) (W.heap.size + 1) l m W4 [] := ⟨q0, q3, q2, ⟨List.replicate m 0, by simp, by simp [nI], q1⟩, hTW.below hb4 hTW.lt⟩
  have LL : Lies W.heap.size (W.heap.size + 1 + 1) (W.heap.size + 1 + 1 + 1) (W.heap.size + 1) l b W.heap.size :=
    ⟨by omega, hl2, hb1, hb2, by omega, by omega, by omega, by omega, by omega, by omega, by omega, by omega, by omega⟩
  have IH := goOn_any W.heap.size (W.heap.size + 1 + 1) (W.heap.size + 1 + 1 + 1) (W.heap.size + 1) l m b W.heap.size (6 ^ m) hm LL J hJ (fun k pre x W1 h1 h2 h3 => yield_any k (hY pre x W1 h1 h2 h3)) m (2 ^ m - 1) h63 hlen (fun v hv => by rw [mem_fullR m hm] at hv; simpa using hv) [] []
  have cg := q3
  have cgc := (blk_cell q3 0).trans (cell1_0 _)
  have cm : W4.cell? ⟨Bm, 0, none⟩ = some (.int .i64 (m : Int)) := (hb4.cell (p := ⟨Bm, 0, none⟩) hBW).trans hcW
  rw [mem_fullR m hm] at IH
  have HIH := Lib.hid IH
  have HJ4 := Lib.hid hJ4
  have HO4 := Lib.hid hO4
  have HJ5 : Hid (J [] (W4.drew.alloc (.cells #[.int .i64 (m : Int), .slice none 0 0] 25))) := Lib.hid (hJ _ _ _ none (show J [] W4.drew from hJ _ _ _ none hJ4 (show W4.grownBy W4.drew none from ⟨rfl, rfl, rfl, Nat.le_refl _, fun _ _ _ => rfl⟩) (by simp)) (World.grownBy_alloc _ _ _) (by simp))
  have HO5 := Lib.hid (hO4.drew.alloc (.cells #[.int .i64 (m : Int), .slice none 0 0] 25))
  have HF := Lib.hid (full_nat m)
  have hm1I : 1 ≤ (m : Int) := by omega
  have hm6I : (m : Int) ≤ 6 := by omega
  have HS4 := Lib.hid hs4
  have hB4 : Bm < W4.heap.size := by omega
  clear IH hJ4 hO4 hY h0 hJ q0 q1 q2 q3 hb4 LL hlen hs4 cg hTW hW
  go_enter Tryd.func105, Tryd.ntmps105
  have hst := store_new (((W.alloc (.cells #[.func (.yield l) #[] #[]] 122)).alloc (.cells (iv (List.replicate m 0)) 3)).alloc (.cells #[.slice (some ⟨W.heap.size + 1, 0, none⟩) 0 m] 23)) (W.heap.size + 1 + 1 + 1) (by simp) .nilFunc (.func (.func 106) #[] #[.pointer (some ⟨W.heap.size, 0, none⟩), .pointer (some ⟨W.heap.size + 1 + 1, 0, none⟩), .pointer (some ⟨W.heap.size + 1 + 1 + 1, 0, none⟩)]) 123 rfl
  rw [hW4] at hst
  go_wp2
  have hg4 : W.heap.size + 1 + 1 + 1 < W4.heap.size := by have := HS4.out; omega
  clear hst hW4 hmk
  go_region_with (first
    | (go_at_call 56; refine (full_any _ _ _ _ _ hm1I hm6I).mono ?_; rintro e w' ⟨rfl, rfl⟩; rw [HF.out])
    | (go_at_call 106; refine (HIH.out _ (by simp) (by simp) (by simp) (show W.heap.size ≤ (W4.drew.alloc (.cells #[.int .i64 (m : Int), .slice none 0 0] 25)).heap.size by simp; omega) HJ5.out HO5.out).mono ?_; rintro e w' ⟨rfl, ⟨xs, hxs, hj⟩, -, -⟩))
  all_goals
    go_wp2
    go_end0
    exact ⟨⟨_, rfl⟩, xs, by rw [hxs]; simp, hj⟩

end Go.Proofs.YtjclfpcnfmpjdaaDoor

/- It is proved how a map from lists of clubs to namings is read; conditions: those of each statement. -/
namespace Go.Proofs.YtjclfpcnfmpjdaaDoor
open Go.RowKit Go.Shelf

/-! ### how an element reads -/
def cellI : Value → Option Int
  | .int .i64 x => some x
  | _ => none

def intsD (xs : List Int) : DataW Unit := .agg (xs.map fun x => .lit (.int .i64 x))
theorem intsD_inj {xs ys : List Int} (h : intsD xs = intsD ys) : xs = ys := by
  unfold intsD at h
  injection h with h
  exact (List.map_inj_right (fun a b e => by injection e with e; injection e)).1 h

def rowR (v : Value) : Option (DataW Unit × List MemPlace) :=
  match v with
  | .agg cs => (cs.toList.mapM cellI).map fun xs => (intsD xs, [])
  | _ => none

theorem mapM_cellI : ∀ xs : List Int, (xs.map (Value.int .i64)).mapM cellI = some xs
  | [] => rfl
  | x :: xs => by simp [List.mapM_cons, cellI, mapM_cellI xs]

theorem mapM_inv : ∀ (cs : List Value) (xs : List Int), cs.mapM cellI = some xs → cs = xs.map (Value.int .i64)
  | [], xs, h => by simp at h; simp [← h]
  | c :: cs, xs, h => by
    simp only [List.mapM_cons, Option.bind_eq_bind, Option.pure_def, Option.bind_eq_some_iff] at h
    obtain ⟨x, hx, ys, hy, e⟩ := h
    injection e with e
    subst e
    rw [List.map_cons, mapM_inv cs ys hy]
    unfold cellI at hx
    split at hx
    · injection hx with hx; rw [hx]
    · cases hx

theorem rowR_mk (xs : List Int) : rowR (.agg (iv xs)) = some (intsD xs, []) := by
  show ((xs.map (Value.int .i64)).mapM cellI).map (fun xs => (intsD xs, [])) = _
  rw [mapM_cellI]; rfl

theorem rowR_inv {v : Value} {xs : List Int} {ps : List MemPlace} (h : rowR v = some (intsD xs, ps)) : v = .agg (iv xs) := by
  unfold rowR at h
  split at h
  · rename_i cs
    cases hm : cs.toList.mapM cellI with
    | none => rw [hm] at h; cases h
    | some ys =>
      rw [hm] at h
      simp only [Option.map_some, Option.some.injEq, Prod.mk.injEq] at h
      have e := intsD_inj h.1
      subst e
      have := mapM_inv _ _ hm
      congr 1
      apply Array.toList_inj.1
      rw [this]; simp [iv]
  · cases h

/-! ### how a key reads -/
theorem Tryd.laidOutM : laidOutB Tryd.prog = true := by kernel_rfl
theorem keyLaw : Maps.Keyed Tryd.prog 57 := Maps.Keyed.of_law (deep_law_laid Tryd.laidOutM (m := 2) (by omega) (of_decide_eq_true (by kernel_rfl)) (by kernel_rfl) (by kernel_rfl))
/-- A number that an int may be. -/
def wfI (x : Int) : Prop := (Lit.int .i64 x).wf = true

theorem key_some {L : List Int} (hl : L.length = 8) (hw : ∀ x ∈ L, wfI x) : ∃ l, keyOf Tryd.prog 57 (.agg (iv L)) = some l := by
  obtain ⟨x0, x1, x2, x3, x4, x5, x6, x7, rfl⟩ : ∃ x0 x1 x2 x3 x4 x5 x6 x7 : Int, L = [x0, x1, x2, x3, x4, x5, x6, x7] := by
    match L, hl with
    | [x0, x1, x2, x3, x4, x5, x6, x7], _ => exact ⟨_, _, _, _, _, _, _, _, rfl⟩
  have w0 := hw x0 (by simp)
  have w1 := hw x1 (by simp)
  have w2 := hw x2 (by simp)
  have w3 := hw x3 (by simp)
  have w4 := hw x4 (by simp)
  have w5 := hw x5 (by simp)
  have w6 := hw x6 (by simp)
  have w7 := hw x7 (by simp)
  unfold wfI at w0 w1 w2 w3 w4 w5 w6 w7
  have ht : Tryd.prog.keyType 57 = true := by kernel_rfl
  have hc : Tryd.prog.cellsOf 57 = 8 := by kernel_rfl
  have hc3 : Tryd.prog.cellsOf 3 = 1 := by kernel_rfl
  obtain ⟨d, hd⟩ : ∃ d, Tryd.prog.types.size + 1 = d + 2 := ⟨Tryd.prog.types.size - 1, by have : 1 ≤ Tryd.prog.types.size := of_decide_eq_true (by kernel_rfl); omega⟩
  have k3 : ∀ x : Int, (Lit.int .i64 x).wf = true → Tryd.prog.keyLits (d + 1) 3 [.int .i64 x] = some [.int .i64 x] := by
    intro x hx
    simp [Program.keyLits, Tryd.underlying3, hx]
  refine ⟨.string (keyBytes [.int .i64 x0, .int .i64 x1, .int .i64 x2, .int .i64 x3, .int .i64 x4, .int .i64 x5, .int .i64 x6, .int .i64 x7]), ?_⟩
  unfold keyOf
  simp only [Tryd.underlying57, ht, Value.formed, hc, hd]
  simp [iv, Program.keyLits, Tryd.underlying57, hc, hc3, List.range_succ, k3, w0, w1, w2, w3, w4, w5, w6, w7, Value.cells]
  done

end Go.Proofs.YtjclfpcnfmpjdaaDoor
