/- It is proved what szIntS, szFamily and toIntS return; conditions: the bounds in each statement. -/
import Derived.Test.YtnpfdgbbcapnkaaDoorRows
import Derived.WalkKit
import Derived.WalkSpells
import Derived.ProofKit
import Derived.OpenShut
import Derived.ShutString
import Derived.ChangeOld
import Derived.Below
import Derived.Deep.RegionHeld3
import Derived.Deep.QuietTactic
import Derived.BigQuiet
import Derived.Lib.Hide
import Derived.Lib.SmallJoins
import Derived.Outline
import Derived.Laws.MakeOwn
import Derived.Laws.OwnMore
import Derived.IntWalk
import Derived.Deep.AppendLies
import Derived.RangeFuncNested
import Derived.RangeFuncBound
import Derived.RangeFuncCalls
import Derived.RangeFuncLeaves
import Derived.RangeFuncBox
import Derived.Shelf.Abstract
import Derived.Shelf.RegionOpen
import Derived.OwnWalkIn
import Derived.TacticsInMore
import Derived.LoopNIn
import Derived.LoopIn
import Derived.Maps.AppendAt
import Derived.OwnWalk
namespace Go.Proofs.YtnpfdgbbcapnkaaDoor
open Go.RowKit

/-- What a slice value's address holds: the ints zs, in a block below B (where there is an int). -/
def Ints (w : World) (B : Nat) (a : Option Addr) (zs : List Int) : Prop :=
  zs = [] ∨ ∃ b off, a = some ⟨b, off, none⟩ ∧ b < B ∧ ∀ j, j < zs.length → w.cell? ⟨b, off + j, none⟩ = some (.int .i64 (zs[j]?.getD 0))

theorem Ints.below {w w' : World} {B : Nat} {a : Option Addr} {zs : List Int} (h : Ints w B a zs) (hb : Below B w w') : Ints w' B a zs := by
  rcases h with h | ⟨b, off, e, hB, hc⟩
  · exact .inl h
  · exact .inr ⟨b, off, e, hB, fun j hj => (hb.cell (p := ⟨b, off + j, none⟩) hB).trans (hc j hj)⟩

theorem Ints.mono {w : World} {B B' : Nat} {a : Option Addr} {zs : List Int} (h : Ints w B a zs) (hB : B ≤ B') : Ints w B' a zs := by
  rcases h with h | ⟨b, off, e, hb, hc⟩
  · exact .inl h
  · exact .inr ⟨b, off, e, by omega, hc⟩

/-- A slice value of the call's own: it owns the ints zs, in a block from B on (or it is nil and zs is empty). -/
def OwnI (w : World) (B : Nat) (v : Value) (zs : List Int) : Prop := w.ownsRow B 3 1 v zs.length (zs.map (Value.int .i64))

theorem Tryd.info3 : (Tryd.prog.info? 3).map (fun i => (i.zero, i.size, i.bytes)) = some (some (.int .i64 0), 1, 8) := by kernel_rfl
def RetInts (w : World) (zs : List Int) (e : Ending) (w' : World) : Prop :=
  ∃ a cap, e = .returned (.slice a zs.length cap) ∧ OwnI w' w.heap.size (.slice a zs.length cap) zs ∧ Below w.heap.size w w'

theorem copied_start (zs : List Int) : (madeCells (Value.int .i64 0).cells (zs.length * 1)).toList = (List.replicate zs.length (0 : Int)).map (Value.int .i64) := by
  rw [show (Value.int .i64 0).cells = #[Value.int .i64 0] from rfl, toList_madeCells_one]; simp

theorem copied_step (zs : List Int) (k : Nat) (h : k < zs.length) :
    ((zs.take k ++ List.replicate (zs.length - k) 0).map (Value.int .i64)).set k (.int .i64 (zs[k]?.getD 0)) = (zs.take (k + 1) ++ List.replicate (zs.length - (k + 1)) 0).map (Value.int .i64) := by
  rw [← List.map_set]
  congr 1
  have hl : (zs.take k).length = k := by rw [List.length_take]; omega
  rw [List.set_append_right _ _ (by omega), hl, Nat.sub_self]
  rw [show zs.length - k = (zs.length - (k + 1)) + 1 from by omega, List.replicate_succ, List.set_cons_zero]
  rw [List.take_succ_eq_append_getElem h, List.append_assoc]
  simp [h]

theorem copied_at (zs : List Int) (n k : Nat) (hn : n ≤ zs.length) (h : k < n) :
    ((zs.take k ++ List.replicate (n - k) 0).map (Value.int .i64))[k]? = some (.int .i64 0) := by
  have hl : (zs.take k).length = k := by rw [List.length_take]; omega
  rw [List.getElem?_map, List.getElem?_append_right (by omega), hl, Nat.sub_self, List.getElem?_replicate, if_pos (by omega)]; rfl

end Go.Proofs.YtnpfdgbbcapnkaaDoor

/- It is proved what toFamily returns; conditions: the bounds in each statement. -/
namespace Go.Proofs.YtnpfdgbbcapnkaaDoor
open Go.RowKit

theorem bcell {W w1 : World} (hb : Below W.heap.size W w1) : (∀ b o, b < W.heap.size → w1.cell? ⟨b, o, none⟩ = W.cell? ⟨b, o, none⟩) ∧ (∀ b o, b < W.heap.size → w1.frozen? ⟨b, o, none⟩ = W.frozen? ⟨b, o, none⟩) :=
  ⟨fun b o h => hb.cell (p := ⟨b, o, none⟩) h, fun b o h => hb.frozen (p := ⟨b, o, none⟩) h⟩

theorem own_mono {w : World} {B B' : Nat} {v : Value} {zs : List Int} (h : OwnI w B v zs) (hB : B' ≤ B) : OwnI w B' v zs := by
  refine ⟨h.1, ?_⟩
  rcases h.2 with h2 | ⟨g, cap, cur, e, hb, r⟩
  · exact .inl h2
  · exact .inr ⟨g, cap, cur, e, by omega, r⟩

theorem blk_cell {w : World} {g : Nat} {t : TypeId} {cs : Array Value} (h : w.heap[g]? = some (.cells cs t (0, 0))) (i : Nat) : w.cell? ⟨g, i, none⟩ = cs[i]? := cell_of_row w g i cs t (0, 0) h
theorem blk_frozen {w : World} {g : Nat} {t : TypeId} {cs : Array Value} (h : w.heap[g]? = some (.cells cs t (0, 0))) (i : Nat) : w.frozen? ⟨g, i, none⟩ = false := by simp [World.frozen?, h]
theorem alloc_new (w : World) (o : Obj) : (w.alloc o).heap[w.heap.size]? = some o := heap_alloc_new w o
theorem alloc_old (w : World) (o : Obj) (k : Nat) (h : k < w.heap.size) : (w.alloc o).heap[k]? = w.heap[k]? := Below.heap_alloc w o k h
theorem alloc3_0 (w : World) (o p q : Obj) : (((w.alloc o).alloc p).alloc q).heap[w.heap.size]? = some o := by
  rw [alloc_old _ _ _ (by simp; omega), alloc_old _ _ _ (by simp), alloc_new]

theorem alloc3_1 (w : World) (o p q : Obj) : (((w.alloc o).alloc p).alloc q).heap[w.heap.size + 1]? = some p := by
  rw [alloc_old _ _ _ (by simp), show w.heap.size + 1 = (w.alloc o).heap.size from by simp, alloc_new]

theorem alloc3_2 (w : World) (o p q : Obj) : (((w.alloc o).alloc p).alloc q).heap[w.heap.size + 1 + 1]? = some q := by
  rw [show w.heap.size + 1 + 1 = ((w.alloc o).alloc p).heap.size from by simp, alloc_new]

theorem below3 (w : World) (o p q : Obj) : Below w.heap.size w (((w.alloc o).alloc p).alloc q) :=
  ((((Below.refl _ w).alloc (Nat.le_refl _) o).alloc (by simp) p).alloc (by simp; omega) q)

def RetFam (w : World) (m : Int) (zs : List Int) (e : Ending) (w' : World) : Prop :=
  ∃ a cap, e = .returned (.agg #[.int .i64 m, .slice a zs.length cap]) ∧ OwnI w' w.heap.size (.slice a zs.length cap) zs ∧ Below w.heap.size w w'

end Go.Proofs.YtnpfdgbbcapnkaaDoor

/- It is proved what markIntS, markFamily, heldIntS and heldFamily return and write; conditions: the bounds in each statement. -/
namespace Go.Proofs.YtnpfdgbbcapnkaaDoor
open Go.RowKit

/-- 1, 2, .., n. -/
def marks (n : Nat) : List Int := (List.range n).map fun (i : Nat) => ((i : Int) + 1)

theorem marks_length (n : Nat) : (marks n).length = n := by simp [marks]
theorem marks_succ (n : Nat) : marks (n + 1) = marks n ++ [(n : Int) + 1] := by simp [marks, List.range_succ]
theorem marks_at (n k : Nat) (h : k < n) : (marks n)[k]?.getD 0 = (k : Int) + 1 := by simp [marks, h]
theorem only_setCell {a w : World} {g : Nat} (h : a.grownBy w (some g)) {p : Addr} (hp : p.block = g) (u : Value) : a.grownBy (w.setCell p u) (some g) :=
  ⟨h.os, h.tape, h.output, by simpa [World.setCell] using h.size, fun i hi hne => (Below.heap_setCell w p u i (by rintro rfl; exact hne (by rw [hp]))).trans (h.block i hi hne)⟩

theorem only_alloc {a w : World} {row : Option Nat} (h : a.grownBy w row) (o : Obj) : a.grownBy (w.alloc o) row :=
  ⟨h.os, h.tape, h.output, Nat.le_trans h.size (by simp), fun i hi hne => (Below.heap_alloc w o i (Nat.lt_of_lt_of_le hi h.size)).trans (h.block i hi hne)⟩

theorem only_of_below {a w : World} (h : Below a.heap.size a w) (row : Option Nat) : a.grownBy w row := ⟨h.os, h.tape, h.output, h.size, fun i hi _ => h.block i hi⟩
theorem only_trans {a b c : World} {row : Option Nat} (h : a.grownBy b row) (k : b.grownBy c row) : a.grownBy c row :=
  ⟨k.os.trans h.os, k.tape.trans h.tape, k.output.trans h.output, Nat.le_trans h.size k.size, fun i hi hne => (k.block i (Nat.lt_of_lt_of_le hi h.size) hne).trans (h.block i hi hne)⟩

theorem mark_step (zs : List Int) (k : Nat) (h : k < zs.length) :
    ((marks k ++ zs.drop k).map (Value.int .i64)).set k (.int .i64 ((k : Int) + 1)) = (marks (k + 1) ++ zs.drop (k + 1)).map (Value.int .i64) := by
  rw [← List.map_set]
  congr 1
  rw [List.set_append_right _ _ (by rw [marks_length]; omega), marks_length, Nat.sub_self, List.drop_eq_getElem_cons h, List.set_cons_zero, marks_succ, List.append_assoc]
  rfl

theorem mark_cell (zs : List Int) (k : Nat) (h : k < zs.length) : ((marks k ++ zs.drop k).map (Value.int .i64))[k]? = some (.int .i64 (zs[k]?.getD 0)) := by
  rw [List.getElem?_map, List.getElem?_append_right (by rw [marks_length]; omega), marks_length, Nat.sub_self]
  simp [h]

/-- A row of n ints of the call's own, its length a letter of its own. -/
def OwnN (w : World) (B : Nat) (a : Option Addr) (n cap : Nat) (zs : List Int) : Prop := w.ownsRow B 3 1 (.slice a n cap) n (zs.map (Value.int .i64))

theorem OwnN.addr {w : World} {B : Nat} {a : Option Addr} {n cap : Nat} {zs : List Int} (h : OwnN w B a n cap zs) (hn : 0 < n) : ∃ g, a = some ⟨g, 0, none⟩ ∧ B ≤ g ∧ g < w.heap.size := by
  rcases h.2 with ⟨_, hn'⟩ | ⟨g, c, cur, e, hb, hg, _⟩
  · omega
  · injection e with e1 e2 e3
    exact ⟨g, e1, hb, (Array.getElem?_eq_some_iff.1 hg).1⟩

def Marked (W : World) (B : Nat) (a : Option Addr) (n cap : Nat) (e : Ending) (W' : World) : Prop :=
  e = .returned (.int .i64 ((n : Int) + 1)) ∧ OwnI W' B (.slice a n cap) (marks n) ∧ W.grownBy W' (Value.slice a n cap).ownBlock

theorem grow_of_alloc {W W' : World} {o : Obj} {row : Option Nat} (h : (W.alloc o).grownBy W' row) (_hr : row ≠ some W.heap.size) : W.grownBy W' row :=
  only_trans (World.grownBy_alloc W o row) h

end Go.Proofs.YtnpfdgbbcapnkaaDoor

/- It is proved what a round of the method mapped leaves; conditions: those of each statement. -/
namespace Go.Proofs.YtnpfdgbbcapnkaaDoor
open Go.RowKit Go.Shelf

attribute [local go_sem] Oper.semAt_some

/-- Block b holds just these cells. -/
def HasBlk (W : World) (b : Nat) (cs : Array Value) (t : TypeId) : Prop := W.heap[b]? = some (.cells cs t (0, 0))

theorem lt_of_some {W : World} {b : Nat} {o : Obj} (h : W.heap[b]? = some o) : b < W.heap.size := (Array.getElem?_eq_some_iff.1 h).1
theorem HasBlk.kept {W W' : World} {b : Nat} {cs : Array Value} {t : TypeId} {row : Option Nat} (h : HasBlk W b cs t) (hg : W.grownBy W' row) (hr : row ≠ some b) : HasBlk W' b cs t := (hg.block b (lt_of_some h) (Ne.symm hr)).trans h
theorem HasBlk.alloc {W : World} {b : Nat} {cs : Array Value} {t : TypeId} (h : HasBlk W b cs t) (o : Obj) : HasBlk (W.alloc o) b cs t := (alloc_old _ _ _ (lt_of_some h)).trans h
theorem HasBlk.far {W : World} {b : Nat} {cs : Array Value} {t : TypeId} (h : HasBlk W b cs t) {p : Addr} (hp : b ≠ p.block) (u : Value) : HasBlk (W.setCell p u) b cs t := (Below.heap_setCell W p u b hp).trans h
theorem hasBlk_own {β : Type} (b : Nat) (cs : Array Value) (t : TypeId) : Own (fun (_ : β) W => HasBlk W b cs t) := fun s W W' row h hg hrow =>
  HasBlk.kept h hg (fun e => by obtain ⟨o, ho, hc⟩ := hrow b e; rw [show W.heap[b]? = _ from h] at ho; cases ho; cases hc)

theorem ownsRow_base {w : World} {B B' : Nat} {e : TypeId} {size n : Nat} {v : Value} {xs : List Value} (h : w.ownsRow B' e size v n xs) (hB : B ≤ B') : w.ownsRow B e size v n xs := by
  refine ⟨h.1, ?_⟩
  rcases h.2 with h2 | ⟨g, cap, cur, e, hb, r⟩
  · exact .inl h2
  · exact .inr ⟨g, cap, cur, e, by omega, r⟩

theorem made_0 {w w1 : World} {o p q : Obj} (hg : (((w.alloc o).alloc p).alloc q).grownBy w1 none) : w1.heap[w.heap.size]? = some o := (hg.block _ (by simp; omega) (by simp)).trans (alloc3_0 _ _ _ _)
theorem made_1 {w w1 : World} {o p q : Obj} (hg : (((w.alloc o).alloc p).alloc q).grownBy w1 none) : w1.heap[w.heap.size + 1]? = some p := (hg.block _ (by simp) (by simp)).trans (alloc3_1 _ _ _ _)
theorem made_2 {w w1 : World} {o p q : Obj} (hg : (((w.alloc o).alloc p).alloc q).grownBy w1 none) : w1.heap[w.heap.size + 1 + 1]? = some q := (hg.block _ (by simp) (by simp)).trans (alloc3_2 _ _ _ _)
theorem below_made {w w1 : World} {o p q : Obj} (hg : (((w.alloc o).alloc p).alloc q).grownBy w1 none) : Below w.heap.size (((w.alloc o).alloc p).alloc q) w1 := (Below.refl _ _).grown hg (by simp; omega) (by simp)
/-- A goal that the walk leaves alone. -/
def Marked_ (p : Prop) : Prop := p

theorem mark_make {p : Prop} (h : Marked_ p) : p := h
theorem unmark_make {p : Prop} (h : p) : Marked_ p := h
theorem own_after {W w2 : World} {B : Nat} {e : TypeId} {size n : Nat} {v : Value} {xs : List Value} (h : W.ownsRow B e size v n xs) (hb : Below W.drew.heap.size W.drew w2) : w2.ownsRow B e size v n xs :=
  World.ownsRow.kept (w := W.drew) h (only_of_below hb none) (by cases v.ownBlock <;> simp)

theorem spare_cell {W : World} {B g n cap : Nat} {xs : List Value} (h : W.ownsRow B 3 1 (.slice (some ⟨g, 0, none⟩) n cap) n xs) (k : Nat) (hk : k < cap) :
    ∃ u, W.cell? ⟨g, k, none⟩ = some u ∧ W.frozen? ⟨g, k, none⟩ = false := by
  rcases h.2 with ⟨e, _⟩ | ⟨g', cap', cur, e, _, hg, _, _, hs, _⟩
  · cases e
  · injection e with e1 e2 e3
    injection e1 with e1
    injection e1 with e1
    subst e1; subst e3
    exact ⟨cur[k]'(by omega), (blk_cell hg k).trans (Array.getElem?_eq_getElem (by omega)), blk_frozen hg k⟩

theorem own_snoc {W : World} {B g n cap : Nat} {xs : List Value} (h : W.ownsRow B 3 1 (.slice (some ⟨g, 0, none⟩) n cap) n xs) (hn : n < cap) (y : Value) :
    (W.setCell ⟨g, n, none⟩ y).ownsRow B 3 1 (.slice (some ⟨g, 0, none⟩) (n + 1) cap) (n + 1) (xs ++ [y]) := by
  rcases h.2 with ⟨e, _⟩ | ⟨g', cap', cur, e, hb, hg, _, hm, hs, ht⟩
  · cases e
  · injection e with e1 e2 e3
    injection e1 with e1
    injection e1 with e1
    subst e1; subst e3
    refine ⟨by have := h.1; simp; omega, .inr ⟨g, cap, cur.setIfInBounds n y, rfl, hb, heap_setCell_same W g n cur 3 y hg, by omega, hm, by simpa using hs, ?_⟩⟩
    simp only [Nat.mul_one] at ht ⊢
    rw [Array.toList_setIfInBounds, List.take_succ_eq_append_getElem (by simp; omega), List.take_set_of_le (Nat.le_refl _), ht]
    simp

theorem after_spare {w2 : World} {G M k : Nat} {o : Obj} {y v : Value} (h : G < M) (hM : M < w2.heap.size) (hc : w2.cell? ⟨M, 0, none⟩ = some v) : ((w2.alloc o).setCell ⟨G, k, none⟩ y).cell? ⟨M, 0, none⟩ = some v :=
  (World.cell?_setCell_other _ _ _ _ (fun e => by injection e; omega)).trans ((World.cell?_alloc_lt _ _ _ hM).trans hc)

theorem after_spare_f {w2 : World} {G M k : Nat} {o : Obj} {y : Value} (_h : G < M) (hM : M < w2.heap.size) (hc : w2.frozen? ⟨M, 0, none⟩ = false) : ((w2.alloc o).setCell ⟨G, k, none⟩ y).frozen? ⟨M, 0, none⟩ = false := by
  rw [World.frozen?_setCell]
  exact (World.frozen?_of_block (a := ⟨M, 0, none⟩) (alloc_old _ _ _ hM)).trans hc

theorem ownsRow_setCell_ne {W : World} {B : Nat} {e : TypeId} {size n : Nat} {v : Value} {xs : List Value} (h : W.ownsRow B e size v n xs) {p : Addr} (hp : v.ownBlock ≠ some p.block) (u : Value) : (W.setCell p u).ownsRow B e size v n xs := by
  refine ⟨h.1, ?_⟩
  rcases h.2 with h2 | ⟨g, cap, cur, rfl, hb, hg, r⟩
  · exact .inl h2
  · exact .inr ⟨g, cap, cur, rfl, hb, (Below.heap_setCell W p u g (fun e => hp (by simp [Value.ownBlock, e]))).trans hg, r⟩

/-- One round of mapped: what it leaves. -/
theorem mapped_end {w W w2 : World} {f : Int → Int} {n M G B b0 b1 b2 t0 t1 t2 : Nat} {c0 c1 c2 : Array Value} {pre : List (Nat × Int)} {x : Nat × Int} (hWs : w.heap.size ≤ W.heap.size) (hGM : G < M) (hG : w.heap.size ≤ G) (hlt : pre.length < n)
    (hb2 : Below W.drew.heap.size W.drew w2) (hv : Boxed W M 23 (.slice (some ⟨G, 0, none⟩) pre.length n))
    (hrow : W.ownsRow w.heap.size 3 1 (.slice (some ⟨G, 0, none⟩) pre.length n) pre.length ((pre.map fun p => f p.2).map (Value.int .i64))) (hB : Below w.heap.size w W)
    (q0 : HasBlk W b0 c0 t0) (h0 : b0 < G) (q1 : HasBlk W b1 c1 t1) (h1 : b1 < G) (q2 : HasBlk W b2 c2 t2) (h2 : b2 < G) :
    KeepsFrom B W (((w2.setCell ⟨G, pre.length, none⟩ (.int .i64 (f x.2))).setCell ⟨M, 0, none⟩ (.slice (some ⟨G, 0, none⟩) (pre.length + 1) n)).alloc (.cells #[.int .i64 (f x.2)] 3)) ∧
    Below w.heap.size W (((w2.setCell ⟨G, pre.length, none⟩ (.int .i64 (f x.2))).setCell ⟨M, 0, none⟩ (.slice (some ⟨G, 0, none⟩) (pre.length + 1) n)).alloc (.cells #[.int .i64 (f x.2)] 3)) ∧
    ((∃ v, Boxed (((w2.setCell ⟨G, pre.length, none⟩ (.int .i64 (f x.2))).setCell ⟨M, 0, none⟩ (.slice (some ⟨G, 0, none⟩) (pre.length + 1) n)).alloc (.cells #[.int .i64 (f x.2)] 3)) M 23 v ∧
      (((w2.setCell ⟨G, pre.length, none⟩ (.int .i64 (f x.2))).setCell ⟨M, 0, none⟩ (.slice (some ⟨G, 0, none⟩) (pre.length + 1) n)).alloc (.cells #[.int .i64 (f x.2)] 3)).ownsRow w.heap.size 3 1 v (pre ++ [x]).length (((pre ++ [x]).map fun p => f p.2).map (Value.int .i64)) ∧
      v = .slice (some ⟨G, 0, none⟩) (pre ++ [x]).length n) ∧
      HasBlk (((w2.setCell ⟨G, pre.length, none⟩ (.int .i64 (f x.2))).setCell ⟨M, 0, none⟩ (.slice (some ⟨G, 0, none⟩) (pre.length + 1) n)).alloc (.cells #[.int .i64 (f x.2)] 3)) b0 c0 t0 ∧
      HasBlk (((w2.setCell ⟨G, pre.length, none⟩ (.int .i64 (f x.2))).setCell ⟨M, 0, none⟩ (.slice (some ⟨G, 0, none⟩) (pre.length + 1) n)).alloc (.cells #[.int .i64 (f x.2)] 3)) b1 c1 t1 ∧
      HasBlk (((w2.setCell ⟨G, pre.length, none⟩ (.int .i64 (f x.2))).setCell ⟨M, 0, none⟩ (.slice (some ⟨G, 0, none⟩) (pre.length + 1) n)).alloc (.cells #[.int .i64 (f x.2)] 3)) b2 c2 t2) ∧
    Below w.heap.size w (((w2.setCell ⟨G, pre.length, none⟩ (.int .i64 (f x.2))).setCell ⟨M, 0, none⟩ (.slice (some ⟨G, 0, none⟩) (pre.length + 1) n)).alloc (.cells #[.int .i64 (f x.2)] 3)) := by
  have hbW : Below W.heap.size W w2 := ⟨hb2.os, hb2.tape, hb2.output, hb2.size, hb2.block⟩
  have hsz2 := hbW.size
  have k2 : KeepsOthers W w2 := ⟨hbW.size, fun k o hk _ => (hbW.block k (lt_of_some hk)).trans hk⟩
  have hb : Below w.heap.size W (((w2.setCell ⟨G, pre.length, none⟩ (.int .i64 (f x.2))).setCell ⟨M, 0, none⟩ (.slice (some ⟨G, 0, none⟩) (pre.length + 1) n)).alloc (.cells #[.int .i64 (f x.2)] 3)) :=
    (((hbW.mono hWs).setCell (p := ⟨G, pre.length, none⟩) hG _).setCell (p := ⟨M, 0, none⟩) (show w.heap.size ≤ M by omega) _).alloc (by simp; omega) _
  have hv2 : Boxed w2 M 23 (.slice (some ⟨G, 0, none⟩) pre.length n) := (hbW.block M hv.lt).trans hv
  have hv3 : Boxed (w2.setCell ⟨G, pre.length, none⟩ (.int .i64 (f x.2))) M 23 (.slice (some ⟨G, 0, none⟩) pre.length n) := HasBlk.far hv2 (show M ≠ G by omega) _
  have keepB : ∀ {b : Nat} {c : Array Value} {t : Nat}, HasBlk W b c t → b < G → HasBlk (((w2.setCell ⟨G, pre.length, none⟩ (.int .i64 (f x.2))).setCell ⟨M, 0, none⟩ (.slice (some ⟨G, 0, none⟩) (pre.length + 1) n)).alloc (.cells #[.int .i64 (f x.2)] 3)) b c t :=
    fun {b c t} q h => HasBlk.alloc (HasBlk.far (HasBlk.far ((hbW.block b (lt_of_some q)).trans q : HasBlk w2 b c t) (show b ≠ G by omega) _) (show b ≠ M by omega) _) _
  have hr3 := own_snoc (own_after hrow hb2) hlt (.int .i64 (f x.2))
  have hr4 := (ownsRow_setCell_ne hr3 (p := ⟨M, 0, none⟩) (by simp [Value.ownBlock]; omega) (.slice (some ⟨G, 0, none⟩) (pre.length + 1) n)).alloc (.cells #[.int .i64 (f x.2)] 3)
  refine ⟨(((k2.trans (KeepsOthers.setCell _ _ _)).trans (KeepsOthers.setCell _ _ _)).trans (KeepsOthers.alloc _ _)).from _, hb, ⟨⟨_, (hv3.set _).alloc _, ?_, ?_⟩, keepB q0 h0, keepB q1 h1, keepB q2 h2⟩, hB.trans hb⟩
  · rw [List.map_append, List.map_append, List.length_append]
    exact hr4
  · rw [List.length_append]; rfl

theorem lt_of_cell {W : World} {g k : Nat} {u : Value} (h : W.cell? ⟨g, k, none⟩ = some u) : g < W.heap.size := World.block_lt_of_cell? W _ h
theorem cell2_0 (x y : Value) : (#[x, y] : Array Value)[0]? = some x := rfl
theorem cell2_1 (x y : Value) : (#[x, y] : Array Value)[1]? = some y := rfl
theorem cell1_0 (x : Value) : (#[x] : Array Value)[0]? = some x := rfl
end Go.Proofs.YtnpfdgbbcapnkaaDoor

/- It is proved what the reader's pick returns and writes; conditions: those of each statement. -/
namespace Go.Proofs.YtnpfdgbbcapnkaaDoor
open Go.RowKit

/-- The reader lies in block R: its bytes, its place. -/
def Rd (W : World) (R : Nat) (b : Option Addr) (n cap p : Nat) : Prop := HasBlk W R #[.slice b n cap, .int .i64 (p : Int)] 100

/-- n bytes, below block B. -/
def Bys (W : World) (B : Nat) (b : Option Addr) (n : Nat) : Prop :=
  n = 0 ∨ ∃ g off, b = some ⟨g, off, none⟩ ∧ g < B ∧ ∀ j, j < n → ∃ z : Nat, z < 256 ∧ W.cell? ⟨g, off + j, none⟩ = some (.int .u8 (z : Int))

/-- What pick leaves: a number in its range; the reader one place on; nothing else has turned. -/
def Picked (w : World) (R : Nat) (b : Option Addr) (n cap p : Nat) (x : Int) (e : Ending) (w' : World) : Prop :=
  ∃ r : Int, e = .returned (.int .i64 r) ∧ 0 ≤ r ∧ (1 ≤ x → r < x) ∧ Rd w' R b n cap (p + 1) ∧ w.grownBy w' (some R)

theorem xor_i64_nat (a b : Nat) (ha : a < 4611686018427387904) (hb : b < 4611686018427387904) : bits .xor .i64 (a : Int) (b : Int) = ((a ^^^ b : Nat) : Int) := by
  have hx : a ^^^ b < 2 ^ 62 := Nat.xor_lt_two_pow (by omega) (by omega)
  have h1 : (BitVec.ofInt 64 (a : Int)).toNat = a := by
    rw [BitVec.ofInt_natCast, BitVec.toNat_ofNat]; exact Nat.mod_eq_of_lt (by omega)
  have h2 : (BitVec.ofInt 64 (b : Int)).toNat = b := by
    rw [BitVec.ofInt_natCast, BitVec.toNat_ofNat]; exact Nat.mod_eq_of_lt (by omega)
  show IntKind.i64.wrap ((BitVec.ofInt 64 (a : Int) ^^^ BitVec.ofInt 64 (b : Int)).toNat : Int) = _
  rw [BitVec.toNat_xor, h1, h2, IntKind.wrap_i64]
  omega

theorem picked_end {R : Nat} {b : Option Addr} {n cap p : Nat} {x : Int} {w : World} (hR : Rd w R b n cap p) (r : Int) (h0 : 0 ≤ r) (h1 : 1 ≤ x → r < x) :
    Picked w R b n cap p x (.returned (.int .i64 r)) (w.setCell ⟨R, 1, none⟩ (.int .i64 ((p : Int) + 1))) :=
  ⟨r, rfl, h0, h1, heap_setCell_same w R 1 _ 100 _ hR, only_setCell (p := ⟨R, 1, none⟩) (World.grownBy.refl w (some R)) rfl _⟩

theorem picked_drawn {R : Nat} {b : Option Addr} {n cap p : Nat} {x : Int} {w W : World} {e : Ending} (k : Nat) (h : Picked w R b n cap p x e W) : Picked w R b n cap p x e (W.drewN k) := by
  obtain ⟨r, h1, h2, h3, h4, h5⟩ := h
  exact ⟨r, h1, h2, h3, h4, ⟨h5.os, h5.tape, h5.output, h5.size, h5.block⟩⟩

set_option maxRecDepth 100000 in
set_option maxHeartbeats 2000000 in
theorem pick_any (R : Nat) (b : Option Addr) (n cap p : Nat) (x : Int) (w : World) (hR : Rd w R b n cap p) (hb : Bys w R b n) (hn : n ≤ 1048576) (hp : p ≤ 1000000) :
    Calls Tryd.prog 74 #[.pointer (some ⟨R, 0, none⟩), .int .i64 x] w (Picked w R b n cap p x) := by
  have d0 := blk_cell hR 0
  have d1 := blk_cell hR 1
  have f1 := blk_frozen hR 1
  simp only [cell2_0, cell2_1] at d0 d1
  have HR := Lib.hid hR
  clear hR
  by_cases h1 : x < 1
  · go_enter Tryd.func74, Tryd.ntmps74
    go_wp2
    go_ret
    exact picked_end HR.out 0 (by omega) (by omega)
  · by_cases hn0 : n = 0
    · subst hn0
      go_enter Tryd.func74, Tryd.ntmps74
      go_wp2
      go_ret
      exact picked_end HR.out 0 (by omega) (by omega)
    · by_cases hk : p < n
      · obtain ⟨g, off, rfl, hg, hc⟩ := hb.resolve_left hn0
        obtain ⟨z, hz, hcz⟩ := hc p hk
        have hcz' := (World.cell?_setCell_other w ⟨R, 1, none⟩ ⟨g, off + p, none⟩ (.int .i64 ((p : Int) + 1)) (fun e => by injection e; omega)).trans hcz
        go_enter Tryd.func74, Tryd.ntmps74
        go_wp2
        go_ret
        exact picked_end HR.out ((z : Int) % x) (Int.emod_nonneg _ (by omega)) (fun _ => Int.emod_lt_of_pos _ (by omega))
      · obtain ⟨g, off, rfl, hg, hc⟩ := hb.resolve_left hn0
        obtain ⟨i1, hi1⟩ : ∃ i1 : Nat, (p : Int) % (n : Int) = (i1 : Int) := ⟨p % n, by omega⟩
        obtain ⟨i2, hi2⟩ : ∃ i2 : Nat, ((p : Int) * 7 + 3) % (n : Int) = (i2 : Int) := ⟨(p * 7 + 3) % n, by push_cast; rfl⟩
        obtain ⟨q, hq⟩ : ∃ q : Nat, (p : Int) / (n : Int) = (q : Int) := ⟨p / n, by omega⟩
        have hj1 : i1 < n := by have h2 := Int.emod_lt_of_pos (p : Int) (b := (n : Int)) (by omega); omega
        have hj2 : i2 < n := by have h2 := Int.emod_lt_of_pos ((p : Int) * 7 + 3) (b := (n : Int)) (by omega); omega
        have hqp : q ≤ p := by have h2 := Int.ediv_le_self (n : Int) (show (0 : Int) ≤ (p : Int) by omega); omega
        obtain ⟨z1, hz1, hc1⟩ := hc i1 hj1
        obtain ⟨z2, hz2, hc2⟩ := hc i2 hj2
        have hc1' := (World.cell?_setCell_other w ⟨R, 1, none⟩ ⟨g, off + i1, none⟩ (.int .i64 ((p : Int) + 1)) (fun e => by injection e; omega)).trans hc1
        have hc2' := (World.cell?_setCell_other w ⟨R, 1, none⟩ ⟨g, off + i2, none⟩ (.int .i64 ((p : Int) + 1)) (fun e => by injection e; omega)).trans hc2
        have hpn : ¬ ((p : Int) < (n : Int)) := by omega
        have hn1 : (0 : Int) < (n : Int) := by omega
        clear hc
        go_enter Tryd.func74, Tryd.ntmps74
        go_wp2
        go_quiet (fail)
        obtain ⟨X, hX⟩ : ∃ X : Nat, (z1 : Int) * 131 + (z2 : Int) * 1117 + (p : Int) * 29 + (q : Int) * 53 = (X : Int) := ⟨z1 * 131 + z2 * 1117 + p * 29 + q * 53, by push_cast; rfl⟩
        have HXR : Hid (bits .xor .i64 (X : Int) ((X : Int) / 64) = ((X ^^^ (X / 64) : Nat) : Int)) := Lib.hid (by
          rw [show (X : Int) / 64 = ((X / 64 : Nat) : Int) from by omega]
          exact xor_i64_nat X (X / 64) (by omega) (by omega))
        rw [hX]
        have hX2 : (X : Int) ≤ 100000000 := by omega
        clear hX hi1 hi2 hq hc1 hc2 hc1' hc2'
        go_wp2
        go_ret
        refine picked_drawn nq ?_
        rw [HXR.out]
        exact picked_end HR.out _ (Int.tmod_nonneg _ (by omega)) (fun _ => Int.tmod_lt_of_pos _ (by omega))

end Go.Proofs.YtnpfdgbbcapnkaaDoor

/- It is proved what l1None, l1With and the model's FamilyMeet return; conditions: those of each statement. -/
namespace Go.Proofs.YtnpfdgbbcapnkaaDoor
open Go.RowKit

theorem alloc2_0 (w : World) (o p : Obj) : ((w.alloc o).alloc p).heap[w.heap.size]? = some o := by rw [alloc_old _ _ _ (by simp), alloc_new]
theorem alloc2_1 (w : World) (o p : Obj) : ((w.alloc o).alloc p).heap[w.heap.size + 1]? = some p := by
  rw [show w.heap.size + 1 = (w.alloc o).heap.size from by simp, alloc_new]

/-- A new empty row. -/
theorem own_empty {w : World} {B g : Nat} (h : w.heap[g]? = some (.cells #[] 3 (0, 0))) (hB : B ≤ g) : OwnI w B (.slice (some ⟨g, 0, none⟩) 0 0) [] :=
  ⟨by simp, .inr ⟨g, 0, #[], rfl, hB, h, Nat.le_refl _, by simp [maxLen], by simp, by simp⟩⟩

theorem map_at (f : Int → Int) (zs : List Int) (k : Nat) (h : k < zs.length) : (zs.take (k + 1)).map f = (zs.take k).map f ++ [f (zs[k]?.getD 0)] := by
  rw [List.take_succ_eq_append_getElem h, List.map_append]; simp [h]

/-- What a function that maps the clubs comes to. -/
def famMap (c : Bool) (_m : Int) (f : Int → Int) (zs : List Int) : List Int := if c then zs.map f else []

def famM (c : Bool) (m : Int) : Int := if c then m else 0
theorem OwnI.form {w : World} {B : Nat} {v : Value} {zs : List Int} (h : OwnI w B v zs) (hn : 0 < zs.length) : ∃ g cap, v = .slice (some ⟨g, 0, none⟩) zs.length cap ∧ B ≤ g ∧ g < w.heap.size := World.ownsRow.form h hn
end Go.Proofs.YtnpfdgbbcapnkaaDoor

/- It is proved what l6In, l1All and setIn return; conditions: the bounds in each statement. -/
namespace Go.Proofs.YtnpfdgbbcapnkaaDoor
open Go.RowKit

def inB (n lo hi : Int) : Bool := decide (lo ≤ n) && decide (n ≤ hi)
theorem inB_true {n lo hi : Int} (h1 : lo ≤ n) (h2 : n ≤ hi) : inB n lo hi = true := by simp [inB, h1, h2]
theorem inB_false {n lo hi : Int} (h : n < lo ∨ hi < n) : inB n lo hi = false := by
  simp [inB]; omega

theorem inB_out {n lo hi : Int} (h : inB n lo hi = true) : lo ≤ n ∧ n ≤ hi := by simpa [inB] using h
theorem inB_no {n lo hi : Int} (h : inB n lo hi = false) : n < lo ∨ hi < n := by
  simp [inB] at h; omega

theorem l6In_any (n lo hi : Int) (w : World) :
    Calls Tryd.prog 62 #[.int .i64 n, .int .i64 lo, .int .i64 hi] w fun e w' => e = .returned (.bool (inB n lo hi)) ∧ w = w' := by
  by_cases h1 : lo ≤ n
  · by_cases h2 : n ≤ hi
    · rw [inB_true h1 h2]
      go_enter Tryd.func62, Tryd.ntmps62
      go_wp2
      go_ret
      exact ⟨rfl, rfl⟩
    · rw [inB_false (.inr (by omega))]
      go_enter Tryd.func62, Tryd.ntmps62
      go_wp2
      go_ret
      exact ⟨rfl, rfl⟩
  · rw [inB_false (.inl (by omega))]
    have h3 : n < lo := by omega
    go_enter Tryd.func62, Tryd.ntmps62
    go_wp2
    go_ret
    exact ⟨rfl, rfl⟩

/-- The set of all members. -/
def fullI (m : Int) : Int := 2 ^ m.toNat - 1

theorem m16 {m : Int} (h1 : 1 ≤ m) (h2 : m ≤ 6) : m = 1 ∨ m = 2 ∨ m = 3 ∨ m = 4 ∨ m = 5 ∨ m = 6 := by omega
theorem l1All_any (m : Int) (a : Option Addr) (n cap : Nat) (w : World) (h1 : 1 ≤ m) (h2 : m ≤ 6) :
    Calls Tryd.prog 57 #[.agg #[.int .i64 m, .slice a n cap]] w fun e w' => e = .returned (.int .i64 (fullI m)) ∧ w.alloc (.cells #[.int .i64 m, .slice a n cap] 25) = w' := by
  rcases m16 h1 h2 with rfl | rfl | rfl | rfl | rfl | rfl
  all_goals
    go_enter Tryd.func57, Tryd.ntmps57
    go_wp2
    go_ret
    exact ⟨rfl, rfl⟩

theorem setIn_any (m z : Int) (w : World) (h1 : 1 ≤ m) (h2 : m ≤ 6) :
    Calls Tryd.prog 51 #[.int .i64 m, .int .i64 z] w fun e w' => e = .returned (.bool (inB z 0 (fullI m))) ∧ w = w' := by
  by_cases hz : 0 ≤ z
  · by_cases hf : z ≤ fullI m
    · rw [inB_true hz hf]
      rcases m16 h1 h2 with rfl | rfl | rfl | rfl | rfl | rfl
      all_goals
        simp [fullI] at hf
        go_enter Tryd.func51, Tryd.ntmps51
        go_wp2
        go_ret
        exact ⟨by simp; omega, rfl⟩
    · rw [inB_false (.inr (by omega))]
      rcases m16 h1 h2 with rfl | rfl | rfl | rfl | rfl | rfl
      all_goals
        simp [fullI] at hf
        go_enter Tryd.func51, Tryd.ntmps51
        go_wp2
        go_ret
        exact ⟨by simp; omega, rfl⟩
  · rw [inB_false (.inl (by omega))]
    have hz' : z < 0 := by omega
    go_enter Tryd.func51, Tryd.ntmps51
    go_wp2
    go_ret
    exact ⟨rfl, rfl⟩

/-- A family is one. -/
def famIn (m : Int) (zs : List Int) : Bool := inB m 1 6 && (decide (zs.length ≤ 8) && zs.all fun z => inB z 0 (fullI m))

theorem famIn_out {m : Int} {zs : List Int} (h : famIn m zs = true) : 1 ≤ m ∧ m ≤ 6 ∧ zs.length ≤ 8 ∧ ∀ z ∈ zs, 0 ≤ z ∧ z ≤ fullI m := by
  simp only [famIn, Bool.and_eq_true, decide_eq_true_eq, List.all_eq_true] at h
  exact ⟨(inB_out h.1).1, (inB_out h.1).2, h.2.1, fun z hz => inB_out (h.2.2 z hz)⟩

theorem famIn_m {m : Int} {zs : List Int} (h : inB m 1 6 = false) : famIn m zs = false := by simp [famIn, h]
theorem famIn_l {m : Int} {zs : List Int} (h : 8 < zs.length) : famIn m zs = false := by simp [famIn]; intros; omega
theorem famIn_z {m : Int} {zs : List Int} {k : Nat} (hk : k < zs.length) (h : inB (zs[k]?.getD 0) 0 (fullI m) = false) : famIn m zs = false := by
  have : (zs.all fun z => inB z 0 (fullI m)) = false := by
    rw [List.all_eq_false]
    refine ⟨zs[k], List.getElem_mem _, ?_⟩
    simp [hk] at h
    simp [h]
  simp [famIn, this]

theorem famIn_y {m : Int} {zs : List Int} (h1 : inB m 1 6 = true) (h2 : zs.length ≤ 8) (h : ∀ k, k < zs.length → inB (zs[k]?.getD 0) 0 (fullI m) = true) : famIn m zs = true := by
  simp only [famIn, Bool.and_eq_true, decide_eq_true_eq, List.all_eq_true]
  refine ⟨h1, h2, fun z hz => ?_⟩
  obtain ⟨k, hk, rfl⟩ := List.getElem_of_mem hz
  have := h k hk
  simpa [hk] using this

end Go.Proofs.YtnpfdgbbcapnkaaDoor

/- It is proved what eqIntS returns; conditions: the bounds in each statement. -/
namespace Go.Proofs.YtnpfdgbbcapnkaaDoor
open Go.RowKit

theorem Ints.at_ {w : World} {B : Nat} {a : Option Addr} {zs : List Int} (h : Ints w B a zs) {k : Nat} (hk : k < zs.length) :
    ∃ b off, a = some ⟨b, off, none⟩ ∧ b < B ∧ w.cell? ⟨b, off + k, none⟩ = some (.int .i64 (zs[k]?.getD 0)) := by
  rcases h with h | ⟨b, off, e, hb, hc⟩
  · subst h; simp at hk
  · exact ⟨b, off, e, hb, hc k hk⟩

theorem below_drewN {B : Nat} {a w : World} (h : Below B a w) (n : Nat) : Below B a (w.drewN n) := ⟨h.os, h.tape, h.output, h.size, h.block⟩
theorem eqs_false {xs ys : List Int} {k : Nat} (_hx : k < xs.length) (hy : k < ys.length) (h : xs[k]?.getD 0 ≠ ys[k]?.getD 0) : decide (xs = ys) = false := by
  simp only [decide_eq_false_iff_not]; rintro rfl; exact h rfl

theorem eqs_true {xs ys : List Int} (hl : xs.length = ys.length) (h : ∀ j, j < xs.length → xs[j]?.getD 0 = ys[j]?.getD 0) : decide (xs = ys) = true := by
  simp only [decide_eq_true_eq]
  apply List.ext_getElem hl
  intro i h1 h2
  have := h i h1
  simpa [h1, h2] using this

/-- Two lists are the same: a plain name, so that the walk does not take it apart. -/
def sameB (xs ys : List Int) : Bool := decide (xs = ys)

end Go.Proofs.YtnpfdgbbcapnkaaDoor
