/- It is proved what a round of the method mapped leaves; conditions: those of each statement. -/
import Derived.Deep.AppendLies
import Derived.Test.YtemolmkkiagiiaaDoorRows
import Derived.WalkKit
import Derived.WalkSpells
import Derived.ProofKit
import Derived.OpenShut
import Derived.ShutString
import Derived.ChangeOld
import Derived.Below
import Derived.Deep.RegionHeld3
import Derived.Deep.QuietTactic
import Derived.BigQuiet
import Derived.Lib.Hide
import Derived.Lib.SmallJoins
import Derived.Outline
import Derived.Laws.MakeOwn
import Derived.Laws.OwnMore
import Derived.IntWalk
import Derived.RangeFuncNested
import Derived.RangeFuncBound
import Derived.RangeFuncCalls
import Derived.RangeFuncLeaves
import Derived.RangeFuncBox
import Derived.Shelf.Abstract
import Derived.Shelf.RegionOpen
import Derived.OwnWalkIn
import Derived.TacticsInMore
import Derived.LoopNIn
import Derived.LoopIn
import Derived.Maps.AppendAt
import Derived.Test.YtemolmkkiagiiaaDoorPaaa
namespace Go.Proofs.YtemolmkkiagiiaaDoor
open Go.RowKit Go.Shelf

attribute [local go_sem] Oper.semAt_some

/-- Block b holds just these cells. -/
def HasBlk (W : World) (b : Nat) (cs : Array Value) (t : TypeId) : Prop := W.heap[b]? = some (.cells cs t (0, 0))

theorem lt_of_some {W : World} {b : Nat} {o : Obj} (h : W.heap[b]? = some o) : b < W.heap.size := (Array.getElem?_eq_some_iff.1 h).1
theorem HasBlk.kept {W W' : World} {b : Nat} {cs : Array Value} {t : TypeId} {row : Option Nat} (h : HasBlk W b cs t) (hg : W.grownBy W' row) (hr : row ≠ some b) : HasBlk W' b cs t := (hg.block b (lt_of_some h) (Ne.symm hr)).trans h
theorem HasBlk.alloc {W : World} {b : Nat} {cs : Array Value} {t : TypeId} (h : HasBlk W b cs t) (o : Obj) : HasBlk (W.alloc o) b cs t := (alloc_old _ _ _ (lt_of_some h)).trans h
theorem HasBlk.far {W : World} {b : Nat} {cs : Array Value} {t : TypeId} (h : HasBlk W b cs t) {p : Addr} (hp : b ≠ p.block) (u : Value) : HasBlk (W.setCell p u) b cs t := (Below.heap_setCell W p u b hp).trans h
theorem hasBlk_own {β : Type} (b : Nat) (cs : Array Value) (t : TypeId) : Own (fun (_ : β) W => HasBlk W b cs t) := fun s W W' row h hg hrow =>
  HasBlk.kept h hg (fun e => by obtain ⟨o, ho, hc⟩ := hrow b e; rw [show W.heap[b]? = _ from h] at ho; cases ho; cases hc)

theorem ownsRow_base {w : World} {B B' : Nat} {e : TypeId} {size n : Nat} {v : Value} {xs : List Value} (h : w.ownsRow B' e size v n xs) (hB : B ≤ B') : w.ownsRow B e size v n xs := by
  refine ⟨h.1, ?_⟩
  rcases h.2 with h2 | ⟨g, cap, cur, e, hb, r⟩
  · exact .inl h2
  · exact .inr ⟨g, cap, cur, e, by omega, r⟩

theorem made_0 {w w1 : World} {o p q : Obj} (hg : (((w.alloc o).alloc p).alloc q).grownBy w1 none) : w1.heap[w.heap.size]? = some o := (hg.block _ (by simp; omega) (by simp)).trans (alloc3_0 _ _ _ _)
theorem made_1 {w w1 : World} {o p q : Obj} (hg : (((w.alloc o).alloc p).alloc q).grownBy w1 none) : w1.heap[w.heap.size + 1]? = some p := (hg.block _ (by simp) (by simp)).trans (alloc3_1 _ _ _ _)
theorem made_2 {w w1 : World} {o p q : Obj} (hg : (((w.alloc o).alloc p).alloc q).grownBy w1 none) : w1.heap[w.heap.size + 1 + 1]? = some q := (hg.block _ (by simp) (by simp)).trans (alloc3_2 _ _ _ _)
theorem below_made {w w1 : World} {o p q : Obj} (hg : (((w.alloc o).alloc p).alloc q).grownBy w1 none) : Below w.heap.size (((w.alloc o).alloc p).alloc q) w1 := (Below.refl _ _).grown hg (by simp; omega) (by simp)
/-- A goal that the walk leaves alone. -/
def Marked_ (p : Prop) : Prop := p

theorem mark_make {p : Prop} (h : Marked_ p) : p := h
theorem unmark_make {p : Prop} (h : p) : Marked_ p := h
theorem own_after {W w2 : World} {B : Nat} {e : TypeId} {size n : Nat} {v : Value} {xs : List Value} (h : W.ownsRow B e size v n xs) (hb : Below W.drew.heap.size W.drew w2) : w2.ownsRow B e size v n xs :=
  World.ownsRow.kept (w := W.drew) h (only_of_below hb none) (by cases v.ownBlock <;> simp)

theorem spare_cell {W : World} {B g n cap : Nat} {xs : List Value} (h : W.ownsRow B 3 1 (.slice (some ⟨g, 0, none⟩) n cap) n xs) (k : Nat) (hk : k < cap) :
    ∃ u, W.cell? ⟨g, k, none⟩ = some u ∧ W.frozen? ⟨g, k, none⟩ = false := by
  rcases h.2 with ⟨e, _⟩ | ⟨g', cap', cur, e, _, hg, _, _, hs, _⟩
  · cases e
  · injection e with e1 e2 e3
    injection e1 with e1
    injection e1 with e1
    subst e1; subst e3
    exact ⟨cur[k]'(by omega), (blk_cell hg k).trans (Array.getElem?_eq_getElem (by omega)), blk_frozen hg k⟩

theorem own_snoc {W : World} {B g n cap : Nat} {xs : List Value} (h : W.ownsRow B 3 1 (.slice (some ⟨g, 0, none⟩) n cap) n xs) (hn : n < cap) (y : Value) :
    (W.setCell ⟨g, n, none⟩ y).ownsRow B 3 1 (.slice (some ⟨g, 0, none⟩) (n + 1) cap) (n + 1) (xs ++ [y]) := by
  rcases h.2 with ⟨e, _⟩ | ⟨g', cap', cur, e, hb, hg, _, hm, hs, ht⟩
  · cases e
  · injection e with e1 e2 e3
    injection e1 with e1
    injection e1 with e1
    subst e1; subst e3
    refine ⟨by have := h.1; simp; omega, .inr ⟨g, cap, cur.setIfInBounds n y, rfl, hb, heap_setCell_same W g n cur 3 y hg, by omega, hm, by simpa using hs, ?_⟩⟩
    simp only [Nat.mul_one] at ht ⊢
    rw [Array.toList_setIfInBounds, List.take_succ_eq_append_getElem (by simp; omega), List.take_set_of_le (Nat.le_refl _), ht]
    simp

theorem after_spare {w2 : World} {G M k : Nat} {o : Obj} {y v : Value} (h : G < M) (hM : M < w2.heap.size) (hc : w2.cell? ⟨M, 0, none⟩ = some v) : ((w2.alloc o).setCell ⟨G, k, none⟩ y).cell? ⟨M, 0, none⟩ = some v :=
  (World.cell?_setCell_other _ _ _ _ (fun e => by injection e; omega)).trans ((World.cell?_alloc_lt _ _ _ hM).trans hc)

theorem after_spare_f {w2 : World} {G M k : Nat} {o : Obj} {y : Value} (_h : G < M) (hM : M < w2.heap.size) (hc : w2.frozen? ⟨M, 0, none⟩ = false) : ((w2.alloc o).setCell ⟨G, k, none⟩ y).frozen? ⟨M, 0, none⟩ = false := by
  rw [World.frozen?_setCell]
  exact (World.frozen?_of_block (a := ⟨M, 0, none⟩) (alloc_old _ _ _ hM)).trans hc

theorem ownsRow_setCell_ne {W : World} {B : Nat} {e : TypeId} {size n : Nat} {v : Value} {xs : List Value} (h : W.ownsRow B e size v n xs) {p : Addr} (hp : v.ownBlock ≠ some p.block) (u : Value) : (W.setCell p u).ownsRow B e size v n xs := by
  refine ⟨h.1, ?_⟩
  rcases h.2 with h2 | ⟨g, cap, cur, rfl, hb, hg, r⟩
  · exact .inl h2
  · exact .inr ⟨g, cap, cur, rfl, hb, (Below.heap_setCell W p u g (fun e => hp (by simp [Value.ownBlock, e]))).trans hg, r⟩

/-- One round of mapped: what it leaves. -/
theorem mapped_end {w W w2 : World} {f : Int → Int} {n M G B b0 b1 b2 t0 t1 t2 : Nat} {c0 c1 c2 : Array Value} {pre : List (Nat × Int)} {x : Nat × Int} (hWs : w.heap.size ≤ W.heap.size) (hGM : G < M) (hG : w.heap.size ≤ G) (hlt : pre.length < n)
    (hb2 : Below W.drew.heap.size W.drew w2) (hv : Boxed W M 23 (.slice (some ⟨G, 0, none⟩) pre.length n))
    (hrow : W.ownsRow w.heap.size 3 1 (.slice (some ⟨G, 0, none⟩) pre.length n) pre.length ((pre.map fun p => f p.2).map (Value.int .i64))) (hB : Below w.heap.size w W)
    (q0 : HasBlk W b0 c0 t0) (h0 : b0 < G) (q1 : HasBlk W b1 c1 t1) (h1 : b1 < G) (q2 : HasBlk W b2 c2 t2) (h2 : b2 < G) :
    KeepsFrom B W (((w2.setCell ⟨G, pre.length, none⟩ (.int .i64 (f x.2))).setCell ⟨M, 0, none⟩ (.slice (some ⟨G, 0, none⟩) (pre.length + 1) n)).alloc (.cells #[.int .i64 (f x.2)] 3)) ∧
    Below w.heap.size W (((w2.setCell ⟨G, pre.length, none⟩ (.int .i64 (f x.2))).setCell ⟨M, 0, none⟩ (.slice (some ⟨G, 0, none⟩) (pre.length + 1) n)).alloc (.cells #[.int .i64 (f x.2)] 3)) ∧
    ((∃ v, Boxed (((w2.setCell ⟨G, pre.length, none⟩ (.int .i64 (f x.2))).setCell ⟨M, 0, none⟩ (.slice (some ⟨G, 0, none⟩) (pre.length + 1) n)).alloc (.cells #[.int .i64 (f x.2)] 3)) M 23 v ∧
      (((w2.setCell ⟨G, pre.length, none⟩ (.int .i64 (f x.2))).setCell ⟨M, 0, none⟩ (.slice (some ⟨G, 0, none⟩) (pre.length + 1) n)).alloc (.cells #[.int .i64 (f x.2)] 3)).ownsRow w.heap.size 3 1 v (pre ++ [x]).length (((pre ++ [x]).map fun p => f p.2).map (Value.int .i64)) ∧
      v = .slice (some ⟨G, 0, none⟩) (pre ++ [x]).length n) ∧
      HasBlk (((w2.setCell ⟨G, pre.length, none⟩ (.int .i64 (f x.2))).setCell ⟨M, 0, none⟩ (.slice (some ⟨G, 0, none⟩) (pre.length + 1) n)).alloc (.cells #[.int .i64 (f x.2)] 3)) b0 c0 t0 ∧
      HasBlk (((w2.setCell ⟨G, pre.length, none⟩ (.int .i64 (f x.2))).setCell ⟨M, 0, none⟩ (.slice (some ⟨G, 0, none⟩) (pre.length + 1) n)).alloc (.cells #[.int .i64 (f x.2)] 3)) b1 c1 t1 ∧
      HasBlk (((w2.setCell ⟨G, pre.length, none⟩ (.int .i64 (f x.2))).setCell ⟨M, 0, none⟩ (.slice (some ⟨G, 0, none⟩) (pre.length + 1) n)).alloc (.cells #[.int .i64 (f x.2)] 3)) b2 c2 t2) ∧
    Below w.heap.size w (((w2.setCell ⟨G, pre.length, none⟩ (.int .i64 (f x.2))).setCell ⟨M, 0, none⟩ (.slice (some ⟨G, 0, none⟩) (pre.length + 1) n)).alloc (.cells #[.int .i64 (f x.2)] 3)) := by
  have hbW : Below W.heap.size W w2 := ⟨hb2.os, hb2.tape, hb2.output, hb2.size, hb2.block⟩
  have hsz2 := hbW.size
  have k2 : KeepsOthers W w2 := ⟨hbW.size, fun k o hk _ => (hbW.block k (lt_of_some hk)).trans hk⟩
  have hb : Below w.heap.size W (((w2.setCell ⟨G, pre.length, none⟩ (.int .i64 (f x.2))).setCell ⟨M, 0, none⟩ (.slice (some ⟨G, 0, none⟩) (pre.length + 1) n)).alloc (.cells #[.int .i64 (f x.2)] 3)) :=
    (((hbW.mono hWs).setCell (p := ⟨G, pre.length, none⟩) hG _).setCell (p := ⟨M, 0, none⟩) (show w.heap.size ≤ M by omega) _).alloc (by simp; omega) _
  have hv2 : Boxed w2 M 23 (.slice (some ⟨G, 0, none⟩) pre.length n) := (hbW.block M hv.lt).trans hv
  have hv3 : Boxed (w2.setCell ⟨G, pre.length, none⟩ (.int .i64 (f x.2))) M 23 (.slice (some ⟨G, 0, none⟩) pre.length n) := HasBlk.far hv2 (show M ≠ G by omega) _
  have keepB : ∀ {b : Nat} {c : Array Value} {t : Nat}, HasBlk W b c t → b < G → HasBlk (((w2.setCell ⟨G, pre.length, none⟩ (.int .i64 (f x.2))).setCell ⟨M, 0, none⟩ (.slice (some ⟨G, 0, none⟩) (pre.length + 1) n)).alloc (.cells #[.int .i64 (f x.2)] 3)) b c t :=
    fun {b c t} q h => HasBlk.alloc (HasBlk.far (HasBlk.far ((hbW.block b (lt_of_some q)).trans q : HasBlk w2 b c t) (show b ≠ G by omega) _) (show b ≠ M by omega) _) _
  have hr3 := own_snoc (own_after hrow hb2) hlt (.int .i64 (f x.2))
  have hr4 := (ownsRow_setCell_ne hr3 (p := ⟨M, 0, none⟩) (by simp [Value.ownBlock]; omega) (.slice (some ⟨G, 0, none⟩) (pre.length + 1) n)).alloc (.cells #[.int .i64 (f x.2)] 3)
  refine ⟨(((k2.trans (KeepsOthers.setCell _ _ _)).trans (KeepsOthers.setCell _ _ _)).trans (KeepsOthers.alloc _ _)).from _, hb, ⟨⟨_, (hv3.set _).alloc _, ?_, ?_⟩, keepB q0 h0, keepB q1 h1, keepB q2 h2⟩, hB.trans hb⟩
  · rw [List.map_append, List.map_append, List.length_append]
    exact hr4
  · rw [List.length_append]; rfl

theorem lt_of_cell {W : World} {g k : Nat} {u : Value} (h : W.cell? ⟨g, k, none⟩ = some u) : g < W.heap.size := World.block_lt_of_cell? W _ h
theorem cell2_0 (x y : Value) : (#[x, y] : Array Value)[0]? = some x := rfl
theorem cell2_1 (x y : Value) : (#[x, y] : Array Value)[1]? = some y := rfl
theorem cell1_0 (x : Value) : (#[x] : Array Value)[0]? = some x := rfl
end Go.Proofs.YtemolmkkiagiiaaDoor

/- It is proved what the reader's pick returns and writes; conditions: those of each statement. -/
namespace Go.Proofs.YtemolmkkiagiiaaDoor
open Go.RowKit

/-- The reader lies in block R: its bytes, its place. -/
def Rd (W : World) (R : Nat) (b : Option Addr) (n cap p : Nat) : Prop := HasBlk W R #[.slice b n cap, .int .i64 (p : Int)] 81

/-- n bytes, below block B. -/
def Bys (W : World) (B : Nat) (b : Option Addr) (n : Nat) : Prop :=
  n = 0 ∨ ∃ g off, b = some ⟨g, off, none⟩ ∧ g < B ∧ ∀ j, j < n → ∃ z : Nat, z < 256 ∧ W.cell? ⟨g, off + j, none⟩ = some (.int .u8 (z : Int))

/-- What pick leaves: a number in its range; the reader one place on; nothing else has turned. -/
def Picked (w : World) (R : Nat) (b : Option Addr) (n cap p : Nat) (x : Int) (e : Ending) (w' : World) : Prop :=
  ∃ r : Int, e = .returned (.int .i64 r) ∧ 0 ≤ r ∧ (1 ≤ x → r < x) ∧ Rd w' R b n cap (p + 1) ∧ w.grownBy w' (some R)

theorem xor_i64_nat (a b : Nat) (ha : a < 4611686018427387904) (hb : b < 4611686018427387904) : bits .xor .i64 (a : Int) (b : Int) = ((a ^^^ b : Nat) : Int) := by
  have hx : a ^^^ b < 2 ^ 62 := Nat.xor_lt_two_pow (by omega) (by omega)
  have h1 : (BitVec.ofInt 64 (a : Int)).toNat = a := by
    rw [BitVec.ofInt_natCast, BitVec.toNat_ofNat]; exact Nat.mod_eq_of_lt (by omega)
  have h2 : (BitVec.ofInt 64 (b : Int)).toNat = b := by
    rw [BitVec.ofInt_natCast, BitVec.toNat_ofNat]; exact Nat.mod_eq_of_lt (by omega)
  show IntKind.i64.wrap ((BitVec.ofInt 64 (a : Int) ^^^ BitVec.ofInt 64 (b : Int)).toNat : Int) = _
  rw [BitVec.toNat_xor, h1, h2, IntKind.wrap_i64]
  omega

theorem picked_end {R : Nat} {b : Option Addr} {n cap p : Nat} {x : Int} {w : World} (hR : Rd w R b n cap p) (r : Int) (h0 : 0 ≤ r) (h1 : 1 ≤ x → r < x) :
    Picked w R b n cap p x (.returned (.int .i64 r)) (w.setCell ⟨R, 1, none⟩ (.int .i64 ((p : Int) + 1))) :=
  ⟨r, rfl, h0, h1, heap_setCell_same w R 1 _ 81 _ hR, only_setCell (p := ⟨R, 1, none⟩) (World.grownBy.refl w (some R)) rfl _⟩

theorem picked_drawn {R : Nat} {b : Option Addr} {n cap p : Nat} {x : Int} {w W : World} {e : Ending} (k : Nat) (h : Picked w R b n cap p x e W) : Picked w R b n cap p x e (W.drewN k) := by
  obtain ⟨r, h1, h2, h3, h4, h5⟩ := h
  exact ⟨r, h1, h2, h3, h4, ⟨h5.os, h5.tape, h5.output, h5.size, h5.block⟩⟩

set_option maxRecDepth 100000 in
set_option maxHeartbeats 2000000 in
theorem pick_any (R : Nat) (b : Option Addr) (n cap p : Nat) (x : Int) (w : World) (hR : Rd w R b n cap p) (hb : Bys w R b n) (hn : n ≤ 1048576) (hp : p ≤ 1000000) :
    Calls Tryd.prog 84 #[.pointer (some ⟨R, 0, none⟩), .int .i64 x] w (Picked w R b n cap p x) := by
  have d0 := blk_cell hR 0
  have d1 := blk_cell hR 1
  have f1 := blk_frozen hR 1
  simp only [cell2_0, cell2_1] at d0 d1
  have HR := Lib.hid hR
  clear hR
  by_cases h1 : x < 1
  · go_enter Tryd.func84, Tryd.ntmps84
    go_wp2
    go_ret
    exact picked_end HR.out 0 (by omega) (by omega)
  · by_cases hn0 : n = 0
    · subst hn0
      go_enter Tryd.func84, Tryd.ntmps84
      go_wp2
      go_ret
      exact picked_end HR.out 0 (by omega) (by omega)
    · by_cases hk : p < n
      · obtain ⟨g, off, rfl, hg, hc⟩ := hb.resolve_left hn0
        obtain ⟨z, hz, hcz⟩ := hc p hk
        have hcz' := (World.cell?_setCell_other w ⟨R, 1, none⟩ ⟨g, off + p, none⟩ (.int .i64 ((p : Int) + 1)) (fun e => by injection e; omega)).trans hcz
        go_enter Tryd.func84, Tryd.ntmps84
        go_wp2
        go_ret
        exact picked_end HR.out ((z : Int) % x) (Int.emod_nonneg _ (by omega)) (fun _ => Int.emod_lt_of_pos _ (by omega))
      · obtain ⟨g, off, rfl, hg, hc⟩ := hb.resolve_left hn0
        obtain ⟨i1, hi1⟩ : ∃ i1 : Nat, (p : Int) % (n : Int) = (i1 : Int) := ⟨p % n, by omega⟩
        obtain ⟨i2, hi2⟩ : ∃ i2 : Nat, ((p : Int) * 7 + 3) % (n : Int) = (i2 : Int) := ⟨(p * 7 + 3) % n, by push_cast; rfl⟩
        obtain ⟨q, hq⟩ : ∃ q : Nat, (p : Int) / (n : Int) = (q : Int) := ⟨p / n, by omega⟩
        have hj1 : i1 < n := by have h2 := Int.emod_lt_of_pos (p : Int) (b := (n : Int)) (by omega); omega
        have hj2 : i2 < n := by have h2 := Int.emod_lt_of_pos ((p : Int) * 7 + 3) (b := (n : Int)) (by omega); omega
        have hqp : q ≤ p := by have h2 := Int.ediv_le_self (n : Int) (show (0 : Int) ≤ (p : Int) by omega); omega
        obtain ⟨z1, hz1, hc1⟩ := hc i1 hj1
        obtain ⟨z2, hz2, hc2⟩ := hc i2 hj2
        have hc1' := (World.cell?_setCell_other w ⟨R, 1, none⟩ ⟨g, off + i1, none⟩ (.int .i64 ((p : Int) + 1)) (fun e => by injection e; omega)).trans hc1
        have hc2' := (World.cell?_setCell_other w ⟨R, 1, none⟩ ⟨g, off + i2, none⟩ (.int .i64 ((p : Int) + 1)) (fun e => by injection e; omega)).trans hc2
        have hpn : ¬ ((p : Int) < (n : Int)) := by omega
        have hn1 : (0 : Int) < (n : Int) := by omega
        clear hc
        go_enter Tryd.func84, Tryd.ntmps84
        go_wp2
        go_quiet (fail)
        obtain ⟨X, hX⟩ : ∃ X : Nat, (z1 : Int) * 131 + (z2 : Int) * 1117 + (p : Int) * 29 + (q : Int) * 53 = (X : Int) := ⟨z1 * 131 + z2 * 1117 + p * 29 + q * 53, by push_cast; rfl⟩
        have HXR : Hid (bits .xor .i64 (X : Int) ((X : Int) / 64) = ((X ^^^ (X / 64) : Nat) : Int)) := Lib.hid (by
          rw [show (X : Int) / 64 = ((X / 64 : Nat) : Int) from by omega]
          exact xor_i64_nat X (X / 64) (by omega) (by omega))
        rw [hX]
        have hX2 : (X : Int) ≤ 100000000 := by omega
        clear hX hi1 hi2 hq hc1 hc2 hc1' hc2'
        go_wp2
        go_ret
        refine picked_drawn nq ?_
        rw [HXR.out]
        exact picked_end HR.out _ (Int.tmod_nonneg _ (by omega)) (fun _ => Int.tmod_lt_of_pos _ (by omega))

end Go.Proofs.YtemolmkkiagiiaaDoor
