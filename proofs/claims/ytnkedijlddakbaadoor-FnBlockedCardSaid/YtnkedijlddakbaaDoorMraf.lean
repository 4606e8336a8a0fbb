/- It is proved what a round of the method mapped leaves; conditions: those of each statement. -/
import Derived.Deep.AppendLies
import Derived.Test.YtnkedijlddakbaaDoorRows
import Derived.WalkKit
import Derived.WalkSpells
import Derived.ProofKit
import Derived.OpenShut
import Derived.ShutString
import Derived.ChangeOld
import Derived.Below
import Derived.Deep.RegionHeld3
import Derived.Deep.QuietTactic
import Derived.BigQuiet
import Derived.Lib.Hide
import Derived.Lib.SmallJoins
import Derived.Outline
import Derived.Laws.MakeOwn
import Derived.Laws.OwnMore
import Derived.IntWalk
import Derived.RangeFuncNested
import Derived.RangeFuncBound
import Derived.RangeFuncCalls
import Derived.RangeFuncLeaves
import Derived.RangeFuncBox
import Derived.Shelf.Abstract
import Derived.Shelf.RegionOpen
import Derived.OwnWalkIn
import Derived.TacticsInMore
import Derived.LoopNIn
import Derived.LoopIn
import Derived.Maps.AppendAt
import Derived.Test.YtnkedijlddakbaaDoorMrab
import Derived.Test.YtnkedijlddakbaaDoorMrac
import Derived.Shelf.Spec.TrailingZeros
import Derived.Test.YtnkedijlddakbaaDoorMraa
import Derived.Test.YtnkedijlddakbaaDoorMrae
namespace Go.Proofs.YtnkedijlddakbaaDoor
open Go.RowKit Go.Shelf

attribute [local go_sem] Oper.semAt_some

/-- Block b holds just these cells. -/
def HasBlk (W : World) (b : Nat) (cs : Array Value) (t : TypeId) : Prop := W.heap[b]? = some (.cells cs t (0, 0))

theorem lt_of_some {W : World} {b : Nat} {o : Obj} (h : W.heap[b]? = some o) : b < W.heap.size := (Array.getElem?_eq_some_iff.1 h).1
theorem HasBlk.kept {W W' : World} {b : Nat} {cs : Array Value} {t : TypeId} {row : Option Nat} (h : HasBlk W b cs t) (hg : W.grownBy W' row) (hr : row ≠ some b) : HasBlk W' b cs t := (hg.block b (lt_of_some h) (Ne.symm hr)).trans h
theorem HasBlk.alloc {W : World} {b : Nat} {cs : Array Value} {t : TypeId} (h : HasBlk W b cs t) (o : Obj) : HasBlk (W.alloc o) b cs t := (alloc_old _ _ _ (lt_of_some h)).trans h
theorem HasBlk.far {W : World} {b : Nat} {cs : Array Value} {t : TypeId} (h : HasBlk W b cs t) {p : Addr} (hp : b ≠ p.block) (u : Value) : HasBlk (W.setCell p u) b cs t := (Below.heap_setCell W p u b hp).trans h
theorem hasBlk_own {β : Type} (b : Nat) (cs : Array Value) (t : TypeId) : Own (fun (_ : β) W => HasBlk W b cs t) := fun s W W' row h hg hrow =>
  HasBlk.kept h hg (fun e => by obtain ⟨o, ho, hc⟩ := hrow b e; rw [show W.heap[b]? = _ from h] at ho; cases ho; cases hc)

theorem ownsRow_base {w : World} {B B' : Nat} {e : TypeId} {size n : Nat} {v : Value} {xs : List Value} (h : w.ownsRow B' e size v n xs) (hB : B ≤ B') : w.ownsRow B e size v n xs := by
  refine ⟨h.1, ?_⟩
  rcases h.2 with h2 | ⟨g, cap, cur, e, hb, r⟩
  · exact .inl h2
  · exact .inr ⟨g, cap, cur, e, by omega, r⟩

theorem made_0 {w w1 : World} {o p q : Obj} (hg : (((w.alloc o).alloc p).alloc q).grownBy w1 none) : w1.heap[w.heap.size]? = some o := (hg.block _ (by simp; omega) (by simp)).trans (alloc3_0 _ _ _ _)
theorem made_1 {w w1 : World} {o p q : Obj} (hg : (((w.alloc o).alloc p).alloc q).grownBy w1 none) : w1.heap[w.heap.size + 1]? = some p := (hg.block _ (by simp) (by simp)).trans (alloc3_1 _ _ _ _)
theorem made_2 {w w1 : World} {o p q : Obj} (hg : (((w.alloc o).alloc p).alloc q).grownBy w1 none) : w1.heap[w.heap.size + 1 + 1]? = some q := (hg.block _ (by simp) (by simp)).trans (alloc3_2 _ _ _ _)
theorem below_made {w w1 : World} {o p q : Obj} (hg : (((w.alloc o).alloc p).alloc q).grownBy w1 none) : Below w.heap.size (((w.alloc o).alloc p).alloc q) w1 := (Below.refl _ _).grown hg (by simp; omega) (by simp)
/-- A goal that the walk leaves alone. -/
def Marked_ (p : Prop) : Prop := p

theorem mark_make {p : Prop} (h : Marked_ p) : p := h
theorem unmark_make {p : Prop} (h : p) : Marked_ p := h
theorem own_after {W w2 : World} {B : Nat} {e : TypeId} {size n : Nat} {v : Value} {xs : List Value} (h : W.ownsRow B e size v n xs) (hb : Below W.drew.heap.size W.drew w2) : w2.ownsRow B e size v n xs :=
  World.ownsRow.kept (w := W.drew) h (only_of_below hb none) (by cases v.ownBlock <;> simp)

theorem spare_cell {W : World} {B g n cap : Nat} {xs : List Value} (h : W.ownsRow B 3 1 (.slice (some ⟨g, 0, none⟩) n cap) n xs) (k : Nat) (hk : k < cap) :
    ∃ u, W.cell? ⟨g, k, none⟩ = some u ∧ W.frozen? ⟨g, k, none⟩ = false := by
  rcases h.2 with ⟨e, _⟩ | ⟨g', cap', cur, e, _, hg, _, _, hs, _⟩
  · cases e
  · injection e with e1 e2 e3
    injection e1 with e1
    injection e1 with e1
    subst e1; subst e3
    exact ⟨cur[k]'(by omega), (blk_cell hg k).trans (Array.getElem?_eq_getElem (by omega)), blk_frozen hg k⟩

theorem own_snoc {W : World} {B g n cap : Nat} {xs : List Value} (h : W.ownsRow B 3 1 (.slice (some ⟨g, 0, none⟩) n cap) n xs) (hn : n < cap) (y : Value) :
    (W.setCell ⟨g, n, none⟩ y).ownsRow B 3 1 (.slice (some ⟨g, 0, none⟩) (n + 1) cap) (n + 1) (xs ++ [y]) := by
  rcases h.2 with ⟨e, _⟩ | ⟨g', cap', cur, e, hb, hg, _, hm, hs, ht⟩
  · cases e
  · injection e with e1 e2 e3
    injection e1 with e1
    injection e1 with e1
    subst e1; subst e3
    refine ⟨by have := h.1; simp; omega, .inr ⟨g, cap, cur.setIfInBounds n y, rfl, hb, heap_setCell_same W g n cur 3 y hg, by omega, hm, by simpa using hs, ?_⟩⟩
    simp only [Nat.mul_one] at ht ⊢
    rw [Array.toList_setIfInBounds, List.take_succ_eq_append_getElem (by simp; omega), List.take_set_of_le (Nat.le_refl _), ht]
    simp

theorem after_spare {w2 : World} {G M k : Nat} {o : Obj} {y v : Value} (h : G < M) (hM : M < w2.heap.size) (hc : w2.cell? ⟨M, 0, none⟩ = some v) : ((w2.alloc o).setCell ⟨G, k, none⟩ y).cell? ⟨M, 0, none⟩ = some v :=
  (World.cell?_setCell_other _ _ _ _ (fun e => by injection e; omega)).trans ((World.cell?_alloc_lt _ _ _ hM).trans hc)

theorem after_spare_f {w2 : World} {G M k : Nat} {o : Obj} {y : Value} (h : G < M) (hM : M < w2.heap.size) (hc : w2.frozen? ⟨M, 0, none⟩ = false) : ((w2.alloc o).setCell ⟨G, k, none⟩ y).frozen? ⟨M, 0, none⟩ = false := by
  rw [World.frozen?_setCell]
  exact (World.frozen?_of_block (a := ⟨M, 0, none⟩) (alloc_old _ _ _ hM)).trans hc

theorem ownsRow_setCell_ne {W : World} {B : Nat} {e : TypeId} {size n : Nat} {v : Value} {xs : List Value} (h : W.ownsRow B e size v n xs) {p : Addr} (hp : v.ownBlock ≠ some p.block) (u : Value) : (W.setCell p u).ownsRow B e size v n xs := by
  refine ⟨h.1, ?_⟩
  rcases h.2 with h2 | ⟨g, cap, cur, rfl, hb, hg, r⟩
  · exact .inl h2
  · exact .inr ⟨g, cap, cur, rfl, hb, (Below.heap_setCell W p u g (fun e => hp (by simp [Value.ownBlock, e]))).trans hg, r⟩

/-- One round of mapped: what it leaves. -/
theorem mapped_end {w W w2 : World} {f : Int → Int} {n M G B b0 b1 b2 t0 t1 t2 : Nat} {c0 c1 c2 : Array Value} {pre : List (Nat × Int)} {x : Nat × Int} (hWs : w.heap.size ≤ W.heap.size) (hGM : G < M) (hG : w.heap.size ≤ G) (hlt : pre.length < n)
    (hb2 : Below W.drew.heap.size W.drew w2) (hv : Boxed W M 23 (.slice (some ⟨G, 0, none⟩) pre.length n))
    (hrow : W.ownsRow w.heap.size 3 1 (.slice (some ⟨G, 0, none⟩) pre.length n) pre.length ((pre.map fun p => f p.2).map (Value.int .i64))) (hB : Below w.heap.size w W)
    (q0 : HasBlk W b0 c0 t0) (h0 : b0 < G) (q1 : HasBlk W b1 c1 t1) (h1 : b1 < G) (q2 : HasBlk W b2 c2 t2) (h2 : b2 < G) :
    KeepsFrom B W (((w2.setCell ⟨G, pre.length, none⟩ (.int .i64 (f x.2))).setCell ⟨M, 0, none⟩ (.slice (some ⟨G, 0, none⟩) (pre.length + 1) n)).alloc (.cells #[.int .i64 (f x.2)] 3)) ∧
    Below w.heap.size W (((w2.setCell ⟨G, pre.length, none⟩ (.int .i64 (f x.2))).setCell ⟨M, 0, none⟩ (.slice (some ⟨G, 0, none⟩) (pre.length + 1) n)).alloc (.cells #[.int .i64 (f x.2)] 3)) ∧
    ((∃ v, Boxed (((w2.setCell ⟨G, pre.length, none⟩ (.int .i64 (f x.2))).setCell ⟨M, 0, none⟩ (.slice (some ⟨G, 0, none⟩) (pre.length + 1) n)).alloc (.cells #[.int .i64 (f x.2)] 3)) M 23 v ∧
      (((w2.setCell ⟨G, pre.length, none⟩ (.int .i64 (f x.2))).setCell ⟨M, 0, none⟩ (.slice (some ⟨G, 0, none⟩) (pre.length + 1) n)).alloc (.cells #[.int .i64 (f x.2)] 3)).ownsRow w.heap.size 3 1 v (pre ++ [x]).length (((pre ++ [x]).map fun p => f p.2).map (Value.int .i64)) ∧
      v = .slice (some ⟨G, 0, none⟩) (pre ++ [x]).length n) ∧
      HasBlk (((w2.setCell ⟨G, pre.length, none⟩ (.int .i64 (f x.2))).setCell ⟨M, 0, none⟩ (.slice (some ⟨G, 0, none⟩) (pre.length + 1) n)).alloc (.cells #[.int .i64 (f x.2)] 3)) b0 c0 t0 ∧
      HasBlk (((w2.setCell ⟨G, pre.length, none⟩ (.int .i64 (f x.2))).setCell ⟨M, 0, none⟩ (.slice (some ⟨G, 0, none⟩) (pre.length + 1) n)).alloc (.cells #[.int .i64 (f x.2)] 3)) b1 c1 t1 ∧
      HasBlk (((w2.setCell ⟨G, pre.length, none⟩ (.int .i64 (f x.2))).setCell ⟨M, 0, none⟩ (.slice (some ⟨G, 0, none⟩) (pre.length + 1) n)).alloc (.cells #[.int .i64 (f x.2)] 3)) b2 c2 t2) ∧
    Below w.heap.size w (((w2.setCell ⟨G, pre.length, none⟩ (.int .i64 (f x.2))).setCell ⟨M, 0, none⟩ (.slice (some ⟨G, 0, none⟩) (pre.length + 1) n)).alloc (.cells #[.int .i64 (f x.2)] 3)) := by
  have hbW : Below W.heap.size W w2 := ⟨hb2.os, hb2.tape, hb2.output, hb2.size, hb2.block⟩
  have hsz2 := hbW.size
  have k2 : KeepsOthers W w2 := ⟨hbW.size, fun k o hk _ => (hbW.block k (lt_of_some hk)).trans hk⟩
  have hb : Below w.heap.size W (((w2.setCell ⟨G, pre.length, none⟩ (.int .i64 (f x.2))).setCell ⟨M, 0, none⟩ (.slice (some ⟨G, 0, none⟩) (pre.length + 1) n)).alloc (.cells #[.int .i64 (f x.2)] 3)) :=
    (((hbW.mono hWs).setCell (p := ⟨G, pre.length, none⟩) hG _).setCell (p := ⟨M, 0, none⟩) (show w.heap.size ≤ M by omega) _).alloc (by simp; omega) _
  have hv2 : Boxed w2 M 23 (.slice (some ⟨G, 0, none⟩) pre.length n) := (hbW.block M hv.lt).trans hv
  have hv3 : Boxed (w2.setCell ⟨G, pre.length, none⟩ (.int .i64 (f x.2))) M 23 (.slice (some ⟨G, 0, none⟩) pre.length n) := HasBlk.far hv2 (show M ≠ G by omega) _
  have keepB : ∀ {b : Nat} {c : Array Value} {t : Nat}, HasBlk W b c t → b < G → HasBlk (((w2.setCell ⟨G, pre.length, none⟩ (.int .i64 (f x.2))).setCell ⟨M, 0, none⟩ (.slice (some ⟨G, 0, none⟩) (pre.length + 1) n)).alloc (.cells #[.int .i64 (f x.2)] 3)) b c t :=
    fun {b c t} q h => HasBlk.alloc (HasBlk.far (HasBlk.far ((hbW.block b (lt_of_some q)).trans q : HasBlk w2 b c t) (show b ≠ G by omega) _) (show b ≠ M by omega) _) _
  have hr3 := own_snoc (own_after hrow hb2) hlt (.int .i64 (f x.2))
  have hr4 := (ownsRow_setCell_ne hr3 (p := ⟨M, 0, none⟩) (by simp [Value.ownBlock]; omega) (.slice (some ⟨G, 0, none⟩) (pre.length + 1) n)).alloc (.cells #[.int .i64 (f x.2)] 3)
  refine ⟨(((k2.trans (KeepsOthers.setCell _ _ _)).trans (KeepsOthers.setCell _ _ _)).trans (KeepsOthers.alloc _ _)).from _, hb, ⟨⟨_, (hv3.set _).alloc _, ?_, ?_⟩, keepB q0 h0, keepB q1 h1, keepB q2 h2⟩, hB.trans hb⟩
  · rw [List.map_append, List.map_append, List.length_append]
    exact hr4
  · rw [List.length_append]; rfl

theorem lt_of_cell {W : World} {g k : Nat} {u : Value} (h : W.cell? ⟨g, k, none⟩ = some u) : g < W.heap.size := World.block_lt_of_cell? W _ h
theorem cell2_0 (x y : Value) : (#[x, y] : Array Value)[0]? = some x := rfl
theorem cell2_1 (x y : Value) : (#[x, y] : Array Value)[1]? = some y := rfl
theorem cell1_0 (x : Value) : (#[x] : Array Value)[0]? = some x := rfl
end Go.Proofs.YtnkedijlddakbaaDoor

/- It is proved what the iterator over a family's clubs yields where each club is a set of members; conditions: those of each statement. -/
namespace Go
end Go
namespace Go.Proofs.YtnkedijlddakbaaDoor
open Go.RowKit Go.Shelf

attribute [local go_sem] Oper.semAt_some

set_option maxRecDepth 100000 in
set_option maxHeartbeats 2000000 in
theorem clubsP1_in (P : Nat × Int → Prop) (n : Nat) (hn : 1 ≤ n) (l Bs n₀ : Nat) (a : Option Addr) (c : Nat) (zs : List Int) (hlen : zs.length ≤ 1048576) (hP : ∀ k, k < zs.length → P (k, zs[k]?.getD 0)) (J Jx : List { p // P p } → World → Prop)
    (hY : ∀ pre x W, J pre W → pre.length < zs.length → YieldAt Fence.wide (n - 1) Tryd.prog l #[.int .i64 (x.1.1 : Int), .int .i64 x.1.2] W fun e W' =>
      (e = .returned (.bool true) ∧ J (pre ++ [x]) W' ∧ Below n₀ W W') ∨ (e = .returned (.bool false) ∧ Jx (pre ++ [x]) W'))
    (W : World) (hBs : W.cell? ⟨Bs, 1, none⟩ = some (.slice a zs.length c)) (hI : Ints W n₀ a zs) (h0 : J [] W) :
    CallsIn Fence.wide n Tryd.prog 63 #[.func (.yield l) #[] #[], .pointer (some ⟨Bs, 0, none⟩)] W fun e W' => (∃ v, e = .returned v) ∧
      ((∃ ys, ys.map (·.1) = pairs zs zs.length ∧ J ys W') ∨ (∃ pre, (∃ k, k ≤ zs.length ∧ pre.map (·.1) = pairs zs k) ∧ Jx pre W')) := by
  refine callsIn_of_wp Tryd.func63 rfl trivial ?_ rfl
  simp only [Tryd.ntmps63, List.size_toArray, List.length_cons, List.length_nil, Nat.reduceAdd, Nat.reduceSub, Array.replicate_succ, Array.replicate_zero, List.push_toArray, List.append_toArray, List.nil_append, List.cons_append]
  gi_wp2
  gi_loopw [8] (fun i wr => ∃ (k : Nat) (pre : List { p // P p }), k ≤ zs.length ∧ i = .int .i64 k ∧ pre.map (·.1) = pairs zs k ∧ J pre wr ∧ Below n₀ W wr)
    (fun i _ => zs.length - (intOf i).toNat)
  case atStart => exact ⟨0, [], Nat.zero_le _, rfl, rfl, h0, Below.refl _ _⟩
  case round =>
    obtain ⟨k, pre, hk, rfl, hpre, hJs, hnx⟩ := hrel
    by_cases hlt : k < zs.length
    · obtain ⟨b, off, rfl, hb, hc⟩ := hI.at_ hlt
      have hcx' : wr.cell? ⟨b, off + k, none⟩ = some (.int .i64 (zs[k]?.getD 0)) := (hnx.cell (p := ⟨b, off + k, none⟩) hb).trans hc
      have hpl : pre.length < zs.length := by have := congrArg List.length hpre; rw [List.length_map, pairs_length] at this; omega
      have hPk : P (k, zs[k]) := by have := hP k hlt; simpa [hlt] using this
      have hpre' : (pre ++ [(⟨(k, zs[k]), hPk⟩ : { p // P p })]).map (·.1) = pairs zs (k + 1) := by rw [List.map_append, hpre, pairs_succ' zs k hlt]; rfl
      obtain ⟨fn, tmps, assign, body, hy, hR⟩ := hY _ ⟨(k, zs[k]), hPk⟩ wr hJs hpl
      dsimp only at hy
      clear hpre
      gi_wp2
      refine hR.mono ?_
      rintro e W3 (⟨rfl, hJ3, hk3⟩ | ⟨rfl, hJx3⟩)
      · gi_wp2
        go_roundw
        case rel => exact ⟨k + 1, _, by omega, by simp, hpre', hJ3, hnx.trans hk3⟩
        case measure => simp [intOf]; omega
      · gi_wp2
        refine bodyPost_ret (results_none rfl _ _ _) rfl ?_
        exact ⟨⟨_, rfl⟩, .inr ⟨_, ⟨k + 1, by omega, hpre'⟩, hJx3⟩⟩
    · obtain rfl : k = zs.length := by omega
      gi_wp2
      go_end0
      exact ⟨⟨_, rfl⟩, .inl ⟨_, hpre, hJs⟩⟩

theorem clubsP_stops (P : Nat × Int → Prop) (n : Nat) (hn : 1 ≤ n) (Bs n₀ : Nat) (a : Option Addr) (c : Nat) (zs : List Int) (hlen : zs.length ≤ 1048576) (hP : ∀ k, k < zs.length → P (k, zs[k]?.getD 0)) (w : World) (hBs : Bs < w.heap.size) (hn₀ : n₀ ≤ w.heap.size)
    (hc : w.cell? ⟨Bs, 1, none⟩ = some (.slice a zs.length c)) (hI : Ints w n₀ a zs) :
    SeqStopsK Fence.wide n Tryd.prog 63 #[.pointer (some ⟨Bs, 0, none⟩)] (fun x : { p // P p } => #[Value.int .i64 (x.1.1 : Int), Value.int .i64 x.1.2]) (Below n₀) (fun ys => ys.map (·.1) = pairs zs zs.length)
      (fun pre => ∃ k, k ≤ zs.length ∧ pre.map (·.1) = pairs zs k) zs.length w := fun l J Jx W hW _ _ hY h0 =>
  clubsP1_in P n hn l Bs n₀ a c zs hlen hP J Jx hY W ((hW.cell (p := ⟨Bs, 1, none⟩) hBs).trans hc) (hI.below (hW.mono hn₀)) h0

/-- What the body of a loop over clubs knows of a club. -/
def IsClub (m : Nat) (p : Nat × Int) : Prop := p.1 < 8 ∧ 0 ≤ p.2 ∧ p.2.toNat < 2 ^ m

theorem IsClub.small {m : Nat} (hm : m ≤ 6) {p : Nat × Int} (h : IsClub m p) : p.2.toNat < 64 := Nat.lt_of_lt_of_le h.2.2 (Nat.pow_le_pow_right (by decide) hm : 2 ^ m ≤ 2 ^ 6)
/-- The clubs behind what is known of them. -/
def sets {m : Nat} (ys : List { p // IsClub m p }) : List Int := ys.map (·.1.2)

end Go.Proofs.YtnkedijlddakbaaDoor
