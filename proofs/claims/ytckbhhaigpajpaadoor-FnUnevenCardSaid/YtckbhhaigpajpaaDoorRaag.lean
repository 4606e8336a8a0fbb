/- It is proved that parts of the members are alike whoever tells them; conditions: those of each statement. -/
import Derived.Test.YtckbhhaigpajpaaDoorRows
import Derived.WalkKit
import Derived.WalkSpells
import Derived.ProofKit
import Derived.OpenShut
import Derived.ShutString
import Derived.ChangeOld
import Derived.Below
import Derived.Deep.RegionHeld3
import Derived.Deep.QuietTactic
import Derived.BigQuiet
import Derived.Lib.Hide
import Derived.Lib.SmallJoins
import Derived.Outline
import Derived.Laws.MakeOwn
import Derived.Laws.OwnMore
import Derived.IntWalk
import Derived.RangeFuncNested
import Derived.RangeFuncBound
import Derived.RangeFuncCalls
import Derived.RangeFuncLeaves
import Derived.RangeFuncBox
import Derived.Shelf.Abstract
import Derived.Shelf.RegionOpen
import Derived.OwnWalkIn
import Derived.TacticsInMore
import Derived.LoopNIn
import Derived.LoopIn
import Derived.Maps.AppendAt
import Derived.Deep.AppendLies
import Derived.OwnWalk
import Derived.StillTail
import Derived.StillTactics
import Derived.OrdersIn
import Derived.TacticsIn
import Derived.Shelf.Spec.TrailingZeros
import Derived.StillTailTactics
import Derived.Test.YtckbhhaigpajpaaDoorRaaf
import Derived.Test.YtckbhhaigpajpaaDoorRaaa
import Derived.Test.YtckbhhaigpajpaaDoorRaab
import Derived.Test.YtckbhhaigpajpaaDoorRaad
namespace Go.Proofs.YtckbhhaigpajpaaDoor

/-- One club is let in where it meets. -/
def meet1 (t k : Nat) : Nat := if k &&& t = 0 then t else t ||| k

/-- All clubs, one behind the other. -/
def stepP (ks : List Nat) (s : Nat) : Nat := ks.foldl meet1 s

theorem stepP_snoc (ks : List Nat) (k s : Nat) : stepP (ks ++ [k]) s = meet1 (stepP ks s) k := by simp [stepP]
theorem meet1_ge (t k i : Nat) (h : t.testBit i = true) : (meet1 t k).testBit i = true := by
  unfold meet1; split
  · exact h
  · simp [h]

theorem stepP_ge (ks : List Nat) : ∀ (s i : Nat), s.testBit i = true → (stepP ks s).testBit i = true := by
  induction ks with
  | nil => intro s i h; exact h
  | cons k ks ih => intro s i h; exact ih _ i (meet1_ge s k i h)

/-- What a club meets it has whole. -/
def ClosedP (ks : List Nat) (C : Nat → Prop) : Prop := ∀ k ∈ ks, (∃ i, k.testBit i = true ∧ C i) → ∀ i, k.testBit i = true → C i

theorem and_ne {k t : Nat} (h : k &&& t ≠ 0) : ∃ i, k.testBit i = true ∧ t.testBit i = true := by
  obtain ⟨i, hi⟩ := Nat.exists_testBit_of_ne_zero h
  rw [Nat.testBit_and, Bool.and_eq_true] at hi
  exact ⟨i, hi⟩

theorem and_zero {k t : Nat} (h : k &&& t = 0) (i : Nat) (hk : k.testBit i = true) : t.testBit i = false := by
  have h1 : (k &&& t).testBit i = false := by rw [h]; simp
  rw [Nat.testBit_and, hk, Bool.true_and] at h1
  exact h1

theorem stepP_in {C : Nat → Prop} : ∀ (ks : List Nat) (s : Nat), ClosedP ks C → (∀ i, s.testBit i = true → C i) → ∀ i, (stepP ks s).testBit i = true → C i
  | [], _, _, h, i, hi => h i hi
  | k :: ks, s, hc, h, i, hi => by
    refine stepP_in ks (meet1 s k) (fun k' hk' => hc k' (by simp [hk'])) ?_ i hi
    intro j hj
    unfold meet1 at hj
    split at hj
    · exact h j hj
    · rename_i hne
      rw [Nat.testBit_or, Bool.or_eq_true] at hj
      rcases hj with hj | hj
      · exact h j hj
      · obtain ⟨x, hx1, hx2⟩ := and_ne hne
        exact hc k (by simp) ⟨x, hx1, h x hx2⟩ j hj

theorem stepP_closed : ∀ (ks : List Nat) (s : Nat), stepP ks s = s → ClosedP ks (fun i => s.testBit i = true)
  | [], _, _ => fun k hk => by simp at hk
  | k :: ks, s, h => by
    have h1 : meet1 s k = s := by
      apply Nat.eq_of_testBit_eq
      intro i
      cases hb : s.testBit i
      · cases hm : (meet1 s k).testBit i
        · rfl
        · have := stepP_ge ks _ i hm
          rw [show stepP ks (meet1 s k) = stepP (k :: ks) s from rfl, h, hb] at this
          exact this.symm
      · exact meet1_ge s k i hb
    have h2 : stepP ks s = s := by
      have : stepP (k :: ks) s = stepP ks (meet1 s k) := rfl
      rw [h1] at this
      rw [← this]; exact h
    intro k' hk' hm i hi
    rcases List.mem_cons.1 hk' with rfl | hk'
    · obtain ⟨x, hx1, hx2⟩ := hm
      have hne : ¬ (k' &&& s = 0) := fun e => by rw [and_zero e x hx1] at hx2; cases hx2
      unfold meet1 at h1
      rw [if_neg hne] at h1
      show s.testBit i = true
      rw [← h1, Nat.testBit_or, hi, Bool.or_true]
    · exact stepP_closed ks s h2 k' hk' hm i hi

def iterP (ks : List Nat) : Nat → Nat → Nat
  | 0, s => s
  | n + 1, s => stepP ks (iterP ks n s)

theorem iterP_ge (ks : List Nat) (s i : Nat) (h : s.testBit i = true) : ∀ n, (iterP ks n s).testBit i = true
  | 0 => h
  | n + 1 => stepP_ge ks _ i (iterP_ge ks s i h n)

theorem iterP_in {C : Nat → Prop} (ks : List Nat) (hc : ClosedP ks C) (s : Nat) (h : ∀ i, s.testBit i = true → C i) : ∀ n i, (iterP ks n s).testBit i = true → C i
  | 0 => h
  | n + 1 => stepP_in ks _ hc (iterP_in ks hc s h n)

theorem iterP_fix (ks : List Nat) (s n : Nat) (h : stepP ks (iterP ks n s) = iterP ks n s) : ∀ k, iterP ks (n + k) s = iterP ks n s
  | 0 => rfl
  | k + 1 => by
    have : iterP ks (n + (k + 1)) s = stepP ks (iterP ks (n + k) s) := rfl
    rw [this, iterP_fix ks s n h k, h]

set_option maxRecDepth 100000 in
theorem pop_grow : ∀ s, s < 64 → ∀ t, t < 64 → s ||| t = t → s ≠ t → popS s < popS t := by decide +kernel

set_option maxRecDepth 100000 in
theorem pop_le : ∀ m, m ≤ 6 → ∀ s, s < 2 ^ m → popS s ≤ m := by decide +kernel

theorem stepP_lt (m : Nat) (ks : List Nat) (hk : ∀ k ∈ ks, k < 2 ^ m) : ∀ s, s < 2 ^ m → stepP ks s < 2 ^ m := by
  induction ks with
  | nil => intro s h; exact h
  | cons k ks ih =>
    intro s h
    refine ih (fun k' h' => hk k' (by simp [h'])) _ ?_
    unfold meet1; split
    · exact h
    · exact Nat.or_lt_two_pow h (hk k (by simp))

theorem stepP_or (ks : List Nat) (s : Nat) : s ||| stepP ks s = stepP ks s := by
  apply Nat.eq_of_testBit_eq
  intro i
  rw [Nat.testBit_or]
  cases hb : s.testBit i
  · simp
  · rw [stepP_ge ks s i hb]; rfl

theorem iterP_lt (m : Nat) (ks : List Nat) (hk : ∀ k ∈ ks, k < 2 ^ m) (s : Nat) (hs : s < 2 ^ m) : ∀ n, iterP ks n s < 2 ^ m
  | 0 => hs
  | n + 1 => stepP_lt m ks hk _ (iterP_lt m ks hk s hs n)

/-- After m rounds nothing grows. -/
theorem iterP_done (m : Nat) (hm : m ≤ 6) (ks : List Nat) (hk : ∀ k ∈ ks, k < 2 ^ m) (s : Nat) (hs : s < 2 ^ m) (h1 : 1 ≤ popS s) : stepP ks (iterP ks m s) = iterP ks m s := by
  have h64 : ∀ n, iterP ks n s < 64 := fun n => Nat.lt_of_lt_of_le (iterP_lt m ks hk s hs n) (Nat.pow_le_pow_right (by decide) hm : 2 ^ m ≤ 2 ^ 6)
  have key : ∀ n, stepP ks (iterP ks n s) = iterP ks n s ∨ n + 1 ≤ popS (iterP ks n s) := by
    intro n
    induction n with
    | zero => exact .inr h1
    | succ n ih =>
      by_cases hf : stepP ks (iterP ks n s) = iterP ks n s
      · left
        show stepP ks (stepP ks (iterP ks n s)) = stepP ks (iterP ks n s)
        rw [hf, hf]
      · right
        rcases ih with h | h
        · exact absurd h hf
        · have := pop_grow _ (h64 n) _ (h64 (n + 1)) (stepP_or ks _) (fun e => hf e.symm)
          omega
  rcases key m with h | h
  · exact h
  · have := pop_le m hm _ (iterP_lt m ks hk s hs m)
    omega

/-- The part of a member. -/
def partP (m : Nat) (ks : List Nat) (v : Nat) : Nat := iterP ks m (2 ^ v)

structure Ksm (m : Nat) (ks : List Nat) : Prop where
  six : m ≤ 6
  lt : ∀ k ∈ ks, k < 2 ^ m

set_option maxRecDepth 100000 in
theorem pop_one : ∀ v, v < 6 → popS (2 ^ v) = 1 := by decide +kernel

theorem partP_lt {m : Nat} {ks : List Nat} (h : Ksm m ks) {v : Nat} (hv : v < m) : partP m ks v < 2 ^ m := iterP_lt m ks h.lt _ (Nat.pow_lt_pow_right (by decide) hv) m
theorem partP_closed {m : Nat} {ks : List Nat} (h : Ksm m ks) {v : Nat} (hv : v < m) : ClosedP ks (fun i => (partP m ks v).testBit i = true) :=
  stepP_closed ks _ (iterP_done m h.six ks h.lt _ (Nat.pow_lt_pow_right (by decide) hv) (by rw [pop_one v (by have := h.six; omega)]; omega))

theorem partP_self {m : Nat} {ks : List Nat} (v : Nat) : (partP m ks v).testBit v = true := iterP_ge ks _ v (by simp) m
theorem partP_min {m : Nat} {ks : List Nat} {v : Nat} {C : Nat → Prop} (hc : ClosedP ks C) (hv : C v) : ∀ i, (partP m ks v).testBit i = true → C i :=
  iterP_in ks hc _ (fun i hi => by
    rw [Nat.testBit_two_pow, decide_eq_true_eq] at hi
    rw [← hi]; exact hv) m

theorem partP_sym {m : Nat} {ks : List Nat} (h : Ksm m ks) {u v : Nat} (hu : u < m) (huv : (partP m ks v).testBit u = true) : (partP m ks u).testBit v = true := by
  cases hb : (partP m ks u).testBit v
  · have hc : ClosedP ks (fun i => (partP m ks u).testBit i = false) := by
      intro k hk hm i hi
      obtain ⟨x, hx1, hx2⟩ := hm
      cases hb2 : (partP m ks u).testBit i
      · rfl
      · have h3 : (partP m ks u).testBit x = true := partP_closed h hu k hk ⟨i, hi, hb2⟩ x hx1
        rw [hx2] at h3; cases h3
    have h4 : (partP m ks u).testBit u = false := partP_min (m := m) hc hb u huv
    rw [partP_self u] at h4; cases h4
  · rfl

theorem partP_trans {m : Nat} {ks : List Nat} (h : Ksm m ks) {u v : Nat} (hv : v < m) (huv : (partP m ks v).testBit u = true) : ∀ i, (partP m ks u).testBit i = true → (partP m ks v).testBit i = true :=
  partP_min (m := m) (partP_closed h hv) huv

/-- No member of v's part is ahead of v. -/
def firstP (m : Nat) (ks : List Nat) (v : Nat) : Bool := decide (partP m ks v &&& (2 ^ v - 1) = 0)

theorem firstP_iff {m : Nat} {ks : List Nat} (h : Ksm m ks) {v : Nat} (hv : v < m) : firstP m ks v = true ↔ ∀ u, u < v → (partP m ks u).testBit v = false := by
  unfold firstP
  rw [decide_eq_true_eq]
  constructor
  · intro h0 u hu
    cases hb : (partP m ks u).testBit v
    · rfl
    · have h1 := partP_sym h hv hb
      have := and_zero h0 u h1
      rw [Nat.testBit_two_pow_sub_one] at this
      simp at this
      omega
  · intro h0
    apply Nat.eq_of_testBit_eq
    intro i
    rw [Nat.testBit_and, Nat.testBit_two_pow_sub_one, Nat.zero_testBit]
    by_cases hi : i < v
    · cases hb : (partP m ks v).testBit i
      · simp
      · have h1 := partP_sym h (by omega) hb
        rw [h0 i hi] at h1; cases h1
    · simp [hi]

/-- How many members are first of their parts. -/
def cntP (m : Nat) (ks : List Nat) (v : Nat) : Nat := ((List.range v).filter (firstP m ks)).length

theorem cntP_succ (m : Nat) (ks : List Nat) (v : Nat) : cntP m ks (v + 1) = cntP m ks v + (if firstP m ks v = true then 1 else 0) := by
  unfold cntP
  rw [List.range_succ, List.filter_append, List.length_append]
  by_cases h : firstP m ks v = true
  · simp [h]
  · simp [h]

theorem cntP_le (m : Nat) (ks : List Nat) (v : Nat) : cntP m ks v ≤ v := by
  unfold cntP
  exact Nat.le_trans (List.length_filter_le _ _) (by simp)

end Go.Proofs.YtckbhhaigpajpaaDoor

/- It is proved what l1None, l1With and the model's FamilyMeet return; conditions: those of each statement. -/
namespace Go.Proofs.YtckbhhaigpajpaaDoor
open Go.RowKit

theorem alloc2_0 (w : World) (o p : Obj) : ((w.alloc o).alloc p).heap[w.heap.size]? = some o := by rw [alloc_old _ _ _ (by simp), alloc_new]
theorem alloc2_1 (w : World) (o p : Obj) : ((w.alloc o).alloc p).heap[w.heap.size + 1]? = some p := by
  rw [show w.heap.size + 1 = (w.alloc o).heap.size from by simp, alloc_new]

/-- A new empty row. -/
theorem own_empty {w : World} {B g : Nat} (h : w.heap[g]? = some (.cells #[] 3 (0, 0))) (hB : B ≤ g) : OwnI w B (.slice (some ⟨g, 0, none⟩) 0 0) [] :=
  ⟨by simp, .inr ⟨g, 0, #[], rfl, hB, h, Nat.le_refl _, by simp [maxLen], by simp, by simp⟩⟩

theorem map_at (f : Int → Int) (zs : List Int) (k : Nat) (h : k < zs.length) : (zs.take (k + 1)).map f = (zs.take k).map f ++ [f (zs[k]?.getD 0)] := by
  rw [List.take_succ_eq_append_getElem h, List.map_append]; simp [h]

/-- What a function that maps the clubs comes to. -/
def famMap (c : Bool) (_m : Int) (f : Int → Int) (zs : List Int) : List Int := if c then zs.map f else []

def famM (c : Bool) (m : Int) : Int := if c then m else 0
theorem OwnI.form {w : World} {B : Nat} {v : Value} {zs : List Int} (h : OwnI w B v zs) (hn : 0 < zs.length) : ∃ g cap, v = .slice (some ⟨g, 0, none⟩) zs.length cap ∧ B ≤ g ∧ g < w.heap.size := World.ownsRow.form h hn
end Go.Proofs.YtckbhhaigpajpaaDoor

/- It is proved what meets and reached return; conditions: those of each statement. -/
namespace Go.Proofs.YtckbhhaigpajpaaDoor
open Go.RowKit Go.Shelf

attribute [local go_sem] Oper.semAt_some

set_option maxRecDepth 100000 in
theorem and_fin : ∀ x : Fin 64, ∀ y : Fin 64, bits BinOp.and IntKind.i64 (x.val : Int) (y.val : Int) = ((x.val &&& y.val : Nat) : Int) := by decide +kernel

set_option maxRecDepth 100000 in
theorem or6_fin : ∀ x : Fin 64, ∀ y : Fin 64, bits BinOp.or IntKind.i64 (x.val : Int) (y.val : Int) = ((x.val ||| y.val : Nat) : Int) := by decide +kernel

theorem and6_at (x y : Nat) (hx : x < 64) (hy : y < 64) : bits BinOp.and IntKind.i64 (x : Int) (y : Int) = ((x &&& y : Nat) : Int) := and_fin ⟨x, hx⟩ ⟨y, hy⟩
theorem or6_at (x y : Nat) (hx : x < 64) (hy : y < 64) : bits BinOp.or IntKind.i64 (x : Int) (y : Int) = ((x ||| y : Nat) : Int) := or6_fin ⟨x, hx⟩ ⟨y, hy⟩
theorem meets_any (x y : Nat) (hx : x < 64) (hy : y < 64) (w : World) :
    Calls Tryd.prog 60 #[.int .i64 (x : Int), .int .i64 (y : Int)] w fun e w' => e = .returned (.bool (!decide (x &&& y = 0))) ∧ w = w' := by
  have HA := Lib.hid (and6_at x y hx hy)
  have HE : Hid ((((x &&& y : Nat) : Int) != 0) = !decide (x &&& y = 0)) := Lib.hid (by
    by_cases h : x &&& y = 0
    · rw [h]; rfl
    · rw [decide_eq_false h, bne_iff_ne.2 (by omega)]; rfl)
  go_enter Tryd.func60, Tryd.ntmps60
  go_wp2
  go_ret
  exact ⟨by rw [← HE.out, ← HA.out]; rfl, rfl⟩

/-- The mark of a loop over a function. -/
def mkD (D : Nat) : Deferred := { target := .collected D, args := #[] }

/-- Marks that hold nothing, each once. -/
structure Marks (lo hi : Nat) (Ds : List Nat) (W : World) : Prop where
  once : Ds.Nodup
  at_ : ∀ D ∈ Ds, lo ≤ D ∧ D < hi ∧ W.heap[D]? = some (.deferred (some []))

theorem Marks.own {β : Type} (lo hi : Nat) (Ds : List Nat) {B : Nat} (hB : hi ≤ B) : OwnFrom B (fun (_ : β) W => Marks lo hi Ds W) :=
  fun _ X Y row hs hg hr => ⟨hs.once, fun D hD => by
    obtain ⟨h1, h2, h3⟩ := hs.at_ D hD
    exact ⟨h1, h2, (hg.block D (lt_of_some h3) (fun e => by have := (hr D e.symm).1; omega)).trans h3⟩⟩

theorem Marks.setCell {lo hi : Nat} {Ds : List Nat} {W : World} (h : Marks lo hi Ds W) {p : Addr} (hp : p.block < lo) (u : Value) : Marks lo hi Ds (W.setCell p u) :=
  ⟨h.once, fun D hD => by
    obtain ⟨h1, h2, h3⟩ := h.at_ D hD
    exact ⟨h1, h2, (Below.heap_setCell W p u D (by omega)).trans h3⟩⟩

theorem Marks.alloc {lo hi : Nat} {Ds : List Nat} {W : World} (h : Marks lo hi Ds W) (o : Obj) : Marks lo hi Ds (W.alloc o) :=
  ⟨h.once, fun D hD => by
    obtain ⟨h1, h2, h3⟩ := h.at_ D hD
    exact ⟨h1, h2, (alloc_old W o D (lt_of_some h3)).trans h3⟩⟩

theorem Marks.cons {lo hi : Nat} {Ds : List Nat} {W : World} (h : Marks lo hi Ds W) {D : Nat} (hD : hi ≤ D) (hlo : lo ≤ D) (hk : W.heap[D]? = some (.deferred (some []))) : Marks lo (D + 1) (D :: Ds) W :=
  ⟨List.nodup_cons.2 ⟨fun hm => by have := (h.at_ D hm).2.1; omega, h.once⟩, fun E hE => by
    rcases List.mem_cons.1 hE with rfl | hE
    · exact ⟨hlo, by omega, hk⟩
    · obtain ⟨h1, h2, h3⟩ := h.at_ E hE
      exact ⟨h1, by omega, h3⟩⟩

theorem Marks.mono {lo hi hi' : Nat} {Ds : List Nat} {W : World} (h : Marks lo hi Ds W) (hh : hi ≤ hi') : Marks lo hi' Ds W :=
  ⟨h.once, fun D hD => by obtain ⟨h1, h2, h3⟩ := h.at_ D hD; exact ⟨h1, by omega, h3⟩⟩

theorem leaves_marks {F : Fence} {n : Nat} {P : Program} {fn : Func} {tmps : Array Value} {R : Ending → World → Prop} {v : Value} {lo hi : Nat} (hres : ∀ W, (results fn tmps).run P W = .ok v W) :
    ∀ (Ds : List Nat) (W : World), Marks lo hi Ds W → (∀ W', Below lo W W' → R (.returned v) W') → LeavesInM F n P fn tmps R (Ds.map mkD) .returning W
  | [], W, _, hR => ⟨v, hres W, hR W (Below.refl _ _)⟩
  | D :: Ds, W, h, hR => by
    obtain ⟨h1, h2, h3⟩ := h.at_ D (by simp)
    have hn := List.nodup_cons.1 h.once
    refine ⟨by simp, .inl ⟨D, _, rfl, run_takeDeferred h3, ?_⟩⟩
    have hb : Below lo W (W.putObj D (.deferred none)) := (Below.refl lo W).grown (grownBy_putObj' W D _) (Nat.le_trans h1 (Nat.le_of_lt (lt_of_some h3))) (fun k e => by cases e; exact h1)
    refine leaves_marks (hi := hi) hres Ds _ ⟨hn.2, fun E hE => ?_⟩ (fun W' hW' => hR W' (hb.trans hW'))
    obtain ⟨g1, g2, g3⟩ := h.at_ E (by simp [hE])
    refine ⟨g1, g2, ?_⟩
    rw [World.putObj_heap_other (fun e => hn.1 (by rw [← e]; exact hE))]
    exact g3

end Go.Proofs.YtckbhhaigpajpaaDoor
