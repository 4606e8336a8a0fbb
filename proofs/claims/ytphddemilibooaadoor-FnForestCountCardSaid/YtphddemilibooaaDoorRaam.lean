/- It is proved what a loop over a function does where the function keeps its state in cells of its own and the body writes a variable's block and ints of its own; conditions: those of each statement. -/
import Derived.RangeFuncNested
import Derived.RangeFuncBound
import Derived.RangeFuncCalls
import Derived.RangeFuncLeaves
import Derived.RangeFuncBox
import Derived.RangeFuncWrites
import Derived.Test.YtphddemilibooaaDoorRaal
import Derived.Test.YtphddemilibooaaDoorRows
import Derived.WalkKit
import Derived.WalkSpells
import Derived.ProofKit
import Derived.OpenShut
import Derived.ShutString
import Derived.ChangeOld
import Derived.Below
import Derived.Deep.RegionHeld3
import Derived.Deep.QuietTactic
import Derived.BigQuiet
import Derived.Lib.Hide
import Derived.Lib.SmallJoins
import Derived.Outline
import Derived.Laws.MakeOwn
import Derived.Laws.OwnMore
import Derived.IntWalk
import Derived.Shelf.Abstract
import Derived.Shelf.RegionOpen
import Derived.OwnWalkIn
import Derived.TacticsInMore
import Derived.LoopNIn
import Derived.LoopIn
import Derived.Maps.AppendAt
import Derived.Deep.AppendLies
import Derived.OwnWalk
import Derived.StillTail
import Derived.StillTactics
import Derived.OrdersIn
import Derived.TacticsIn
import Derived.Shelf.Spec.TrailingZeros
import Derived.StillTailTactics
import Derived.Test.YtphddemilibooaaDoorRaaa
namespace Go
open Go.RowKit

/-- What a round may turn: the loop's record, a variable's block D, and ints from lo on. -/
structure ButF (lo D l : Nat) (A B : World) : Prop where
  os : B.os = A.os
  tape : B.tape = A.tape
  output : B.output = A.output
  size : A.heap.size ≤ B.heap.size
  same : ∀ k, k < A.heap.size → k ≠ l → k ≠ D → (lo ≤ k → ∀ cs z, A.heap[k]? ≠ some (.cells cs 3 z)) → B.heap[k]? = A.heap[k]?

theorem ButF.refl (lo D l : Nat) (W : World) : ButF lo D l W W := ⟨rfl, rfl, rfl, Nat.le_refl _, fun _ _ _ _ _ => rfl⟩
theorem ButF.trans {lo D l : Nat} {A B C : World} (h : ButF lo D l A B) (k : ButF lo D l B C) : ButF lo D l A C :=
  ⟨k.os.trans h.os, k.tape.trans h.tape, k.output.trans h.output, Nat.le_trans h.size k.size, fun i hi hl hD hn => by
    have h1 := h.same i hi hl hD hn
    exact (k.same i (Nat.lt_of_lt_of_le hi h.size) hl hD (fun hlo cs z => by rw [h1]; exact hn hlo cs z)).trans h1⟩

theorem ButF.of_but {lo D l : Nat} {X : Nat → Prop} {A B : World} (h : But X A B) (hX : ∀ k, X k → k = l ∨ k = D) : ButF lo D l A B :=
  ⟨h.os, h.tape, h.output, h.size, fun k hk h1 h2 _ => h.same k hk (fun e => (hX k e).elim h1 h2)⟩

theorem ButF.of_below {lo D l : Nat} {A B : World} (h : Below A.heap.size A B) : ButF lo D l A B := ⟨h.os, h.tape, h.output, h.size, fun k hk _ _ _ => h.block k hk⟩
theorem ButF.drew {lo D l : Nat} (W : World) : ButF lo D l W W.drew := ⟨rfl, rfl, rfl, Nat.le_refl _, fun _ _ _ _ _ => rfl⟩
theorem ButF.to {lo D l : Nat} {A B : World} (h : ButF lo D D A B) : ButF lo D l A B := ⟨h.os, h.tape, h.output, h.size, fun k hk _ h2 h3 => h.same k hk h2 h2 h3⟩
theorem ButF.below {lo D l : Nat} {A B : World} (h : ButF lo D l A B) (hlo : lo ≤ A.heap.size) (hD : lo ≤ D) (hl : lo ≤ l) : Below lo A B :=
  ⟨h.os, h.tape, h.output, h.size, fun k hk => h.same k (by omega) (by omega) (by omega) (fun e => by omega)⟩

theorem ButF.keep {lo D l k : Nat} {A B : World} {o : Obj} (h : ButF lo D l A B) (hk : A.heap[k]? = some o) (h1 : k ≠ l) (h2 : k ≠ D) (h3 : lo ≤ k → ∀ cs z, o ≠ .cells cs 3 z) : B.heap[k]? = some o :=
  (h.same k (Array.getElem?_eq_some_iff.1 hk).1 h1 h2 (fun hlo cs z e => h3 hlo cs z (by rw [hk] at e; exact Option.some.inj e))).trans hk

theorem ButF.from {lo D l B : Nat} {W W' : World} (h : ButF lo D l W W') (hD : D < B) (hl : l < B) : KeepsFrom B W W' :=
  ⟨h.size, fun k o hB hk ho => h.keep hk (by omega) (by omega) (fun _ cs z e => by subst e; cases ho)⟩

/-- Behind an append of ints and the store back into the variable's block. -/
theorem ButF.append {lo D : Nat} {W w1 : World} {v v' : Value} {k : Nat} {xs : List Value} {tmp : Obj} (i : Nat) (hr : W.ownsRow lo 3 1 v k xs) (hgrow : (W.alloc tmp).grownBy w1 v.ownBlock) : ButF lo D D W (w1.setCell ⟨D, i, none⟩ v') := by
  have hs : (W.alloc tmp).heap.size = W.heap.size + 1 := by simp
  refine ⟨hgrow.os, hgrow.tape, hgrow.output, by have := hgrow.size; simp only [World.size_setCell]; omega, fun j hj _ hD hn => ?_⟩
  rw [Below.heap_setCell w1 ⟨D, i, none⟩ v' j hD, hgrow.block j (by omega) (fun e => ?_), Below.heap_alloc W tmp j hj]
  rcases hr.2 with ⟨rfl, _⟩ | ⟨g, cap, cur, rfl, hb, hg, _⟩
  · simp [Value.ownBlock] at e
  · obtain rfl : j = g := by simpa [Value.ownBlock] using e
    exact hn hb _ _ hg

/-- What abides whatever is done to blocks from B on that are no ints. -/
def OwnF {β : Type} (B : Nat) (J : β → World → Prop) : Prop := ∀ s A C row, J s A → A.grownBy C row → (∀ r, row = some r → B ≤ r ∧ ∀ cs z, A.heap[r]? ≠ some (.cells cs 3 z)) → J s C

theorem OwnF.from {β : Type} {B : Nat} {J : β → World → Prop} (h : OwnF B J) {B' : Nat} (hB : B ≤ B') : OwnFrom B' J := fun s A C row hs hg hr => h s A C row hs hg (fun r e => by
  obtain ⟨h1, o, h2, h3⟩ := hr r e
  exact ⟨by omega, fun cs z e2 => by rw [h2] at e2; cases e2; cases h3⟩)

theorem OwnF.and {β : Type} {B : Nat} {I J : β → World → Prop} (h : OwnF B I) (k : OwnF B J) : OwnF B (fun s W => I s W ∧ J s W) := fun s A C row hs hg hr => ⟨h s A C row hs.1 hg hr, k s A C row hs.2 hg hr⟩
theorem OwnF.alloc {β : Type} {B : Nat} {J : β → World → Prop} (h : OwnF B J) {s : β} {W : World} (o : Obj) (hs : J s W) : J s (W.alloc o) := h _ _ _ none hs (World.grownBy_alloc _ _ _) (by simp)
theorem OwnF.step {β : Type} {B : Nat} {J : β → World → Prop} (h : OwnF B J) {s : β} {W W' : World} (hb : Below W.heap.size W W') (hs : J s W) : J s W' :=
  h _ _ _ none hs ⟨hb.os, hb.tape, hb.output, hb.size, fun k hk _ => hb.block k hk⟩ (by simp)

/-- The contract of an iterator that keeps cells of its own, none of them ints. -/
def SeqFam {α : Type} (n : Nat) (P : Program) (g : Nat) (lb : Array Value) (encs : α → Array Value) (lo D : Nat) (S Sp : List α → Prop) (N : Nat) (w : World) : Prop :=
  ∀ (l : Nat) (J Jx : List α → World → Prop) (W : World), Below w.heap.size w W → w.heap.size ≤ l → l < W.heap.size → D < W.heap.size → OwnF W.heap.size J → OwnF W.heap.size Jx →
    (∀ pre x W1, J pre W1 → pre.length < N → YieldAt Fence.wide (n - 1) P l (encs x) W1 fun e W' =>
      (e = .returned (.bool true) ∧ J (pre ++ [x]) W' ∧ ButF lo D l W1 W') ∨ (e = .returned (.bool false) ∧ Jx (pre ++ [x]) W' ∧ ButF lo D l W1 W')) →
    J [] W →
    CallsIn Fence.wide n P g (#[.func (.yield l) #[] #[]] ++ lb) W fun e W' => (∃ v, e = .returned v) ∧ ((∃ xs, S xs ∧ J xs W') ∨ (∃ pre, Sp pre ∧ Jx pre W'))

/-- How a round ends. -/
def postFam {α : Type} (lo D : Nat) (I : List α → World → Prop) (Ix : List α → World → Prop) (xs : List α) (W : World) : Exit → Act → World → Prop
  | .normal, _, W' => ButF lo D D W W' ∧ I xs W'
  | .ret, _, W' => ButF lo D D W W' ∧ Ix xs W'
  | _, _, _ => False

theorem wpIn_rangeFunc_fam {P : Program} {n : Nat} {α : Type} {g : Operand} {ps : Array Tmp} {assign body : Code} {Q : Exit → Act → World → Prop} {a : Act} {w : World}
    (h1 : 1 ≤ n) {gf : Nat} {lb : Array Value} (hg : a.eval g = .func (.func gf) #[] lb) (eg : ∀ args w, (callFunc gf args).run P w = .ok (.enter gf args) w)
    {encs : α → Array Value} {lo D : Nat} {S Sp : List α → Prop} {N : Nat} {w0 : World} (hseq : SeqFam (n - 1) P gf lb encs lo D S Sp N w0) (hb0 : Below w0.heap.size w0 w) (hDw : D < w.heap.size) (hps : ∀ x, (encs x).size = ps.size)
    (I Ix : List α → World → Prop) (hI : OwnF w.heap.size I) (hIx : OwnF w.heap.size Ix) (h0 : I [] w) (a₁ : α → Act)
    (hassign : ∀ (l : Nat) (x : α) (W : World) (K : Act → World → Prop), K (a₁ x) W →
      assign.wpIn (Fence.wide.inRound l) (n - 1 - 1) P (Exit.then K (fun _ _ _ => False)) { tmps := (ps.zip (encs x)).foldl (fun t (p, v) => t.setIfInBounds p v) a.tmps, defers := [] } W)
    (hbody : ∀ (l : Nat) (pre : List α) (x : α) (W : World), I pre W → pre.length < N → body.wpIn (Fence.wide.inRound l) (n - 1 - 1) P (postFam lo D I Ix (pre ++ [x]) W) (a₁ x) W)
    (hdone : ∀ (E : Nat) (xs : List α) (W : World), w.heap.size ≤ E → S xs → I xs W → W.heap[E]? = some (.deferred (some [])) → Q .normal { a with defers := { target := .collected E, args := #[] } :: a.defers } W)
    (hstop : ∀ (E : Nat) (pre : List α) (W : World), w.heap.size ≤ E → Sp pre → Ix pre W → W.heap[E]? = some (.deferred (some [])) → Code.ret.wpIn Fence.wide n P Q { a with defers := { target := .collected E, args := #[] } :: a.defers } W) :
    (Code.rangeFunc g ps assign body).wpIn Fence.wide n P Q a w := by
  refine wpIn_rangeFunc ?_
  intro fn hfn
  rw [show Fence.wide.round = none from rfl]
  obtain ⟨rec, hrec⟩ : ∃ rec : LoopState → Option Code → Loop, rec = fun st pe => { state := st, pending := pe, fn, tmps := a.tmps, params := ps, assign, body, defers := w.heap.size } := ⟨_, rfl⟩
  obtain ⟨W1, hW1⟩ : ∃ W1, (w.alloc (.deferred (some []))).alloc (.loop (rec .ready none)) = W1 := ⟨_, rfl⟩
  have hs1 : W1.heap.size = w.heap.size + 2 := by rw [← hW1]; simp
  have hL1 : W1.heap[w.heap.size + 1]? = some (.loop (rec .ready none)) := by
    rw [← hW1]; have := World.alloc_heap_new (w.alloc (.deferred (some []))) (.loop (rec .ready none)); rwa [World.size_alloc] at this
  have hK1 : W1.heap[w.heap.size]? = some (.deferred (some [])) := by
    rw [← hW1]; exact (Below.heap_alloc _ _ _ (by simp)).trans (World.alloc_heap_new w _)
  have hI1 : I [] W1 := by rw [← hW1]; exact hI.alloc _ (hI.alloc _ h0)
  have hb1 : Below w0.heap.size w0 W1 := by
    rw [← hW1]; exact hb0.trans ((((Below.refl _ w).alloc (Nat.le_refl _) _).alloc (by simp) _).mono hb0.size)
  have hput : ∀ (J : List α → World → Prop), OwnF w.heap.size J → ∀ (xs : List α) (W : World) (o : Obj), (∃ r, W.heap[w.heap.size + 1]? = some (.loop r)) → J xs W → J xs (W.putObj (w.heap.size + 1) o) := fun J hJ xs W o hr h =>
    hJ _ _ _ _ h (grownBy_putObj' W _ o) (fun r e => by cases e; exact ⟨by omega, fun cs z e => by obtain ⟨r, hr⟩ := hr; rw [hr] at e; cases e⟩)
  refine ⟨w.heap.size + 1, [{ target := .collected w.heap.size, args := #[] }], W1, { target := .fn (.func gf) lb, args := #[.func (.yield (w.heap.size + 1)) #[] #[]] }, W1, gf,
    #[.func (.yield (w.heap.size + 1)) #[] #[]] ++ lb, W1, ?_, ?_, fun _ _ => trivial, ?_, fun _ => h1, ?_⟩
  · rw [← hW1, hrec]; exact run_enterLoop_outer _ _ _ _ _
  · simp only [resolve, hg]
    simp [go_sem]
  · simp [invoke, go_sem, eg]
  · refine (hseq (w.heap.size + 1) (fun pre W => I pre W ∧ W.heap[w.heap.size + 1]? = some (.loop (rec .ready none)) ∧ W.heap[w.heap.size]? = some (.deferred (some [])))
      (fun pre W => Ix pre W ∧ W.heap[w.heap.size + 1]? = some (.loop (rec .done (some .ret))) ∧ W.heap[w.heap.size]? = some (.deferred (some []))) W1 hb1 (by have := hb0.size; omega) (by omega) (by omega) ?_ ?_ ?_ ⟨hI1, hL1, hK1⟩).mono ?_
    · rintro s A C row ⟨hi, hl, hk⟩ hgr hr
      have hne : ∀ k, k < w.heap.size + 2 → some k ≠ row := fun k hk' e => by have := (hr k e.symm).1; omega
      exact ⟨hI s A C row hi hgr (fun r e => ⟨by have := (hr r e).1; omega, (hr r e).2⟩), (hgr.block _ (Array.getElem?_eq_some_iff.1 hl).1 (hne _ (by omega))).trans hl, (hgr.block _ (Array.getElem?_eq_some_iff.1 hk).1 (hne _ (by omega))).trans hk⟩
    · rintro s A C row ⟨hi, hl, hk⟩ hgr hr
      have hne : ∀ k, k < w.heap.size + 2 → some k ≠ row := fun k hk' e => by have := (hr k e.symm).1; omega
      exact ⟨hIx s A C row hi hgr (fun r e => ⟨by have := (hr r e).1; omega, (hr r e).2⟩), (hgr.block _ (Array.getElem?_eq_some_iff.1 hl).1 (hne _ (by omega))).trans hl, (hgr.block _ (Array.getElem?_eq_some_iff.1 hk).1 (hne _ (by omega))).trans hk⟩
    · rintro pre x W ⟨hi, hl, hk⟩ hlen
      have hlt : w.heap.size + 1 < W.heap.size := (Array.getElem?_eq_some_iff.1 hl).1
      have hy := run_yield (P := P) (args := encs x) hl (by rw [hrec]; exact hps x)
      rw [hrec] at hy
      refine ⟨fn, _, assign, body, hy, roundIn_of_wpIn hfn (hassign _ x W _ ⟨_, run_beginRound hl (by rw [hrec]), ?_⟩)⟩
      have hl2 : (W.putObj (w.heap.size + 1) (.loop { rec .ready none with state := .busy })).heap[w.heap.size + 1]? = some (.loop { rec .ready none with state := .busy }) := World.putObj_heap_same hlt
      have hk2 : (W.putObj (w.heap.size + 1) (.loop { rec .ready none with state := .busy })).heap[w.heap.size]? = some (.deferred (some [])) := (World.putObj_heap_other (by omega)).trans hk
      refine wpIn_mono (hbody _ pre x _ (hput I hI _ _ _ ⟨_, hl⟩ hi) hlen) ?_
      rintro e a3 W3 hp
      cases e with
      | normal =>
        obtain ⟨hk3, hi3⟩ := hp
        have hl3 := hk3.keep hl2 (by omega) (by omega) (fun _ cs z e => by cases e)
        have hr := run_endRound (P := P) none hl3
        have hb4 : ButF lo D (w.heap.size + 1) W (W3.putObj (w.heap.size + 1) (.loop (rec .ready none))) :=
          ((ButF.of_but (But.putObj (X := fun k => k = w.heap.size + 1) W _ _ rfl) (fun k e => .inl e)).trans hk3.to).trans (ButF.of_but (But.putObj (X := fun k => k = w.heap.size + 1) W3 _ _ rfl) (fun k e => .inl e))
        rw [hrec] at hr hb4 ⊢
        refine ⟨_, _, hr, .inl ⟨rfl, ⟨hput I hI _ _ _ ⟨_, hl3⟩ hi3, World.putObj_heap_same (Array.getElem?_eq_some_iff.1 hl3).1, (World.putObj_heap_other (by omega)).trans (hk3.keep hk2 (by omega) (by omega) (fun _ cs z e => by cases e))⟩, hb4⟩⟩
      | ret =>
        obtain ⟨hk3, hi3⟩ := hp
        have hl3 := hk3.keep hl2 (by omega) (by omega) (fun _ cs z e => by cases e)
        have hr := run_endRound (P := P) (some .ret) hl3
        have hb4 : ButF lo D (w.heap.size + 1) W (W3.putObj (w.heap.size + 1) (.loop (rec .done (some .ret)))) :=
          ((ButF.of_but (But.putObj (X := fun k => k = w.heap.size + 1) W _ _ rfl) (fun k e => .inl e)).trans hk3.to).trans (ButF.of_but (But.putObj (X := fun k => k = w.heap.size + 1) W3 _ _ rfl) (fun k e => .inl e))
        rw [hrec] at hr hb4 ⊢
        refine ⟨_, _, hr, .inr ⟨rfl, ⟨hput Ix hIx _ _ _ ⟨_, hl3⟩ hi3, World.putObj_heap_same (Array.getElem?_eq_some_iff.1 hl3).1, (World.putObj_heap_other (by omega)).trans (hk3.keep hk2 (by omega) (by omega) (fun _ cs z e => by cases e))⟩, hb4⟩⟩
      | _ => exact hp.elim
    · rintro e W2 ⟨⟨v, rfl⟩, (⟨xs, hS, hi, hl, hk⟩ | ⟨pre, hSp, hi, hl, hk⟩)⟩
      · refine ⟨none, _, by have := run_endLoop (P := P) hl (by rw [hrec]; simp); rw [hrec] at this; exact this, ?_⟩
        exact hdone _ xs _ (Nat.le_refl _) hS (hput I hI _ _ _ ⟨_, hl⟩ hi) ((World.putObj_heap_other (by omega)).trans hk)
      · refine ⟨some .ret, _, by have := run_endLoop (P := P) hl (by rw [hrec]; simp); rw [hrec] at this; exact this, ?_⟩
        exact hstop _ pre _ (Nat.le_refl _) hSp (hput Ix hIx _ _ _ ⟨_, hl⟩ hi) ((World.putObj_heap_other (by omega)).trans hk)

end Go

/- It is proved what meets and reached return; conditions: those of each statement. -/
namespace Go.Proofs.YtphddemilibooaaDoor
open Go.RowKit Go.Shelf

attribute [local go_sem] Oper.semAt_some

set_option maxRecDepth 100000 in
theorem and_fin : ∀ x : Fin 64, ∀ y : Fin 64, bits BinOp.and IntKind.i64 (x.val : Int) (y.val : Int) = ((x.val &&& y.val : Nat) : Int) := by decide +kernel

set_option maxRecDepth 100000 in
theorem or6_fin : ∀ x : Fin 64, ∀ y : Fin 64, bits BinOp.or IntKind.i64 (x.val : Int) (y.val : Int) = ((x.val ||| y.val : Nat) : Int) := by decide +kernel

theorem and6_at (x y : Nat) (hx : x < 64) (hy : y < 64) : bits BinOp.and IntKind.i64 (x : Int) (y : Int) = ((x &&& y : Nat) : Int) := and_fin ⟨x, hx⟩ ⟨y, hy⟩
theorem or6_at (x y : Nat) (hx : x < 64) (hy : y < 64) : bits BinOp.or IntKind.i64 (x : Int) (y : Int) = ((x ||| y : Nat) : Int) := or6_fin ⟨x, hx⟩ ⟨y, hy⟩
theorem meets_any (x y : Nat) (hx : x < 64) (hy : y < 64) (w : World) :
    Calls Tryd.prog 61 #[.int .i64 (x : Int), .int .i64 (y : Int)] w fun e w' => e = .returned (.bool (!decide (x &&& y = 0))) ∧ w = w' := by
  have HA := Lib.hid (and6_at x y hx hy)
  have HE : Hid ((((x &&& y : Nat) : Int) != 0) = !decide (x &&& y = 0)) := Lib.hid (by
    by_cases h : x &&& y = 0
    · rw [h]; rfl
    · rw [decide_eq_false h, bne_iff_ne.2 (by omega)]; rfl)
  go_enter Tryd.func61, Tryd.ntmps61
  go_wp2
  go_ret
  exact ⟨by rw [← HE.out, ← HA.out]; rfl, rfl⟩

/-- The mark of a loop over a function. -/
def mkD (D : Nat) : Deferred := { target := .collected D, args := #[] }

/-- Marks that hold nothing, each once. -/
structure Marks (lo hi : Nat) (Ds : List Nat) (W : World) : Prop where
  once : Ds.Nodup
  at_ : ∀ D ∈ Ds, lo ≤ D ∧ D < hi ∧ W.heap[D]? = some (.deferred (some []))

theorem Marks.own {β : Type} (lo hi : Nat) (Ds : List Nat) {B : Nat} (hB : hi ≤ B) : OwnFrom B (fun (_ : β) W => Marks lo hi Ds W) :=
  fun _ X Y row hs hg hr => ⟨hs.once, fun D hD => by
    obtain ⟨h1, h2, h3⟩ := hs.at_ D hD
    exact ⟨h1, h2, (hg.block D (lt_of_some h3) (fun e => by have := (hr D e.symm).1; omega)).trans h3⟩⟩

theorem Marks.setCell {lo hi : Nat} {Ds : List Nat} {W : World} (h : Marks lo hi Ds W) {p : Addr} (hp : p.block < lo) (u : Value) : Marks lo hi Ds (W.setCell p u) :=
  ⟨h.once, fun D hD => by
    obtain ⟨h1, h2, h3⟩ := h.at_ D hD
    exact ⟨h1, h2, (Below.heap_setCell W p u D (by omega)).trans h3⟩⟩

theorem Marks.alloc {lo hi : Nat} {Ds : List Nat} {W : World} (h : Marks lo hi Ds W) (o : Obj) : Marks lo hi Ds (W.alloc o) :=
  ⟨h.once, fun D hD => by
    obtain ⟨h1, h2, h3⟩ := h.at_ D hD
    exact ⟨h1, h2, (alloc_old W o D (lt_of_some h3)).trans h3⟩⟩

theorem Marks.cons {lo hi : Nat} {Ds : List Nat} {W : World} (h : Marks lo hi Ds W) {D : Nat} (hD : hi ≤ D) (hlo : lo ≤ D) (hk : W.heap[D]? = some (.deferred (some []))) : Marks lo (D + 1) (D :: Ds) W :=
  ⟨List.nodup_cons.2 ⟨fun hm => by have := (h.at_ D hm).2.1; omega, h.once⟩, fun E hE => by
    rcases List.mem_cons.1 hE with rfl | hE
    · exact ⟨hlo, by omega, hk⟩
    · obtain ⟨h1, h2, h3⟩ := h.at_ E hE
      exact ⟨h1, by omega, h3⟩⟩

theorem Marks.mono {lo hi hi' : Nat} {Ds : List Nat} {W : World} (h : Marks lo hi Ds W) (hh : hi ≤ hi') : Marks lo hi' Ds W :=
  ⟨h.once, fun D hD => by obtain ⟨h1, h2, h3⟩ := h.at_ D hD; exact ⟨h1, by omega, h3⟩⟩

theorem leaves_marks {F : Fence} {n : Nat} {P : Program} {fn : Func} {tmps : Array Value} {R : Ending → World → Prop} {v : Value} {lo hi : Nat} (hres : ∀ W, (results fn tmps).run P W = .ok v W) :
    ∀ (Ds : List Nat) (W : World), Marks lo hi Ds W → (∀ W', Below lo W W' → R (.returned v) W') → LeavesInM F n P fn tmps R (Ds.map mkD) .returning W
  | [], W, _, hR => ⟨v, hres W, hR W (Below.refl _ _)⟩
  | D :: Ds, W, h, hR => by
    obtain ⟨h1, h2, h3⟩ := h.at_ D (by simp)
    have hn := List.nodup_cons.1 h.once
    refine ⟨by simp, .inl ⟨D, _, rfl, run_takeDeferred h3, ?_⟩⟩
    have hb : Below lo W (W.putObj D (.deferred none)) := (Below.refl lo W).grown (grownBy_putObj' W D _) (Nat.le_trans h1 (Nat.le_of_lt (lt_of_some h3))) (fun k e => by cases e; exact h1)
    refine leaves_marks (hi := hi) hres Ds _ ⟨hn.2, fun E hE => ?_⟩ (fun W' hW' => hR W' (hb.trans hW'))
    obtain ⟨g1, g2, g3⟩ := h.at_ E (by simp [hE])
    refine ⟨g1, g2, ?_⟩
    rw [World.putObj_heap_other (fun e => hn.1 (by rw [← e]; exact hE))]
    exact g3

end Go.Proofs.YtphddemilibooaaDoor
