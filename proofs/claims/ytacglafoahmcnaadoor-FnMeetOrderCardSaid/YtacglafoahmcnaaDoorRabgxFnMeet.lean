/- It is proved what a loop over a function does where the function keeps cells of its own, and the body writes blocks that lay ahead of the loop and may leave it; conditions: those of each statement. -/
import Derived.RangeFuncNested
import Derived.RangeFuncBound
import Derived.RangeFuncCalls
import Derived.RangeFuncLeaves
import Derived.RangeFuncBox
import Derived.RangeFuncWrites
import Derived.Test.YtacglafoahmcnaaDoorRaal
import Derived.Laws.CopyRow
import Derived.Lib.SlBuf
import Derived.Test.YtacglafoahmcnaaDoorRows
import Derived.WalkKit
import Derived.WalkSpells
import Derived.ProofKit
import Derived.OpenShut
import Derived.ShutString
import Derived.ChangeOld
import Derived.Below
import Derived.Deep.RegionHeld3
import Derived.Deep.QuietTactic
import Derived.BigQuiet
import Derived.Lib.Hide
import Derived.Lib.SmallJoins
import Derived.Outline
import Derived.Laws.MakeOwn
import Derived.Laws.OwnMore
import Derived.IntWalk
import Derived.Shelf.Abstract
import Derived.Shelf.RegionOpen
import Derived.OwnWalkIn
import Derived.TacticsInMore
import Derived.LoopNIn
import Derived.LoopIn
import Derived.Maps.AppendAt
import Derived.Deep.AppendLies
import Derived.OwnWalk
import Derived.Shelf.Spec.TrailingZeros
import Derived.Test.YtacglafoahmcnaaDoorRaaa
import Derived.Test.YtacglafoahmcnaaDoorRaab
import Derived.StillTail
import Derived.StillTactics
import Derived.OrdersIn
import Derived.TacticsIn
import Derived.StillTailTactics
import Derived.Test.YtacglafoahmcnaaDoorRabexFnMeet
namespace Go
open Go.RowKit

/-- The contract of an iterator that may keep cells of its own: a round leaves every block but the loop's record and those that X names as it was. -/
def SeqBut {α : Type} (n : Nat) (P : Program) (g : Nat) (lb : Array Value) (encs : α → Array Value) (X : Nat → Prop) (Ok : α → World → Prop) (S Sp : List α → Prop) (N : Nat) (w : World) : Prop :=
  ∀ (l : Nat) (J Jx : List α → World → Prop) (W : World), Below w.heap.size w W → w.heap.size ≤ l → l < W.heap.size → (∀ k, X k → k < w.heap.size) → OwnAll W.heap.size J → OwnFrom W.heap.size Jx →
    (∀ pre x W1, J pre W1 → Ok x W1 → pre.length < N → YieldAt Fence.wide (n - 1) P l (encs x) W1 fun e W' =>
      (e = .returned (.bool true) ∧ J (pre ++ [x]) W' ∧ But (fun k => k = l ∨ X k) W1 W') ∨ (e = .returned (.bool false) ∧ Jx (pre ++ [x]) W' ∧ But (fun k => k = l ∨ X k) W1 W')) →
    J [] W →
    CallsIn Fence.wide n P g (#[.func (.yield l) #[] #[]] ++ lb) W fun e W' => (∃ v, e = .returned v) ∧ ((∃ xs, S xs ∧ J xs W') ∨ (∃ pre, Sp pre ∧ Jx pre W'))

/-- How a round ends. -/
def postBut {α : Type} (X : Nat → Prop) (I Ix : List α → World → Prop) (xs : List α) (W : World) : Exit → Act → World → Prop
  | .normal, _, W' => But X W W' ∧ I xs W'
  | .ret, _, W' => But X W W' ∧ Ix xs W'
  | _, _, _ => False

theorem OwnAll.alloc {β : Type} {B : Nat} {J : β → World → Prop} (h : OwnAll B J) {s : β} {W : World} (o : Obj) (hs : J s W) : J s (W.alloc o) := h _ _ _ none hs (World.grownBy_alloc _ _ _) (by simp)
theorem OwnAll.step {β : Type} {B : Nat} {J : β → World → Prop} (h : OwnAll B J) {s : β} {W W' : World} (hb : Below W.heap.size W W') (hs : J s W) : J s W' :=
  h _ _ _ none hs ⟨hb.os, hb.tape, hb.output, hb.size, fun k hk _ => hb.block k hk⟩ (by simp)

theorem OwnAll.cell {β : Type} {B : Nat} {J : β → World → Prop} (h : OwnAll B J) {s : β} {W : World} {b : Nat} (i : Nat) (v : Value) (hB : B ≤ b) (hs : J s W) : J s (W.setCell ⟨b, i, none⟩ v) :=
  h _ _ _ (some b) hs ⟨rfl, rfl, rfl, by simp, fun k _ hX => Below.heap_setCell W ⟨b, i, none⟩ v k (fun e => hX (by subst e; rfl))⟩ (fun r e => by cases e; exact hB)

theorem OwnAll.obj {β : Type} {B : Nat} {J : β → World → Prop} (h : OwnAll B J) {s : β} {W : World} {b : Nat} (o : Obj) (hB : B ≤ b) (hs : J s W) : J s (W.putObj b o) :=
  h _ _ _ (some b) hs (grownBy_putObj' W b o) (fun r e => by cases e; exact hB)

theorem wpIn_rangeFunc_but {P : Program} {n : Nat} {α : Type} {g : Operand} {ps : Array Tmp} {assign body : Code} {Q : Exit → Act → World → Prop} {a : Act} {w : World}
    (h1 : 1 ≤ n) {gf : Nat} {lb : Array Value} (hg : a.eval g = .func (.func gf) #[] lb) (eg : ∀ args w, (callFunc gf args).run P w = .ok (.enter gf args) w)
    {encs : α → Array Value} {X : Nat → Prop} {Ok : α → World → Prop} {S Sp : List α → Prop} {N : Nat} {w0 : World} (hseq : SeqBut (n - 1) P gf lb encs X Ok S Sp N w0) (hb0 : Below w0.heap.size w0 w) (hX : ∀ k, X k → k < w0.heap.size) (hps : ∀ x, (encs x).size = ps.size)
    (hOk : ∀ x A l o, Ok x A → (∃ o', A.heap[l]? = some o' ∧ o'.isCells = false) → Ok x (A.putObj l o))
    (I Ix : List α → World → Prop) (hI : OwnAll w.heap.size I) (hIx : OwnFrom w.heap.size Ix) (h0 : I [] w) (Ax : α → Act → World → Prop) (hAx : ∀ x a' A l o, Ax x a' A → (∃ o', A.heap[l]? = some o' ∧ o'.isCells = false) → Ax x a' (A.putObj l o))
    (hassign : ∀ (l : Nat) (pre : List α) (x : α) (W : World) (K : Act → World → Prop), I pre W → Ok x W → w.heap.size ≤ W.heap.size → (∀ a' W', But (fun _ => False) W W' → I pre W' → Ok x W' → Ax x a' W' → K a' W') →
      assign.wpIn (Fence.wide.inRound l) (n - 1 - 1) P (Exit.then K (fun _ _ _ => False)) { tmps := (ps.zip (encs x)).foldl (fun t (p, v) => t.setIfInBounds p v) a.tmps, defers := [] } W)
    (hbody : ∀ (l : Nat) (pre : List α) (x : α) (a' : Act) (W : World), w.heap.size ≤ l → I pre W → Ok x W → Ax x a' W → pre.length < N → body.wpIn (Fence.wide.inRound l) (n - 1 - 1) P (postBut X I Ix (pre ++ [x]) W) a' W)
    (hdone : ∀ (D : Nat) (xs : List α) (W : World), w.heap.size ≤ D → S xs → I xs W → W.heap[D]? = some (.deferred (some [])) → Q .normal { a with defers := { target := .collected D, args := #[] } :: a.defers } W)
    (hstop : ∀ (D : Nat) (pre : List α) (W : World), w.heap.size ≤ D → Sp pre → Ix pre W → W.heap[D]? = some (.deferred (some [])) → Code.ret.wpIn Fence.wide n P Q { a with defers := { target := .collected D, args := #[] } :: a.defers } W) :
    (Code.rangeFunc g ps assign body).wpIn Fence.wide n P Q a w := by
  refine wpIn_rangeFunc ?_
  intro fn hfn
  rw [show Fence.wide.round = none from rfl]
  obtain ⟨rec, hrec⟩ : ∃ rec : LoopState → Option Code → Loop, rec = fun st pe => { state := st, pending := pe, fn, tmps := a.tmps, params := ps, assign, body, defers := w.heap.size } := ⟨_, rfl⟩
  obtain ⟨W1, hW1⟩ : ∃ W1, (w.alloc (.deferred (some []))).alloc (.loop (rec .ready none)) = W1 := ⟨_, rfl⟩
  have hs1 : W1.heap.size = w.heap.size + 2 := by rw [← hW1]; simp
  have hL1 : W1.heap[w.heap.size + 1]? = some (.loop (rec .ready none)) := by
    rw [← hW1]; have := World.alloc_heap_new (w.alloc (.deferred (some []))) (.loop (rec .ready none)); rwa [World.size_alloc] at this
  have hK1 : W1.heap[w.heap.size]? = some (.deferred (some [])) := by
    rw [← hW1]; exact (Below.heap_alloc _ _ _ (by simp)).trans (World.alloc_heap_new w _)
  have hI1 : I [] W1 := by rw [← hW1]; exact hI.alloc _ (hI.alloc _ h0)
  have hb1 : Below w0.heap.size w0 W1 := by
    rw [← hW1]; exact hb0.trans ((((Below.refl _ w).alloc (Nat.le_refl _) _).alloc (by simp) _).mono hb0.size)
  have hXw : ∀ k, X k → k < w.heap.size := fun k h => Nat.lt_of_lt_of_le (hX k h) hb0.size
  have hX1 : ¬ X (w.heap.size + 1) := fun h => by have := hXw _ h; omega
  have hX2 : ¬ X w.heap.size := fun h => by have := hXw _ h; omega
  have hput : ∀ (xs : List α) (W : World) (o : Obj), I xs W → I xs (W.putObj (w.heap.size + 1) o) := fun xs W o h => hI.obj o (by omega) h
  have hputx : ∀ (xs : List α) (W : World) (o : Obj), (∃ r, W.heap[w.heap.size + 1]? = some (.loop r)) → Ix xs W → Ix xs (W.putObj (w.heap.size + 1) o) := fun xs W o ⟨r, hr⟩ h => hIx.putObj o h (by omega) hr rfl
  refine ⟨w.heap.size + 1, [{ target := .collected w.heap.size, args := #[] }], W1, { target := .fn (.func gf) lb, args := #[.func (.yield (w.heap.size + 1)) #[] #[]] }, W1, gf,
    #[.func (.yield (w.heap.size + 1)) #[] #[]] ++ lb, W1, ?_, ?_, fun _ _ => trivial, ?_, fun _ => h1, ?_⟩
  · rw [← hW1, hrec]; exact run_enterLoop_outer _ _ _ _ _
  · simp only [resolve, hg]
    simp [go_sem]
  · simp [invoke, go_sem, eg]
  · refine (hseq (w.heap.size + 1) (fun pre W => I pre W ∧ w.heap.size + 2 ≤ W.heap.size ∧ W.heap[w.heap.size + 1]? = some (.loop (rec .ready none)) ∧ W.heap[w.heap.size]? = some (.deferred (some [])))
      (fun pre W => Ix pre W ∧ W.heap[w.heap.size + 1]? = some (.loop (rec .done (some .ret))) ∧ W.heap[w.heap.size]? = some (.deferred (some []))) W1 hb1 (by have := hb0.size; omega) (by omega) hX ?_ ?_ ?_ ⟨hI1, by omega, hL1, hK1⟩).mono ?_
    · rintro s A C row ⟨hi, hsz, hl, hk⟩ hgr hr
      have hne : ∀ k, k < w.heap.size + 2 → some k ≠ row := fun k hk' e => by have := hr k e.symm; omega
      exact ⟨hI s A C row hi hgr (fun r e => by have := hr r e; omega), Nat.le_trans hsz hgr.size, (hgr.block _ (Array.getElem?_eq_some_iff.1 hl).1 (hne _ (by omega))).trans hl, (hgr.block _ (Array.getElem?_eq_some_iff.1 hk).1 (hne _ (by omega))).trans hk⟩
    · rintro s A C row ⟨hi, hl, hk⟩ hgr hr
      have hne : ∀ k, k < w.heap.size + 2 → some k ≠ row := fun k hk' e => by have := (hr k e.symm).1; omega
      exact ⟨hIx s A C row hi hgr (fun r e => ⟨by have := (hr r e).1; omega, (hr r e).2⟩), (hgr.block _ (Array.getElem?_eq_some_iff.1 hl).1 (hne _ (by omega))).trans hl, (hgr.block _ (Array.getElem?_eq_some_iff.1 hk).1 (hne _ (by omega))).trans hk⟩
    · rintro pre x Wb ⟨hib, hsz, hlb, hkb⟩ hokb hlen
      have hy := run_yield (P := P) (args := encs x) hlb (by rw [hrec]; exact hps x)
      rw [hrec] at hy
      refine ⟨fn, _, assign, body, hy, roundIn_of_wpIn hfn (hassign _ pre x Wb _ hib hokb (by omega) ?_)⟩
      clear hy
      intro a' W hbt hi hok hax
      have hl := hbt.keep (k := w.heap.size + 1) (fun e => e) hlb
      have hk := hbt.keep (k := w.heap.size) (fun e => e) hkb
      have hlt : w.heap.size + 1 < W.heap.size := (Array.getElem?_eq_some_iff.1 hl).1
      refine ⟨_, run_beginRound hl (by rw [hrec]), ?_⟩
      have hok2 : Ok x (W.putObj (w.heap.size + 1) (.loop { rec .ready none with state := .busy })) := hOk _ _ _ _ hok ⟨_, hl, rfl⟩
      have hax2 : Ax x a' (W.putObj (w.heap.size + 1) (.loop { rec .ready none with state := .busy })) := hAx _ _ _ _ _ hax ⟨_, hl, rfl⟩
      have hl2 : (W.putObj (w.heap.size + 1) (.loop { rec .ready none with state := .busy })).heap[w.heap.size + 1]? = some (.loop { rec .ready none with state := .busy }) := World.putObj_heap_same hlt
      have hk2 : (W.putObj (w.heap.size + 1) (.loop { rec .ready none with state := .busy })).heap[w.heap.size]? = some (.deferred (some [])) := (World.putObj_heap_other (by omega)).trans hk
      refine wpIn_mono (hbody _ pre x a' _ (by omega) (hput _ _ _ hi) hok2 hax2 hlen) ?_
      have hbW : But (fun k => k = w.heap.size + 1 ∨ X k) Wb W := hbt.mono (fun k _ e => e.elim)
      rintro e a3 W3 hp
      cases e with
      | normal =>
        obtain ⟨hk3, hi3⟩ := hp
        have hl3 := hk3.keep hX1 hl2
        have hr := run_endRound (P := P) none hl3
        have hb4 : But (fun k => k = w.heap.size + 1 ∨ X k) Wb (W3.putObj (w.heap.size + 1) (.loop (rec .ready none))) :=
          ((hbW.trans (But.putObj W _ _ (.inl rfl))).trans (hk3.mono (fun k _ e => .inr e))).trans (But.putObj W3 _ _ (.inl rfl))
        have hs3 := hk3.size
        rw [hrec] at hr hb4 ⊢
        refine ⟨_, _, hr, .inl ⟨rfl, ⟨hput _ _ _ hi3, by simp at hs3; simp; omega, World.putObj_heap_same (Array.getElem?_eq_some_iff.1 hl3).1, (World.putObj_heap_other (by omega)).trans (hk3.keep hX2 hk2)⟩, hb4⟩⟩
      | ret =>
        obtain ⟨hk3, hi3⟩ := hp
        have hl3 := hk3.keep hX1 hl2
        have hr := run_endRound (P := P) (some .ret) hl3
        have hb4 : But (fun k => k = w.heap.size + 1 ∨ X k) Wb (W3.putObj (w.heap.size + 1) (.loop (rec .done (some .ret)))) :=
          ((hbW.trans (But.putObj W _ _ (.inl rfl))).trans (hk3.mono (fun k _ e => .inr e))).trans (But.putObj W3 _ _ (.inl rfl))
        rw [hrec] at hr hb4 ⊢
        refine ⟨_, _, hr, .inr ⟨rfl, ⟨hputx _ _ _ ⟨_, hl3⟩ hi3, World.putObj_heap_same (Array.getElem?_eq_some_iff.1 hl3).1, (World.putObj_heap_other (by omega)).trans (hk3.keep hX2 hk2)⟩, hb4⟩⟩
      | _ => exact hp.elim
    · rintro e W2 ⟨⟨v, rfl⟩, (⟨xs, hS, hi, -, hl, hk⟩ | ⟨pre, hSp, hi, hl, hk⟩)⟩
      · refine ⟨none, _, by have := run_endLoop (P := P) hl (by rw [hrec]; simp); rw [hrec] at this; exact this, ?_⟩
        exact hdone _ xs _ (Nat.le_refl _) hS (hput _ _ _ hi) ((World.putObj_heap_other (by omega)).trans hk)
      · refine ⟨some .ret, _, by have := run_endLoop (P := P) hl (by rw [hrec]; simp); rw [hrec] at this; exact this, ?_⟩
        exact hstop _ pre _ (Nat.le_refl _) hSp (hputx _ _ _ ⟨_, hl⟩ hi) ((World.putObj_heap_other (by omega)).trans hk)

end Go

/- It is proved what a loop over a function does that writes cells of its own, of one bool each, also behind the loop's end; conditions: those of each statement. -/
namespace Go
open Go.RowKit

/-- A fact that stays where blocks grow, or where a block behind B is written that holds no cells, or one bool. -/
def OwnB {β : Type} (B : Nat) (J : β → World → Prop) : Prop :=
  ∀ s A C row, J s A → A.grownBy C row → (∀ r, row = some r → B ≤ r ∧ ∃ o : Obj, A.heap[r]? = some o ∧ (o.isCells = false ∨ ∃ v, o = .cells #[v] 4)) → J s C

theorem OwnB.from {β : Type} {B : Nat} {J : β → World → Prop} (h : OwnB B J) : OwnFrom B J :=
  fun s A C row hs hg hr => h s A C row hs hg (fun r e => by obtain ⟨h1, o, h2, h3⟩ := hr r e; exact ⟨h1, o, h2, .inl h3⟩)

theorem OwnB.le {β : Type} {B B' : Nat} {J : β → World → Prop} (h : OwnB B J) (hB : B ≤ B') : OwnB B' J :=
  fun s A C row hs hg hr => h s A C row hs hg (fun r e => ⟨Nat.le_trans hB (hr r e).1, (hr r e).2⟩)

/-- The bool of a result is written. -/
theorem OwnB.flag {β : Type} {B : Nat} {J : β → World → Prop} (h : OwnB B J) {s : β} {W : World} {b : Nat} {v v' : Value} (hB : B ≤ b) (hb : W.heap[b]? = some (.cells #[v] 4)) (hs : J s W) : J s (W.setCell ⟨b, 0, none⟩ v') :=
  h _ _ _ (some b) hs ⟨rfl, rfl, rfl, by simp, fun k _ hX => Below.heap_setCell W ⟨b, 0, none⟩ v' k (fun e => hX (by subst e; rfl))⟩ (fun r e => by cases e; exact ⟨hB, _, hb, .inr ⟨v, rfl⟩⟩)

theorem OwnB.alloc {β : Type} {B : Nat} {J : β → World → Prop} (h : OwnB B J) {s : β} {W : World} (o : Obj) (hs : J s W) : J s (W.alloc o) := h _ _ _ none hs (World.grownBy_alloc _ _ _) (by simp)
/-- The contract of an iterator that may keep cells of its own, and writes one bool of its own behind a stop. -/
def SeqButB {α : Type} (n : Nat) (P : Program) (g : Nat) (lb : Array Value) (encs : α → Array Value) (X : Nat → Prop) (Ok : α → World → Prop) (S Sp : List α → Prop) (N : Nat) (w : World) : Prop :=
  ∀ (l : Nat) (J Jx : List α → World → Prop) (W : World), Below w.heap.size w W → w.heap.size ≤ l → l < W.heap.size → (∀ k, X k → k < w.heap.size) → OwnAll W.heap.size J → OwnB W.heap.size Jx →
    (∀ pre x W1, J pre W1 → Ok x W1 → pre.length < N → YieldAt Fence.wide (n - 1) P l (encs x) W1 fun e W' =>
      (e = .returned (.bool true) ∧ J (pre ++ [x]) W' ∧ But (fun k => k = l ∨ X k) W1 W') ∨ (e = .returned (.bool false) ∧ Jx (pre ++ [x]) W' ∧ But (fun k => k = l ∨ X k) W1 W')) →
    J [] W →
    CallsIn Fence.wide n P g (#[.func (.yield l) #[] #[]] ++ lb) W fun e W' => (∃ v, e = .returned v) ∧ ((∃ xs, S xs ∧ J xs W') ∨ (∃ pre, Sp pre ∧ Jx pre W'))

theorem wpIn_rangeFunc_butB {P : Program} {n : Nat} {α : Type} {g : Operand} {ps : Array Tmp} {assign body : Code} {Q : Exit → Act → World → Prop} {a : Act} {w : World}
    (h1 : 1 ≤ n) {gf : Nat} {lb : Array Value} (hg : a.eval g = .func (.func gf) #[] lb) (eg : ∀ args w, (callFunc gf args).run P w = .ok (.enter gf args) w)
    {encs : α → Array Value} {X : Nat → Prop} {Ok : α → World → Prop} {S Sp : List α → Prop} {N : Nat} {w0 : World} (hseq : SeqButB (n - 1) P gf lb encs X Ok S Sp N w0) (hb0 : Below w0.heap.size w0 w) (hX : ∀ k, X k → k < w0.heap.size) (hps : ∀ x, (encs x).size = ps.size)
    (hOk : ∀ x A l o, Ok x A → (∃ o', A.heap[l]? = some o' ∧ o'.isCells = false) → Ok x (A.putObj l o))
    (I Ix : List α → World → Prop) (hI : OwnAll w.heap.size I) (hIx : OwnB w.heap.size Ix) (h0 : I [] w) (Ax : α → Act → World → Prop) (hAx : ∀ x a' A l o, Ax x a' A → (∃ o', A.heap[l]? = some o' ∧ o'.isCells = false) → Ax x a' (A.putObj l o))
    (hassign : ∀ (l : Nat) (pre : List α) (x : α) (W : World) (K : Act → World → Prop), I pre W → Ok x W → w.heap.size ≤ W.heap.size → (∀ a' W', But (fun _ => False) W W' → I pre W' → Ok x W' → Ax x a' W' → K a' W') →
      assign.wpIn (Fence.wide.inRound l) (n - 1 - 1) P (Exit.then K (fun _ _ _ => False)) { tmps := (ps.zip (encs x)).foldl (fun t (p, v) => t.setIfInBounds p v) a.tmps, defers := [] } W)
    (hbody : ∀ (l : Nat) (pre : List α) (x : α) (a' : Act) (W : World), w.heap.size ≤ l → I pre W → Ok x W → Ax x a' W → pre.length < N → body.wpIn (Fence.wide.inRound l) (n - 1 - 1) P (postBut X I Ix (pre ++ [x]) W) a' W)
    (hdone : ∀ (D : Nat) (xs : List α) (W : World), w.heap.size ≤ D → S xs → I xs W → W.heap[D]? = some (.deferred (some [])) → Q .normal { a with defers := { target := .collected D, args := #[] } :: a.defers } W)
    (hstop : ∀ (D : Nat) (pre : List α) (W : World), w.heap.size ≤ D → Sp pre → Ix pre W → W.heap[D]? = some (.deferred (some [])) → Code.ret.wpIn Fence.wide n P Q { a with defers := { target := .collected D, args := #[] } :: a.defers } W) :
    (Code.rangeFunc g ps assign body).wpIn Fence.wide n P Q a w := by
  refine wpIn_rangeFunc ?_
  intro fn hfn
  rw [show Fence.wide.round = none from rfl]
  obtain ⟨rec, hrec⟩ : ∃ rec : LoopState → Option Code → Loop, rec = fun st pe => { state := st, pending := pe, fn, tmps := a.tmps, params := ps, assign, body, defers := w.heap.size } := ⟨_, rfl⟩
  obtain ⟨W1, hW1⟩ : ∃ W1, (w.alloc (.deferred (some []))).alloc (.loop (rec .ready none)) = W1 := ⟨_, rfl⟩
  have hs1 : W1.heap.size = w.heap.size + 2 := by rw [← hW1]; simp
  have hL1 : W1.heap[w.heap.size + 1]? = some (.loop (rec .ready none)) := by
    rw [← hW1]; have := World.alloc_heap_new (w.alloc (.deferred (some []))) (.loop (rec .ready none)); rwa [World.size_alloc] at this
  have hK1 : W1.heap[w.heap.size]? = some (.deferred (some [])) := by
    rw [← hW1]; exact (Below.heap_alloc _ _ _ (by simp)).trans (World.alloc_heap_new w _)
  have hI1 : I [] W1 := by rw [← hW1]; exact hI.alloc _ (hI.alloc _ h0)
  have hb1 : Below w0.heap.size w0 W1 := by
    rw [← hW1]; exact hb0.trans ((((Below.refl _ w).alloc (Nat.le_refl _) _).alloc (by simp) _).mono hb0.size)
  have hXw : ∀ k, X k → k < w.heap.size := fun k h => Nat.lt_of_lt_of_le (hX k h) hb0.size
  have hX1 : ¬ X (w.heap.size + 1) := fun h => by have := hXw _ h; omega
  have hX2 : ¬ X w.heap.size := fun h => by have := hXw _ h; omega
  have hput : ∀ (xs : List α) (W : World) (o : Obj), I xs W → I xs (W.putObj (w.heap.size + 1) o) := fun xs W o h => hI.obj o (by omega) h
  have hputx : ∀ (xs : List α) (W : World) (o : Obj), (∃ r, W.heap[w.heap.size + 1]? = some (.loop r)) → Ix xs W → Ix xs (W.putObj (w.heap.size + 1) o) := fun xs W o ⟨r, hr⟩ h => hIx.from.putObj o h (by omega) hr rfl
  refine ⟨w.heap.size + 1, [{ target := .collected w.heap.size, args := #[] }], W1, { target := .fn (.func gf) lb, args := #[.func (.yield (w.heap.size + 1)) #[] #[]] }, W1, gf,
    #[.func (.yield (w.heap.size + 1)) #[] #[]] ++ lb, W1, ?_, ?_, fun _ _ => trivial, ?_, fun _ => h1, ?_⟩
  · rw [← hW1, hrec]; exact run_enterLoop_outer _ _ _ _ _
  · simp only [resolve, hg]
    simp [go_sem]
  · simp [invoke, go_sem, eg]
  · refine (hseq (w.heap.size + 1) (fun pre W => I pre W ∧ w.heap.size + 2 ≤ W.heap.size ∧ W.heap[w.heap.size + 1]? = some (.loop (rec .ready none)) ∧ W.heap[w.heap.size]? = some (.deferred (some [])))
      (fun pre W => Ix pre W ∧ W.heap[w.heap.size + 1]? = some (.loop (rec .done (some .ret))) ∧ W.heap[w.heap.size]? = some (.deferred (some []))) W1 hb1 (by have := hb0.size; omega) (by omega) hX ?_ ?_ ?_ ⟨hI1, by omega, hL1, hK1⟩).mono ?_
    · rintro s A C row ⟨hi, hsz, hl, hk⟩ hgr hr
      have hne : ∀ k, k < w.heap.size + 2 → some k ≠ row := fun k hk' e => by have := hr k e.symm; omega
      exact ⟨hI s A C row hi hgr (fun r e => by have := hr r e; omega), Nat.le_trans hsz hgr.size, (hgr.block _ (Array.getElem?_eq_some_iff.1 hl).1 (hne _ (by omega))).trans hl, (hgr.block _ (Array.getElem?_eq_some_iff.1 hk).1 (hne _ (by omega))).trans hk⟩
    · rintro s A C row ⟨hi, hl, hk⟩ hgr hr
      have hne : ∀ k, k < w.heap.size + 2 → some k ≠ row := fun k hk' e => by have := (hr k e.symm).1; omega
      exact ⟨hIx s A C row hi hgr (fun r e => ⟨by have := (hr r e).1; omega, (hr r e).2⟩), (hgr.block _ (Array.getElem?_eq_some_iff.1 hl).1 (hne _ (by omega))).trans hl, (hgr.block _ (Array.getElem?_eq_some_iff.1 hk).1 (hne _ (by omega))).trans hk⟩
    · rintro pre x Wb ⟨hib, hsz, hlb, hkb⟩ hokb hlen
      have hy := run_yield (P := P) (args := encs x) hlb (by rw [hrec]; exact hps x)
      rw [hrec] at hy
      refine ⟨fn, _, assign, body, hy, roundIn_of_wpIn hfn (hassign _ pre x Wb _ hib hokb (by omega) ?_)⟩
      clear hy
      intro a' W hbt hi hok hax
      have hl := hbt.keep (k := w.heap.size + 1) (fun e => e) hlb
      have hk := hbt.keep (k := w.heap.size) (fun e => e) hkb
      have hlt : w.heap.size + 1 < W.heap.size := (Array.getElem?_eq_some_iff.1 hl).1
      refine ⟨_, run_beginRound hl (by rw [hrec]), ?_⟩
      have hok2 : Ok x (W.putObj (w.heap.size + 1) (.loop { rec .ready none with state := .busy })) := hOk _ _ _ _ hok ⟨_, hl, rfl⟩
      have hax2 : Ax x a' (W.putObj (w.heap.size + 1) (.loop { rec .ready none with state := .busy })) := hAx _ _ _ _ _ hax ⟨_, hl, rfl⟩
      have hl2 : (W.putObj (w.heap.size + 1) (.loop { rec .ready none with state := .busy })).heap[w.heap.size + 1]? = some (.loop { rec .ready none with state := .busy }) := World.putObj_heap_same hlt
      have hk2 : (W.putObj (w.heap.size + 1) (.loop { rec .ready none with state := .busy })).heap[w.heap.size]? = some (.deferred (some [])) := (World.putObj_heap_other (by omega)).trans hk
      refine wpIn_mono (hbody _ pre x a' _ (by omega) (hput _ _ _ hi) hok2 hax2 hlen) ?_
      have hbW : But (fun k => k = w.heap.size + 1 ∨ X k) Wb W := hbt.mono (fun k _ e => e.elim)
      rintro e a3 W3 hp
      cases e with
      | normal =>
        obtain ⟨hk3, hi3⟩ := hp
        have hl3 := hk3.keep hX1 hl2
        have hr := run_endRound (P := P) none hl3
        have hb4 : But (fun k => k = w.heap.size + 1 ∨ X k) Wb (W3.putObj (w.heap.size + 1) (.loop (rec .ready none))) :=
          ((hbW.trans (But.putObj W _ _ (.inl rfl))).trans (hk3.mono (fun k _ e => .inr e))).trans (But.putObj W3 _ _ (.inl rfl))
        have hs3 := hk3.size
        rw [hrec] at hr hb4 ⊢
        refine ⟨_, _, hr, .inl ⟨rfl, ⟨hput _ _ _ hi3, by simp at hs3; simp; omega, World.putObj_heap_same (Array.getElem?_eq_some_iff.1 hl3).1, (World.putObj_heap_other (by omega)).trans (hk3.keep hX2 hk2)⟩, hb4⟩⟩
      | ret =>
        obtain ⟨hk3, hi3⟩ := hp
        have hl3 := hk3.keep hX1 hl2
        have hr := run_endRound (P := P) (some .ret) hl3
        have hb4 : But (fun k => k = w.heap.size + 1 ∨ X k) Wb (W3.putObj (w.heap.size + 1) (.loop (rec .done (some .ret)))) :=
          ((hbW.trans (But.putObj W _ _ (.inl rfl))).trans (hk3.mono (fun k _ e => .inr e))).trans (But.putObj W3 _ _ (.inl rfl))
        rw [hrec] at hr hb4 ⊢
        refine ⟨_, _, hr, .inr ⟨rfl, ⟨hputx _ _ _ ⟨_, hl3⟩ hi3, World.putObj_heap_same (Array.getElem?_eq_some_iff.1 hl3).1, (World.putObj_heap_other (by omega)).trans (hk3.keep hX2 hk2)⟩, hb4⟩⟩
      | _ => exact hp.elim
    · rintro e W2 ⟨⟨v, rfl⟩, (⟨xs, hS, hi, -, hl, hk⟩ | ⟨pre, hSp, hi, hl, hk⟩)⟩
      · refine ⟨none, _, by have := run_endLoop (P := P) hl (by rw [hrec]; simp); rw [hrec] at this; exact this, ?_⟩
        exact hdone _ xs _ (Nat.le_refl _) hS (hput _ _ _ hi) ((World.putObj_heap_other (by omega)).trans hk)
      · refine ⟨some .ret, _, by have := run_endLoop (P := P) hl (by rw [hrec]; simp); rw [hrec] at this; exact this, ?_⟩
        exact hstop _ pre _ (Nat.le_refl _) hSp (hputx _ _ _ ⟨_, hl⟩ hi) ((World.putObj_heap_other (by omega)).trans hk)

end Go

/- It is proved what the method and of a naming returns; conditions: those of each statement. -/
namespace Go.Proofs.YtacglafoahmcnaaDoor
open Go.RowKit Go.Shelf

/-- Numbers as cells. -/
def iv (xs : List Int) : Array Value := (xs.map (Value.int .i64)).toArray

theorem iv_at (xs : List Int) (i : Nat) (h : i < xs.length) : (iv xs)[i]? = some (.int .i64 (xs[i]?.getD 0)) := by simp [iv, h]
/-- Block b holds just these numbers. -/
def Nums (W : World) (b : Nat) (t : TypeId) (xs : List Int) : Prop := HasBlk W b (iv xs) t

theorem Nums.cell {W : World} {b : Nat} {t : TypeId} {xs : List Int} (h : Nums W b t xs) (i : Nat) (hi : i < xs.length) : W.cell? ⟨b, i, none⟩ = some (.int .i64 (xs[i]?.getD 0)) := (blk_cell h i).trans (iv_at xs i hi)
theorem Nums.frozen {W : World} {b : Nat} {t : TypeId} {xs : List Int} (h : Nums W b t xs) (i : Nat) : W.frozen? ⟨b, i, none⟩ = false := blk_frozen h i
theorem Nums.lt {W : World} {b : Nat} {t : TypeId} {xs : List Int} (h : Nums W b t xs) : b < W.heap.size := lt_of_some h
theorem Nums.alloc {W : World} {b : Nat} {t : TypeId} {xs : List Int} (h : Nums W b t xs) (o : Obj) : Nums (W.alloc o) b t xs := HasBlk.alloc h o
theorem Nums.kept {W W' : World} {b : Nat} {t : TypeId} {xs : List Int} {row : Option Nat} (h : Nums W b t xs) (hg : W.grownBy W' row) (hr : row ≠ some b) : Nums W' b t xs := HasBlk.kept h hg hr
theorem Nums.below {W W' : World} {b B : Nat} {t : TypeId} {xs : List Int} (h : Nums W b t xs) (hb : Below B W W') (hB : b < B) : Nums W' b t xs := (hb.block b hB).trans h
theorem Nums.far {W : World} {b : Nat} {t : TypeId} {xs : List Int} (h : Nums W b t xs) {p : Addr} (hp : b ≠ p.block) (u : Value) : Nums (W.setCell p u) b t xs := HasBlk.far h hp u
theorem Nums.set {W : World} {b : Nat} {t : TypeId} {xs : List Int} (h : Nums W b t xs) (i : Nat) (x : Int) : Nums (W.setCell ⟨b, i, none⟩ (.int .i64 x)) b t (xs.set i x) := by
  have := heap_setCell_same W b i (iv xs) t (.int .i64 x) h
  unfold Nums HasBlk
  rw [this]
  simp [iv, List.map_set]

theorem Nums.row {W : World} {b : Nat} {t : TypeId} {xs : List Int} (h : Nums W b t xs) (ys : List Int) : Nums (W.setRow b ((ys.map (Value.int .i64)).toArray)) b t ys := setRow_heap W b (iv xs) _ t _ h
end Go.Proofs.YtacglafoahmcnaaDoor

/- It is proved that parts of the members are alike whoever tells them; conditions: those of each statement. -/
namespace Go.Proofs.YtacglafoahmcnaaDoor

/-- One club is let in where it meets. -/
def meet1 (t k : Nat) : Nat := if k &&& t = 0 then t else t ||| k

/-- All clubs, one behind the other. -/
def stepP (ks : List Nat) (s : Nat) : Nat := ks.foldl meet1 s

theorem stepP_snoc (ks : List Nat) (k s : Nat) : stepP (ks ++ [k]) s = meet1 (stepP ks s) k := by simp [stepP]
theorem meet1_ge (t k i : Nat) (h : t.testBit i = true) : (meet1 t k).testBit i = true := by
  unfold meet1; split
  · exact h
  · simp [h]

theorem stepP_ge (ks : List Nat) : ∀ (s i : Nat), s.testBit i = true → (stepP ks s).testBit i = true := by
  induction ks with
  | nil => intro s i h; exact h
  | cons k ks ih => intro s i h; exact ih _ i (meet1_ge s k i h)

/-- What a club meets it has whole. -/
def ClosedP (ks : List Nat) (C : Nat → Prop) : Prop := ∀ k ∈ ks, (∃ i, k.testBit i = true ∧ C i) → ∀ i, k.testBit i = true → C i

theorem and_ne {k t : Nat} (h : k &&& t ≠ 0) : ∃ i, k.testBit i = true ∧ t.testBit i = true := by
  obtain ⟨i, hi⟩ := Nat.exists_testBit_of_ne_zero h
  rw [Nat.testBit_and, Bool.and_eq_true] at hi
  exact ⟨i, hi⟩

theorem and_zero {k t : Nat} (h : k &&& t = 0) (i : Nat) (hk : k.testBit i = true) : t.testBit i = false := by
  have h1 : (k &&& t).testBit i = false := by rw [h]; simp
  rw [Nat.testBit_and, hk, Bool.true_and] at h1
  exact h1

theorem stepP_in {C : Nat → Prop} : ∀ (ks : List Nat) (s : Nat), ClosedP ks C → (∀ i, s.testBit i = true → C i) → ∀ i, (stepP ks s).testBit i = true → C i
  | [], _, _, h, i, hi => h i hi
  | k :: ks, s, hc, h, i, hi => by
    refine stepP_in ks (meet1 s k) (fun k' hk' => hc k' (by simp [hk'])) ?_ i hi
    intro j hj
    unfold meet1 at hj
    split at hj
    · exact h j hj
    · rename_i hne
      rw [Nat.testBit_or, Bool.or_eq_true] at hj
      rcases hj with hj | hj
      · exact h j hj
      · obtain ⟨x, hx1, hx2⟩ := and_ne hne
        exact hc k (by simp) ⟨x, hx1, h x hx2⟩ j hj

theorem stepP_closed : ∀ (ks : List Nat) (s : Nat), stepP ks s = s → ClosedP ks (fun i => s.testBit i = true)
  | [], _, _ => fun k hk => by simp at hk
  | k :: ks, s, h => by
    have h1 : meet1 s k = s := by
      apply Nat.eq_of_testBit_eq
      intro i
      cases hb : s.testBit i
      · cases hm : (meet1 s k).testBit i
        · rfl
        · have := stepP_ge ks _ i hm
          rw [show stepP ks (meet1 s k) = stepP (k :: ks) s from rfl, h, hb] at this
          exact this.symm
      · exact meet1_ge s k i hb
    have h2 : stepP ks s = s := by
      have : stepP (k :: ks) s = stepP ks (meet1 s k) := rfl
      rw [h1] at this
      rw [← this]; exact h
    intro k' hk' hm i hi
    rcases List.mem_cons.1 hk' with rfl | hk'
    · obtain ⟨x, hx1, hx2⟩ := hm
      have hne : ¬ (k' &&& s = 0) := fun e => by rw [and_zero e x hx1] at hx2; cases hx2
      unfold meet1 at h1
      rw [if_neg hne] at h1
      show s.testBit i = true
      rw [← h1, Nat.testBit_or, hi, Bool.or_true]
    · exact stepP_closed ks s h2 k' hk' hm i hi

def iterP (ks : List Nat) : Nat → Nat → Nat
  | 0, s => s
  | n + 1, s => stepP ks (iterP ks n s)

theorem iterP_ge (ks : List Nat) (s i : Nat) (h : s.testBit i = true) : ∀ n, (iterP ks n s).testBit i = true
  | 0 => h
  | n + 1 => stepP_ge ks _ i (iterP_ge ks s i h n)

theorem iterP_in {C : Nat → Prop} (ks : List Nat) (hc : ClosedP ks C) (s : Nat) (h : ∀ i, s.testBit i = true → C i) : ∀ n i, (iterP ks n s).testBit i = true → C i
  | 0 => h
  | n + 1 => stepP_in ks _ hc (iterP_in ks hc s h n)

theorem iterP_fix (ks : List Nat) (s n : Nat) (h : stepP ks (iterP ks n s) = iterP ks n s) : ∀ k, iterP ks (n + k) s = iterP ks n s
  | 0 => rfl
  | k + 1 => by
    have : iterP ks (n + (k + 1)) s = stepP ks (iterP ks (n + k) s) := rfl
    rw [this, iterP_fix ks s n h k, h]

set_option maxRecDepth 100000 in
theorem pop_grow : ∀ s, s < 64 → ∀ t, t < 64 → s ||| t = t → s ≠ t → popS s < popS t := by decide +kernel

set_option maxRecDepth 100000 in
theorem pop_le : ∀ m, m ≤ 6 → ∀ s, s < 2 ^ m → popS s ≤ m := by decide +kernel

theorem stepP_lt (m : Nat) (ks : List Nat) (hk : ∀ k ∈ ks, k < 2 ^ m) : ∀ s, s < 2 ^ m → stepP ks s < 2 ^ m := by
  induction ks with
  | nil => intro s h; exact h
  | cons k ks ih =>
    intro s h
    refine ih (fun k' h' => hk k' (by simp [h'])) _ ?_
    unfold meet1; split
    · exact h
    · exact Nat.or_lt_two_pow h (hk k (by simp))

theorem stepP_or (ks : List Nat) (s : Nat) : s ||| stepP ks s = stepP ks s := by
  apply Nat.eq_of_testBit_eq
  intro i
  rw [Nat.testBit_or]
  cases hb : s.testBit i
  · simp
  · rw [stepP_ge ks s i hb]; rfl

theorem iterP_lt (m : Nat) (ks : List Nat) (hk : ∀ k ∈ ks, k < 2 ^ m) (s : Nat) (hs : s < 2 ^ m) : ∀ n, iterP ks n s < 2 ^ m
  | 0 => hs
  | n + 1 => stepP_lt m ks hk _ (iterP_lt m ks hk s hs n)

/-- After m rounds nothing grows. -/
theorem iterP_done (m : Nat) (hm : m ≤ 6) (ks : List Nat) (hk : ∀ k ∈ ks, k < 2 ^ m) (s : Nat) (hs : s < 2 ^ m) (h1 : 1 ≤ popS s) : stepP ks (iterP ks m s) = iterP ks m s := by
  have h64 : ∀ n, iterP ks n s < 64 := fun n => Nat.lt_of_lt_of_le (iterP_lt m ks hk s hs n) (Nat.pow_le_pow_right (by decide) hm : 2 ^ m ≤ 2 ^ 6)
  have key : ∀ n, stepP ks (iterP ks n s) = iterP ks n s ∨ n + 1 ≤ popS (iterP ks n s) := by
    intro n
    induction n with
    | zero => exact .inr h1
    | succ n ih =>
      by_cases hf : stepP ks (iterP ks n s) = iterP ks n s
      · left
        show stepP ks (stepP ks (iterP ks n s)) = stepP ks (iterP ks n s)
        rw [hf, hf]
      · right
        rcases ih with h | h
        · exact absurd h hf
        · have := pop_grow _ (h64 n) _ (h64 (n + 1)) (stepP_or ks _) (fun e => hf e.symm)
          omega
  rcases key m with h | h
  · exact h
  · have := pop_le m hm _ (iterP_lt m ks hk s hs m)
    omega

/-- The part of a member. -/
def partP (m : Nat) (ks : List Nat) (v : Nat) : Nat := iterP ks m (2 ^ v)

structure Ksm (m : Nat) (ks : List Nat) : Prop where
  six : m ≤ 6
  lt : ∀ k ∈ ks, k < 2 ^ m

set_option maxRecDepth 100000 in
theorem pop_one : ∀ v, v < 6 → popS (2 ^ v) = 1 := by decide +kernel

theorem partP_lt {m : Nat} {ks : List Nat} (h : Ksm m ks) {v : Nat} (hv : v < m) : partP m ks v < 2 ^ m := iterP_lt m ks h.lt _ (Nat.pow_lt_pow_right (by decide) hv) m
theorem partP_closed {m : Nat} {ks : List Nat} (h : Ksm m ks) {v : Nat} (hv : v < m) : ClosedP ks (fun i => (partP m ks v).testBit i = true) :=
  stepP_closed ks _ (iterP_done m h.six ks h.lt _ (Nat.pow_lt_pow_right (by decide) hv) (by rw [pop_one v (by have := h.six; omega)]; omega))

theorem partP_self {m : Nat} {ks : List Nat} (v : Nat) : (partP m ks v).testBit v = true := iterP_ge ks _ v (by simp) m
theorem partP_min {m : Nat} {ks : List Nat} {v : Nat} {C : Nat → Prop} (hc : ClosedP ks C) (hv : C v) : ∀ i, (partP m ks v).testBit i = true → C i :=
  iterP_in ks hc _ (fun i hi => by
    rw [Nat.testBit_two_pow, decide_eq_true_eq] at hi
    rw [← hi]; exact hv) m

theorem partP_sym {m : Nat} {ks : List Nat} (h : Ksm m ks) {u v : Nat} (hu : u < m) (huv : (partP m ks v).testBit u = true) : (partP m ks u).testBit v = true := by
  cases hb : (partP m ks u).testBit v
  · have hc : ClosedP ks (fun i => (partP m ks u).testBit i = false) := by
      intro k hk hm i hi
      obtain ⟨x, hx1, hx2⟩ := hm
      cases hb2 : (partP m ks u).testBit i
      · rfl
      · have h3 : (partP m ks u).testBit x = true := partP_closed h hu k hk ⟨i, hi, hb2⟩ x hx1
        rw [hx2] at h3; cases h3
    have h4 : (partP m ks u).testBit u = false := partP_min (m := m) hc hb u huv
    rw [partP_self u] at h4; cases h4
  · rfl

theorem partP_trans {m : Nat} {ks : List Nat} (h : Ksm m ks) {u v : Nat} (hv : v < m) (huv : (partP m ks v).testBit u = true) : ∀ i, (partP m ks u).testBit i = true → (partP m ks v).testBit i = true :=
  partP_min (m := m) (partP_closed h hv) huv

/-- No member of v's part is ahead of v. -/
def firstP (m : Nat) (ks : List Nat) (v : Nat) : Bool := decide (partP m ks v &&& (2 ^ v - 1) = 0)

theorem firstP_iff {m : Nat} {ks : List Nat} (h : Ksm m ks) {v : Nat} (hv : v < m) : firstP m ks v = true ↔ ∀ u, u < v → (partP m ks u).testBit v = false := by
  unfold firstP
  rw [decide_eq_true_eq]
  constructor
  · intro h0 u hu
    cases hb : (partP m ks u).testBit v
    · rfl
    · have h1 := partP_sym h hv hb
      have := and_zero h0 u h1
      rw [Nat.testBit_two_pow_sub_one] at this
      simp at this
      omega
  · intro h0
    apply Nat.eq_of_testBit_eq
    intro i
    rw [Nat.testBit_and, Nat.testBit_two_pow_sub_one, Nat.zero_testBit]
    by_cases hi : i < v
    · cases hb : (partP m ks v).testBit i
      · simp
      · have h1 := partP_sym h (by omega) hb
        rw [h0 i hi] at h1; cases h1
    · simp [hi]

/-- How many members are first of their parts. -/
def cntP (m : Nat) (ks : List Nat) (v : Nat) : Nat := ((List.range v).filter (firstP m ks)).length

theorem cntP_succ (m : Nat) (ks : List Nat) (v : Nat) : cntP m ks (v + 1) = cntP m ks v + (if firstP m ks v = true then 1 else 0) := by
  unfold cntP
  rw [List.range_succ, List.filter_append, List.length_append]
  by_cases h : firstP m ks v = true
  · simp [h]
  · simp [h]

theorem cntP_le (m : Nat) (ks : List Nat) (v : Nat) : cntP m ks v ≤ v := by
  unfold cntP
  exact Nat.le_trans (List.length_filter_le _ _) (by simp)

end Go.Proofs.YtacglafoahmcnaaDoor
