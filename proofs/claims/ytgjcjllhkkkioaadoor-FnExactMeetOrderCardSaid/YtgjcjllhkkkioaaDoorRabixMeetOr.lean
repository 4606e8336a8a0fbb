/- It is proved what a loop over a function does where the function keeps cells of its own, and the body writes blocks that lay ahead of the loop and may leave it; conditions: those of each statement. -/
import Derived.RangeFuncNested
import Derived.RangeFuncBound
import Derived.RangeFuncCalls
import Derived.RangeFuncLeaves
import Derived.RangeFuncBox
import Derived.RangeFuncWrites
import Derived.Test.YtgjcjllhkkkioaaDoorRaac
import Derived.RowKit
import Derived.Laws.CopyRow
import Derived.Lib.SlBuf
import Derived.StillTailTactics
import Derived.Test.YtgjcjllhkkkioaaDoorRows
import Derived.WalkKit
import Derived.WalkSpells
import Derived.ProofKit
import Derived.OpenShut
import Derived.ShutString
import Derived.ChangeOld
import Derived.Below
import Derived.Deep.RegionHeld3
import Derived.Deep.QuietTactic
import Derived.BigQuiet
import Derived.Lib.Hide
import Derived.Lib.SmallJoins
import Derived.Outline
import Derived.Laws.MakeOwn
import Derived.Laws.OwnMore
import Derived.IntWalk
import Derived.Shelf.Abstract
import Derived.Shelf.RegionOpen
import Derived.OwnWalkIn
import Derived.TacticsInMore
import Derived.LoopNIn
import Derived.LoopIn
import Derived.Maps.AppendAt
import Derived.Deep.AppendLies
import Derived.OwnWalk
import Derived.StillTail
import Derived.StillTactics
import Derived.OrdersIn
import Derived.TacticsIn
import Derived.Shelf.Spec.TrailingZeros
import Derived.Test.YtgjcjllhkkkioaaDoorRaad
import Derived.Test.YtgjcjllhkkkioaaDoorRaag
import Derived.Test.YtgjcjllhkkkioaaDoorRaab
import Derived.Test.YtgjcjllhkkkioaaDoorRaae
import Derived.Test.YtgjcjllhkkkioaaDoorRaaf
namespace Go
open Go.RowKit

/-- How a round ends. -/
def postBut {α : Type} (X : Nat → Prop) (I Ix : List α → World → Prop) (xs : List α) (W : World) : Exit → Act → World → Prop
  | .normal, _, W' => But X W W' ∧ I xs W'
  | .ret, _, W' => But X W W' ∧ Ix xs W'
  | _, _, _ => False

theorem OwnAll.alloc {β : Type} {B : Nat} {J : β → World → Prop} (h : OwnAll B J) {s : β} {W : World} (o : Obj) (hs : J s W) : J s (W.alloc o) := h _ _ _ none hs (World.grownBy_alloc _ _ _) (by simp)
theorem OwnAll.step {β : Type} {B : Nat} {J : β → World → Prop} (h : OwnAll B J) {s : β} {W W' : World} (hb : Below W.heap.size W W') (hs : J s W) : J s W' :=
  h _ _ _ none hs ⟨hb.os, hb.tape, hb.output, hb.size, fun k hk _ => hb.block k hk⟩ (by simp)

theorem OwnAll.cell {β : Type} {B : Nat} {J : β → World → Prop} (h : OwnAll B J) {s : β} {W : World} {b : Nat} (i : Nat) (v : Value) (hB : B ≤ b) (hs : J s W) : J s (W.setCell ⟨b, i, none⟩ v) :=
  h _ _ _ (some b) hs ⟨rfl, rfl, rfl, by simp, fun k _ hX => Below.heap_setCell W ⟨b, i, none⟩ v k (fun e => hX (by subst e; rfl))⟩ (fun r e => by cases e; exact hB)

theorem OwnAll.obj {β : Type} {B : Nat} {J : β → World → Prop} (h : OwnAll B J) {s : β} {W : World} {b : Nat} (o : Obj) (hB : B ≤ b) (hs : J s W) : J s (W.putObj b o) :=
  h _ _ _ (some b) hs (grownBy_putObj' W b o) (fun r e => by cases e; exact hB)

end Go

/- It is proved what a loop over a function does that writes cells of its own, of one bool each, also behind the loop's end; conditions: those of each statement. -/
namespace Go
open Go.RowKit

/-- A fact that stays where blocks grow, or where a block behind B is written that holds no cells, or one bool. -/
def OwnB {β : Type} (B : Nat) (J : β → World → Prop) : Prop :=
  ∀ s A C row, J s A → A.grownBy C row → (∀ r, row = some r → B ≤ r ∧ ∃ o : Obj, A.heap[r]? = some o ∧ (o.isCells = false ∨ ∃ v, o = .cells #[v] 4)) → J s C

theorem OwnB.from {β : Type} {B : Nat} {J : β → World → Prop} (h : OwnB B J) : OwnFrom B J :=
  fun s A C row hs hg hr => h s A C row hs hg (fun r e => by obtain ⟨h1, o, h2, h3⟩ := hr r e; exact ⟨h1, o, h2, .inl h3⟩)

theorem OwnB.le {β : Type} {B B' : Nat} {J : β → World → Prop} (h : OwnB B J) (hB : B ≤ B') : OwnB B' J :=
  fun s A C row hs hg hr => h s A C row hs hg (fun r e => ⟨Nat.le_trans hB (hr r e).1, (hr r e).2⟩)

/-- The bool of a result is written. -/
theorem OwnB.flag {β : Type} {B : Nat} {J : β → World → Prop} (h : OwnB B J) {s : β} {W : World} {b : Nat} {v v' : Value} (hB : B ≤ b) (hb : W.heap[b]? = some (.cells #[v] 4)) (hs : J s W) : J s (W.setCell ⟨b, 0, none⟩ v') :=
  h _ _ _ (some b) hs ⟨rfl, rfl, rfl, by simp, fun k _ hX => Below.heap_setCell W ⟨b, 0, none⟩ v' k (fun e => hX (by subst e; rfl))⟩ (fun r e => by cases e; exact ⟨hB, _, hb, .inr ⟨v, rfl⟩⟩)

theorem OwnB.alloc {β : Type} {B : Nat} {J : β → World → Prop} (h : OwnB B J) {s : β} {W : World} (o : Obj) (hs : J s W) : J s (W.alloc o) := h _ _ _ none hs (World.grownBy_alloc _ _ _) (by simp)
/-- The contract of an iterator that may keep cells of its own, and writes one bool of its own behind a stop. -/
def SeqButB {α : Type} (n : Nat) (P : Program) (g : Nat) (lb : Array Value) (encs : α → Array Value) (X : Nat → Prop) (Ok : α → World → Prop) (S Sp : List α → Prop) (N : Nat) (w : World) : Prop :=
  ∀ (l : Nat) (J Jx : List α → World → Prop) (W : World), Below w.heap.size w W → w.heap.size ≤ l → l < W.heap.size → (∀ k, X k → k < w.heap.size) → OwnAll W.heap.size J → OwnB W.heap.size Jx →
    (∀ pre x W1, J pre W1 → Ok x W1 → pre.length < N → YieldAt Fence.wide (n - 1) P l (encs x) W1 fun e W' =>
      (e = .returned (.bool true) ∧ J (pre ++ [x]) W' ∧ But (fun k => k = l ∨ X k) W1 W') ∨ (e = .returned (.bool false) ∧ Jx (pre ++ [x]) W' ∧ But (fun k => k = l ∨ X k) W1 W')) →
    J [] W →
    CallsIn Fence.wide n P g (#[.func (.yield l) #[] #[]] ++ lb) W fun e W' => (∃ v, e = .returned v) ∧ ((∃ xs, S xs ∧ J xs W') ∨ (∃ pre, Sp pre ∧ Jx pre W'))

theorem wpIn_rangeFunc_butB {P : Program} {n : Nat} {α : Type} {g : Operand} {ps : Array Tmp} {assign body : Code} {Q : Exit → Act → World → Prop} {a : Act} {w : World}
    (h1 : 1 ≤ n) {gf : Nat} {lb : Array Value} (hg : a.eval g = .func (.func gf) #[] lb) (eg : ∀ args w, (callFunc gf args).run P w = .ok (.enter gf args) w)
    {encs : α → Array Value} {X : Nat → Prop} {Ok : α → World → Prop} {S Sp : List α → Prop} {N : Nat} {w0 : World} (hseq : SeqButB (n - 1) P gf lb encs X Ok S Sp N w0) (hb0 : Below w0.heap.size w0 w) (hX : ∀ k, X k → k < w0.heap.size) (hps : ∀ x, (encs x).size = ps.size)
    (hOk : ∀ x A l o, Ok x A → (∃ o', A.heap[l]? = some o' ∧ o'.isCells = false) → Ok x (A.putObj l o))
    (I Ix : List α → World → Prop) (hI : OwnAll w.heap.size I) (hIx : OwnB w.heap.size Ix) (h0 : I [] w) (Ax : α → Act → World → Prop) (hAx : ∀ x a' A l o, Ax x a' A → (∃ o', A.heap[l]? = some o' ∧ o'.isCells = false) → Ax x a' (A.putObj l o))
    (hassign : ∀ (l : Nat) (pre : List α) (x : α) (W : World) (K : Act → World → Prop), I pre W → Ok x W → w.heap.size ≤ W.heap.size → (∀ a' W', But (fun _ => False) W W' → I pre W' → Ok x W' → Ax x a' W' → K a' W') →
      assign.wpIn (Fence.wide.inRound l) (n - 1 - 1) P (Exit.then K (fun _ _ _ => False)) { tmps := (ps.zip (encs x)).foldl (fun t (p, v) => t.setIfInBounds p v) a.tmps, defers := [] } W)
    (hbody : ∀ (l : Nat) (pre : List α) (x : α) (a' : Act) (W : World), w.heap.size ≤ l → I pre W → Ok x W → Ax x a' W → pre.length < N → body.wpIn (Fence.wide.inRound l) (n - 1 - 1) P (postBut X I Ix (pre ++ [x]) W) a' W)
    (hdone : ∀ (D : Nat) (xs : List α) (W : World), w.heap.size ≤ D → S xs → I xs W → W.heap[D]? = some (.deferred (some [])) → Q .normal { a with defers := { target := .collected D, args := #[] } :: a.defers } W)
    (hstop : ∀ (D : Nat) (pre : List α) (W : World), w.heap.size ≤ D → Sp pre → Ix pre W → W.heap[D]? = some (.deferred (some [])) → Code.ret.wpIn Fence.wide n P Q { a with defers := { target := .collected D, args := #[] } :: a.defers } W) :
    (Code.rangeFunc g ps assign body).wpIn Fence.wide n P Q a w := by
  refine wpIn_rangeFunc ?_
  intro fn hfn
  rw [show Fence.wide.round = none from rfl]
  obtain ⟨rec, hrec⟩ : ∃ rec : LoopState → Option Code → Loop, rec = fun st pe => { state := st, pending := pe, fn, tmps := a.tmps, params := ps, assign, body, defers := w.heap.size } := ⟨_, rfl⟩
  obtain ⟨W1, hW1⟩ : ∃ W1, (w.alloc (.deferred (some []))).alloc (.loop (rec .ready none)) = W1 := ⟨_, rfl⟩
  have hs1 : W1.heap.size = w.heap.size + 2 := by rw [← hW1]; simp
  have hL1 : W1.heap[w.heap.size + 1]? = some (.loop (rec .ready none)) := by
    rw [← hW1]; have := World.alloc_heap_new (w.alloc (.deferred (some []))) (.loop (rec .ready none)); rwa [World.size_alloc] at this
  have hK1 : W1.heap[w.heap.size]? = some (.deferred (some [])) := by
    rw [← hW1]; exact (Below.heap_alloc _ _ _ (by simp)).trans (World.alloc_heap_new w _)
  have hI1 : I [] W1 := by rw [← hW1]; exact hI.alloc _ (hI.alloc _ h0)
  have hb1 : Below w0.heap.size w0 W1 := by
    rw [← hW1]; exact hb0.trans ((((Below.refl _ w).alloc (Nat.le_refl _) _).alloc (by simp) _).mono hb0.size)
  have hXw : ∀ k, X k → k < w.heap.size := fun k h => Nat.lt_of_lt_of_le (hX k h) hb0.size
  have hX1 : ¬ X (w.heap.size + 1) := fun h => by have := hXw _ h; omega
  have hX2 : ¬ X w.heap.size := fun h => by have := hXw _ h; omega
  have hput : ∀ (xs : List α) (W : World) (o : Obj), I xs W → I xs (W.putObj (w.heap.size + 1) o) := fun xs W o h => hI.obj o (by omega) h
  have hputx : ∀ (xs : List α) (W : World) (o : Obj), (∃ r, W.heap[w.heap.size + 1]? = some (.loop r)) → Ix xs W → Ix xs (W.putObj (w.heap.size + 1) o) := fun xs W o ⟨r, hr⟩ h => hIx.from.putObj o h (by omega) hr rfl
  refine ⟨w.heap.size + 1, [{ target := .collected w.heap.size, args := #[] }], W1, { target := .fn (.func gf) lb, args := #[.func (.yield (w.heap.size + 1)) #[] #[]] }, W1, gf,
    #[.func (.yield (w.heap.size + 1)) #[] #[]] ++ lb, W1, ?_, ?_, fun _ _ => trivial, ?_, fun _ => h1, ?_⟩
  · rw [← hW1, hrec]; exact run_enterLoop_outer _ _ _ _ _
  · simp only [resolve, hg]
    simp [go_sem]
  · simp [invoke, go_sem, eg]
  · refine (hseq (w.heap.size + 1) (fun pre W => I pre W ∧ w.heap.size + 2 ≤ W.heap.size ∧ W.heap[w.heap.size + 1]? = some (.loop (rec .ready none)) ∧ W.heap[w.heap.size]? = some (.deferred (some [])))
      (fun pre W => Ix pre W ∧ W.heap[w.heap.size + 1]? = some (.loop (rec .done (some .ret))) ∧ W.heap[w.heap.size]? = some (.deferred (some []))) W1 hb1 (by have := hb0.size; omega) (by omega) hX ?_ ?_ ?_ ⟨hI1, by omega, hL1, hK1⟩).mono ?_
    · rintro s A C row ⟨hi, hsz, hl, hk⟩ hgr hr
      have hne : ∀ k, k < w.heap.size + 2 → some k ≠ row := fun k hk' e => by have := hr k e.symm; omega
      exact ⟨hI s A C row hi hgr (fun r e => by have := hr r e; omega), Nat.le_trans hsz hgr.size, (hgr.block _ (Array.getElem?_eq_some_iff.1 hl).1 (hne _ (by omega))).trans hl, (hgr.block _ (Array.getElem?_eq_some_iff.1 hk).1 (hne _ (by omega))).trans hk⟩
    · rintro s A C row ⟨hi, hl, hk⟩ hgr hr
      have hne : ∀ k, k < w.heap.size + 2 → some k ≠ row := fun k hk' e => by have := (hr k e.symm).1; omega
      exact ⟨hIx s A C row hi hgr (fun r e => ⟨by have := (hr r e).1; omega, (hr r e).2⟩), (hgr.block _ (Array.getElem?_eq_some_iff.1 hl).1 (hne _ (by omega))).trans hl, (hgr.block _ (Array.getElem?_eq_some_iff.1 hk).1 (hne _ (by omega))).trans hk⟩
    · rintro pre x Wb ⟨hib, hsz, hlb, hkb⟩ hokb hlen
      have hy := run_yield (P := P) (args := encs x) hlb (by rw [hrec]; exact hps x)
      rw [hrec] at hy
      refine ⟨fn, _, assign, body, hy, roundIn_of_wpIn hfn (hassign _ pre x Wb _ hib hokb (by omega) ?_)⟩
      clear hy
      intro a' W hbt hi hok hax
      have hl := hbt.keep (k := w.heap.size + 1) (fun e => e) hlb
      have hk := hbt.keep (k := w.heap.size) (fun e => e) hkb
      have hlt : w.heap.size + 1 < W.heap.size := (Array.getElem?_eq_some_iff.1 hl).1
      refine ⟨_, run_beginRound hl (by rw [hrec]), ?_⟩
      have hok2 : Ok x (W.putObj (w.heap.size + 1) (.loop { rec .ready none with state := .busy })) := hOk _ _ _ _ hok ⟨_, hl, rfl⟩
      have hax2 : Ax x a' (W.putObj (w.heap.size + 1) (.loop { rec .ready none with state := .busy })) := hAx _ _ _ _ _ hax ⟨_, hl, rfl⟩
      have hl2 : (W.putObj (w.heap.size + 1) (.loop { rec .ready none with state := .busy })).heap[w.heap.size + 1]? = some (.loop { rec .ready none with state := .busy }) := World.putObj_heap_same hlt
      have hk2 : (W.putObj (w.heap.size + 1) (.loop { rec .ready none with state := .busy })).heap[w.heap.size]? = some (.deferred (some [])) := (World.putObj_heap_other (by omega)).trans hk
      refine wpIn_mono (hbody _ pre x a' _ (by omega) (hput _ _ _ hi) hok2 hax2 hlen) ?_
      have hbW : But (fun k => k = w.heap.size + 1 ∨ X k) Wb W := hbt.mono (fun k _ e => e.elim)
      rintro e a3 W3 hp
      cases e with
      | normal =>
        obtain ⟨hk3, hi3⟩ := hp
        have hl3 := hk3.keep hX1 hl2
        have hr := run_endRound (P := P) none hl3
        have hb4 : But (fun k => k = w.heap.size + 1 ∨ X k) Wb (W3.putObj (w.heap.size + 1) (.loop (rec .ready none))) :=
          ((hbW.trans (But.putObj W _ _ (.inl rfl))).trans (hk3.mono (fun k _ e => .inr e))).trans (But.putObj W3 _ _ (.inl rfl))
        have hs3 := hk3.size
        rw [hrec] at hr hb4 ⊢
        refine ⟨_, _, hr, .inl ⟨rfl, ⟨hput _ _ _ hi3, by simp at hs3; simp; omega, World.putObj_heap_same (Array.getElem?_eq_some_iff.1 hl3).1, (World.putObj_heap_other (by omega)).trans (hk3.keep hX2 hk2)⟩, hb4⟩⟩
      | ret =>
        obtain ⟨hk3, hi3⟩ := hp
        have hl3 := hk3.keep hX1 hl2
        have hr := run_endRound (P := P) (some .ret) hl3
        have hb4 : But (fun k => k = w.heap.size + 1 ∨ X k) Wb (W3.putObj (w.heap.size + 1) (.loop (rec .done (some .ret)))) :=
          ((hbW.trans (But.putObj W _ _ (.inl rfl))).trans (hk3.mono (fun k _ e => .inr e))).trans (But.putObj W3 _ _ (.inl rfl))
        rw [hrec] at hr hb4 ⊢
        refine ⟨_, _, hr, .inr ⟨rfl, ⟨hputx _ _ _ ⟨_, hl3⟩ hi3, World.putObj_heap_same (Array.getElem?_eq_some_iff.1 hl3).1, (World.putObj_heap_other (by omega)).trans (hk3.keep hX2 hk2)⟩, hb4⟩⟩
      | _ => exact hp.elim
    · rintro e W2 ⟨⟨v, rfl⟩, (⟨xs, hS, hi, -, hl, hk⟩ | ⟨pre, hSp, hi, hl, hk⟩)⟩
      · refine ⟨none, _, by have := run_endLoop (P := P) hl (by rw [hrec]; simp); rw [hrec] at this; exact this, ?_⟩
        exact hdone _ xs _ (Nat.le_refl _) hS (hput _ _ _ hi) ((World.putObj_heap_other (by omega)).trans hk)
      · refine ⟨some .ret, _, by have := run_endLoop (P := P) hl (by rw [hrec]; simp); rw [hrec] at this; exact this, ?_⟩
        exact hstop _ pre _ (Nat.le_refl _) hSp (hputx _ _ _ ⟨_, hl⟩ hi) ((World.putObj_heap_other (by omega)).trans hk)

end Go

/- It is proved what goOn does where no member is left, if a round may end the loop; conditions: those of each statement. -/
namespace Go.Proofs.YtgjcjllhkkkioaaDoor
open Go.RowKit Go.Shelf

attribute [local go_sem] Oper.semAt_some

/-- The blocks that may turn. -/
def XgX (Bp Br l : Nat) (X : Nat → Prop) : Nat → Prop := fun k => k = l ∨ X k ∨ k = Bp ∨ k = Br

/-- Where they lie. -/
structure LiesX (By Bp Bg Br l : Nat) (X : Nat → Prop) (n₁ : Nat) : Prop where
  l1 : 1 < l
  l2 : l < n₁
  b : ∀ k, X k → 1 < k ∧ k < n₁
  y : n₁ ≤ By
  p : n₁ ≤ Bp
  g : n₁ ≤ Bg
  r : n₁ ≤ Br
  yp : By ≠ Bp
  yr : By ≠ Br
  gp : Bg ≠ Bp
  gr : Bg ≠ Br
  pr : Bp ≠ Br

theorem LiesX.lx {By Bp Bg Br l : Nat} {X : Nat → Prop} {n₁ : Nat} (L : LiesX By Bp Bg Br l X n₁) : ∀ k, (k = l ∨ X k) → 1 < k ∧ k < n₁ := fun k h => by
  rcases h with h | h
  · exact ⟨by have := L.l1; omega, by have := L.l2; omega⟩
  · exact L.b k h

theorem OS.butX {By Bp Bg Br l m n₁ : Nat} {X : Nat → Prop} {W W' : World} {p : List Nat} (h : OS By Bp Bg Br l m W p) (L : LiesX By Bp Bg Br l X n₁) (hb : But (fun k => k = l ∨ X k) W W') : OS By Bp Bg Br l m W' p := by
  have hn : ∀ k, n₁ ≤ k → ¬ (k = l ∨ X k) := fun k hk h => by have := (L.lx k h).2; omega
  obtain ⟨R, hR1, hR2, hR3⟩ := h.r
  exact ⟨hb.keep (hn _ L.y) h.y, hb.keep (hn _ L.g) h.g, hb.keep (hn _ L.p) h.q, ⟨R, hR1, hR2, hb.keep (hn _ L.r) hR3⟩, tab_but h.t hb (fun k hk => (L.lx k hk).1)⟩

theorem LiesX.x1 {By Bp Bg Br l n₁ : Nat} {X : Nat → Prop} (L : LiesX By Bp Bg Br l X n₁) : ∀ k, XgX Bp Br l X k → 1 < k := by
  intro k h
  have hx := L.lx
  have := L.l1; have := L.l2; have := L.p; have := L.r
  rcases h with h | h | h | h
  · omega
  · exact (L.b k h).1
  · omega
  · omega

/-- A name is put behind the names so far: what that leaves. -/
theorem put_nameX {By Bp Bg Br l m n₁ : Nat} {X : Nat → Prop} (L : LiesX By Bp Bg Br l X n₁) {W : World} {p : List Nat} (hO : OS By Bp Bg Br l m W p) (hp : p.length < m) (v : Nat) :
    ∃ E, ((W.alloc (.cells #[.int .i64 (v : Int)] 3)).setCell ⟨Br, p.length, none⟩ (.int .i64 (v : Int))).setCell ⟨Bp, 0, none⟩ (.slice (some ⟨Br, 0, none⟩) (p.length + 1) m) = E ∧ OS By Bp Bg Br l m E (p ++ [v]) ∧ But (XgX Bp Br l X) W E ∧ W.heap.size ≤ E.heap.size := by
  obtain ⟨R, hR1, hR2, hR3⟩ := hO.r
  have hgr := L.gr; have hyr := L.yr; have hyp := L.yp; have hgp := L.gp; have hpr := L.pr
  refine ⟨_, rfl, ⟨?_, ?_, ?_, ⟨R.set p.length (v : Int), by rw [List.length_set, hR1], ?_, ?_⟩, ?_⟩, ?_, by simp⟩
  · exact HasBlk.far (HasBlk.far (HasBlk.alloc hO.y _) (show By ≠ Br from hyr) _) (show By ≠ Bp from hyp) _
  · exact HasBlk.far (HasBlk.far (HasBlk.alloc hO.g _) (show Bg ≠ Br from hgr) _) (show Bg ≠ Bp from hgp) _
  · rw [List.length_append]
    exact (show Boxed _ Bp 22 _ from HasBlk.far (HasBlk.alloc hO.q (.cells #[.int .i64 (v : Int)] 3)) (show Bp ≠ Br from hpr) (.int .i64 (v : Int))).set _
  · rw [List.length_append, List.length_singleton, List.take_succ_eq_append_getElem (by rw [List.length_set]; omega), List.take_set_of_le (Nat.le_refl _), hR2, nI_snoc]
    simp
  · exact ((hR3.alloc _).set p.length (v : Int)).far (show Br ≠ Bp from fun e => hpr e.symm) _
  · exact tab_but (X := XgX Bp Br l X) hO.t (((But.alloc _ _).trans (But.setCell _ _ _ _ (fun _ => .inr (.inr (.inr rfl))))).trans (But.setCell _ _ _ _ (fun _ => .inr (.inr (.inl rfl))))) L.x1
  · exact ((But.alloc _ _).trans (But.setCell _ _ _ _ (fun _ => .inr (.inr (.inr rfl))))).trans (But.setCell _ _ _ _ (fun _ => .inr (.inr (.inl rfl))))

/-- The last name is taken off again. -/
theorem off_nameX {By Bp Bg Br l m n₁ : Nat} {X : Nat → Prop} (L : LiesX By Bp Bg Br l X n₁) {W : World} {p : List Nat} {v : Nat} (hO : OS By Bp Bg Br l m W (p ++ [v])) :
    OS By Bp Bg Br l m (W.setCell ⟨Bp, 0, none⟩ (.slice (some ⟨Br, 0, none⟩) p.length m)) p ∧ But (XgX Bp Br l X) W (W.setCell ⟨Bp, 0, none⟩ (.slice (some ⟨Br, 0, none⟩) p.length m)) := by
  obtain ⟨R, hR1, hR2, hR3⟩ := hO.r
  have hgr := L.gr; have hyr := L.yr; have hyp := L.yp; have hgp := L.gp; have hpr := L.pr
  have hbt : But (XgX Bp Br l X) W (W.setCell ⟨Bp, 0, none⟩ (.slice (some ⟨Br, 0, none⟩) p.length m)) := But.setCell _ _ _ _ (fun _ => .inr (.inr (.inl rfl)))
  refine ⟨⟨HasBlk.far hO.y (show By ≠ Bp from hyp) _, HasBlk.far hO.g (show Bg ≠ Bp from hgp) _, hO.q.set _, ⟨R, hR1, ?_, hR3.far (show Br ≠ Bp from fun e => hpr e.symm) _⟩, tab_but hO.t hbt L.x1⟩, hbt⟩
  have := congrArg (List.take p.length) hR2
  rw [List.take_take, nI_snoc, List.length_append, Nat.min_eq_left (by simp)] at this
  rw [this, List.take_left' (nI_len p)]

set_option maxRecDepth 100000 in
set_option maxHeartbeats 2000000 in
theorem nameGo0 (By Bp Bg Br l m n₁ N : Nat) (X : Nat → Prop) (L : LiesX By Bp Bg Br l X n₁) (J Jx : List (Value × List Nat) → World → Prop) (hJ : OwnAll n₁ J) (hJx : OwnB n₁ Jx)
    (hY : ∀ k pre x W1, J pre W1 → OkN m x W1 → pre.length < N → YieldAt Fence.wide k Tryd.prog l #[x.1] W1 fun e W' => (e = .returned (.bool true) ∧ J (pre ++ [x]) W' ∧ But (fun k => k = l ∨ X k) W1 W') ∨ (e = .returned (.bool false) ∧ Jx (pre ++ [x]) W' ∧ But (fun k => k = l ∨ X k) W1 W'))
    (p : List Nat) (hp : p.length = m) (hpv : ∀ v ∈ p, v < m) (pre : List (Value × List Nat)) (hpN : pre.length < N) (W : World) (hn : n₁ ≤ W.heap.size) (h0 : J pre W) (hO : OS By Bp Bg Br l m W p) :
    Calls Tryd.prog 70 #[.int .i64 0, .pointer (some ⟨By, 0, none⟩), .pointer (some ⟨Bp, 0, none⟩), .pointer (some ⟨Bg, 0, none⟩)] W fun e W' =>
      (e = .returned (.bool true) ∧ (∃ xs : List (Value × List Nat), xs.map (·.2) = [p] ∧ J (pre ++ xs) W') ∧ OS By Bp Bg Br l m W' p ∧ But (XgX Bp Br l X) W W') ∨
      (e = .returned (.bool false) ∧ (∃ xs : List (Value × List Nat), xs.map (·.2) <+: [p] ∧ xs ≠ [] ∧ Jx (pre ++ xs) W') ∧ But (XgX Bp Br l X) W W') := by
  have hO2 := (hO.alloc (.cells #[.int .i64 0] 59)).alloc (.cells #[.bool false] 4)
  have hJ2 : J pre ((W.alloc (.cells #[.int .i64 0] 59)).alloc (.cells #[.bool false] 4)) := hJ _ _ _ none (hJ _ _ _ none h0 (World.grownBy_alloc _ _ _) (by simp)) (World.grownBy_alloc _ _ _) (by simp)
  have hbt : But (XgX Bp Br l X) W ((W.alloc (.cells #[.int .i64 0] 59)).alloc (.cells #[.bool false] 4)) := (But.alloc _ _).trans (But.alloc _ _)
  have q1 := alloc2_1 W (.cells #[.int .i64 0] 59) (.cells #[.bool false] 4)
  obtain ⟨fn, tmps, assign, body, hy, hR⟩ := hY 5 pre (.slice (some ⟨Br, 0, none⟩) p.length m, p) _ hJ2 (hO2.ok hp hpv) hpN
  dsimp only at hy
  have cy := hO2.y.cell
  have cp := hO2.q.cell
  obtain ⟨k, hk⟩ : ∃ k, k = p.length := ⟨_, rfl⟩
  have HK := Lib.hid hk
  rw [← hk] at hy cp
  have HO2 := Lib.hid hO2
  have HBT := Lib.hid hbt
  have HL := Lib.hid L
  have Q1 := Lib.hid q1
  clear hk hO2 hbt q1 hJ2 hY h0 L
  refine (callsIn_wide (n := 6)).1 ?_
  refine callsIn_of_wp Tryd.func70 rfl trivial ?_ rfl
  simp only [Tryd.ntmps70, List.size_toArray, List.length_cons, List.length_nil, Nat.reduceAdd, Nat.reduceSub, Array.replicate_succ, Array.replicate_zero, List.push_toArray, List.append_toArray, List.nil_append, List.cons_append]
  gi_wp2
  refine hR.mono ?_
  rintro e W3 (⟨rfl, hJ3, hb3⟩ | ⟨rfl, hJ3, hb3⟩)
  · have q3 : HasBlk W3 (W.heap.size + 1) #[.bool false] 4 := hb3.keep (fun h => by have := (HL.out.lx _ h).2; omega) Q1.out
    have c3 := (blk_cell q3 0).trans (cell1_0 _)
    have f3 := blk_frozen q3 0
    have hs3 := hb3.size
    have hO3 := HO2.out.butX HL.out hb3
    have HO3 := Lib.hid (hO3.far (B := W.heap.size + 1) (by have := hO.y.lt; omega) (by have := hO.q.lt; omega) (by have := hO.g.lt; omega) (by obtain ⟨_, _, _, h⟩ := hO.r; have := h.lt; omega) (by have := HL.out.l1; have := HL.out.l2; omega) (.bool true))
    have HB3 := Lib.hid (HBT.out.trans ((hb3.mono (Y := XgX Bp Br l X) (fun k _ e => by unfold XgX; rcases e with h | h <;> simp [h]))))
    have HJ3 := Lib.hid hJ3
    clear hb3 hO3 hJ3 q3
    gi_wp2
    refine bodyPost_ret (v := .bool true) (by simp [results, Tryd.results70, go_sem, c3]) rfl ?_
    refine .inl ⟨rfl, ⟨[(.slice (some ⟨Br, 0, none⟩) k m, p)], rfl, ?_⟩, HO3.out, ?_⟩
    · rw [HK.out]
      exact hJ _ _ _ (some (W.heap.size + 1)) HJ3.out (only_setCell (p := ⟨W.heap.size + 1, 0, none⟩) (World.grownBy.refl _ _) rfl _) (fun r e => by injection e; omega)
    · refine ⟨HB3.out.os, HB3.out.tape, HB3.out.output, by have := HB3.out.size; simpa using this, fun i hi hX => ?_⟩
      exact (Below.heap_setCell W3 ⟨W.heap.size + 1, 0, none⟩ _ i (show i ≠ W.heap.size + 1 by omega)).trans (HB3.out.same i hi hX)
  · have q3 : HasBlk W3 (W.heap.size + 1) #[.bool false] 4 := hb3.keep (fun h => by have := (HL.out.lx _ h).2; omega) Q1.out
    have c3 := (blk_cell q3 0).trans (cell1_0 _)
    have f3 := blk_frozen q3 0
    have hs3 := hb3.size
    have hO3 := HO2.out.butX HL.out hb3
    have HO3 := Lib.hid (hO3.far (B := W.heap.size + 1) (by have := hO.y.lt; omega) (by have := hO.q.lt; omega) (by have := hO.g.lt; omega) (by obtain ⟨_, _, _, h⟩ := hO.r; have := h.lt; omega) (by have := HL.out.l1; have := HL.out.l2; omega) (.bool false))
    have HB3 := Lib.hid (HBT.out.trans ((hb3.mono (Y := XgX Bp Br l X) (fun k _ e => by unfold XgX; rcases e with h | h <;> simp [h]))))
    have HJ3 := Lib.hid hJ3
    have HQ3 := Lib.hid q3
    clear hb3 hO3 hJ3 q3
    gi_wp2
    refine bodyPost_ret (v := .bool false) (by simp [results, Tryd.results70, go_sem, c3]) rfl ?_
    refine .inr ⟨rfl, ⟨[(.slice (some ⟨Br, 0, none⟩) k m, p)], List.prefix_refl _, by simp, ?_⟩, ?_⟩
    · rw [HK.out]
      exact hJx.flag (b := W.heap.size + 1) (by omega) HQ3.out HJ3.out
    · refine ⟨HB3.out.os, HB3.out.tape, HB3.out.output, by have := HB3.out.size; simpa using this, fun i hi hX => ?_⟩
      exact (Below.heap_setCell W3 ⟨W.heap.size + 1, 0, none⟩ _ i (show i ≠ W.heap.size + 1 by omega)).trans (HB3.out.same i hi hX)

end Go.Proofs.YtgjcjllhkkkioaaDoor
