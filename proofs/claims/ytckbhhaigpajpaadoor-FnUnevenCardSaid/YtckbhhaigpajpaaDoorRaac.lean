/- It is proved what a loop over a function does where the function keeps cells of its own, and the body writes blocks that lay ahead of the loop and may leave it; conditions: those of each statement. -/
import Derived.RangeFuncNested
import Derived.RangeFuncBound
import Derived.RangeFuncCalls
import Derived.RangeFuncLeaves
import Derived.RangeFuncBox
import Derived.RangeFuncWrites
import Derived.Test.YtckbhhaigpajpaaDoorRaaa
import Derived.Test.YtckbhhaigpajpaaDoorRows
import Derived.WalkKit
import Derived.WalkSpells
import Derived.ProofKit
import Derived.OpenShut
import Derived.ShutString
import Derived.ChangeOld
import Derived.Below
import Derived.Deep.RegionHeld3
import Derived.Deep.QuietTactic
import Derived.BigQuiet
import Derived.Lib.Hide
import Derived.Lib.SmallJoins
import Derived.Outline
import Derived.Laws.MakeOwn
import Derived.Laws.OwnMore
import Derived.IntWalk
namespace Go
open Go.RowKit

/-- The contract of an iterator that may keep cells of its own: a round leaves every block but the loop's record and those that X names as it was. -/
def SeqBut {α : Type} (n : Nat) (P : Program) (g : Nat) (lb : Array Value) (encs : α → Array Value) (X : Nat → Prop) (Ok : α → World → Prop) (S Sp : List α → Prop) (N : Nat) (w : World) : Prop :=
  ∀ (l : Nat) (J Jx : List α → World → Prop) (W : World), Below w.heap.size w W → w.heap.size ≤ l → l < W.heap.size → (∀ k, X k → k < w.heap.size) → OwnAll W.heap.size J → OwnFrom W.heap.size Jx →
    (∀ pre x W1, J pre W1 → Ok x W1 → pre.length < N → YieldAt Fence.wide (n - 1) P l (encs x) W1 fun e W' =>
      (e = .returned (.bool true) ∧ J (pre ++ [x]) W' ∧ But (fun k => k = l ∨ X k) W1 W') ∨ (e = .returned (.bool false) ∧ Jx (pre ++ [x]) W' ∧ But (fun k => k = l ∨ X k) W1 W')) →
    J [] W →
    CallsIn Fence.wide n P g (#[.func (.yield l) #[] #[]] ++ lb) W fun e W' => (∃ v, e = .returned v) ∧ ((∃ xs, S xs ∧ J xs W') ∨ (∃ pre, Sp pre ∧ Jx pre W'))

/-- How a round ends. -/
def postBut {α : Type} (X : Nat → Prop) (I Ix : List α → World → Prop) (xs : List α) (W : World) : Exit → Act → World → Prop
  | .normal, _, W' => But X W W' ∧ I xs W'
  | .ret, _, W' => But X W W' ∧ Ix xs W'
  | _, _, _ => False

theorem OwnAll.alloc {β : Type} {B : Nat} {J : β → World → Prop} (h : OwnAll B J) {s : β} {W : World} (o : Obj) (hs : J s W) : J s (W.alloc o) := h _ _ _ none hs (World.grownBy_alloc _ _ _) (by simp)
theorem OwnAll.step {β : Type} {B : Nat} {J : β → World → Prop} (h : OwnAll B J) {s : β} {W W' : World} (hb : Below W.heap.size W W') (hs : J s W) : J s W' :=
  h _ _ _ none hs ⟨hb.os, hb.tape, hb.output, hb.size, fun k hk _ => hb.block k hk⟩ (by simp)

theorem OwnAll.cell {β : Type} {B : Nat} {J : β → World → Prop} (h : OwnAll B J) {s : β} {W : World} {b : Nat} (i : Nat) (v : Value) (hB : B ≤ b) (hs : J s W) : J s (W.setCell ⟨b, i, none⟩ v) :=
  h _ _ _ (some b) hs ⟨rfl, rfl, rfl, by simp, fun k _ hX => Below.heap_setCell W ⟨b, i, none⟩ v k (fun e => hX (by subst e; rfl))⟩ (fun r e => by cases e; exact hB)

theorem OwnAll.obj {β : Type} {B : Nat} {J : β → World → Prop} (h : OwnAll B J) {s : β} {W : World} {b : Nat} (o : Obj) (hB : B ≤ b) (hs : J s W) : J s (W.putObj b o) :=
  h _ _ _ (some b) hs (grownBy_putObj' W b o) (fun r e => by cases e; exact hB)

theorem OwnFrom.step {β : Type} {B : Nat} {J : β → World → Prop} (h : OwnFrom B J) {s : β} {W W' : World} (hb : Below W.heap.size W W') (hs : J s W) : J s W' :=
  h _ _ _ none hs ⟨hb.os, hb.tape, hb.output, hb.size, fun k hk _ => hb.block k hk⟩ (by simp)

theorem wpIn_rangeFunc_but {P : Program} {n : Nat} {α : Type} {g : Operand} {ps : Array Tmp} {assign body : Code} {Q : Exit → Act → World → Prop} {a : Act} {w : World}
    (h1 : 1 ≤ n) {gf : Nat} {lb : Array Value} (hg : a.eval g = .func (.func gf) #[] lb) (eg : ∀ args w, (callFunc gf args).run P w = .ok (.enter gf args) w)
    {encs : α → Array Value} {X : Nat → Prop} {Ok : α → World → Prop} {S Sp : List α → Prop} {N : Nat} {w0 : World} (hseq : SeqBut (n - 1) P gf lb encs X Ok S Sp N w0) (hb0 : Below w0.heap.size w0 w) (hX : ∀ k, X k → k < w0.heap.size) (hps : ∀ x, (encs x).size = ps.size)
    (hOk : ∀ x A l o, Ok x A → (∃ o', A.heap[l]? = some o' ∧ o'.isCells = false) → Ok x (A.putObj l o))
    (I Ix : List α → World → Prop) (hI : OwnAll w.heap.size I) (hIx : OwnFrom w.heap.size Ix) (h0 : I [] w) (Ax : α → Act → World → Prop) (hAx : ∀ x a' A l o, Ax x a' A → (∃ o', A.heap[l]? = some o' ∧ o'.isCells = false) → Ax x a' (A.putObj l o))
    (hassign : ∀ (l : Nat) (pre : List α) (x : α) (W : World) (K : Act → World → Prop), I pre W → Ok x W → w.heap.size ≤ W.heap.size → (∀ a' W', But (fun _ => False) W W' → I pre W' → Ok x W' → Ax x a' W' → K a' W') →
      assign.wpIn (Fence.wide.inRound l) (n - 1 - 1) P (Exit.then K (fun _ _ _ => False)) { tmps := (ps.zip (encs x)).foldl (fun t (p, v) => t.setIfInBounds p v) a.tmps, defers := [] } W)
    (hbody : ∀ (l : Nat) (pre : List α) (x : α) (a' : Act) (W : World), w.heap.size ≤ l → I pre W → Ok x W → Ax x a' W → pre.length < N → body.wpIn (Fence.wide.inRound l) (n - 1 - 1) P (postBut X I Ix (pre ++ [x]) W) a' W)
    (hdone : ∀ (D : Nat) (xs : List α) (W : World), w.heap.size ≤ D → S xs → I xs W → W.heap[D]? = some (.deferred (some [])) → Q .normal { a with defers := { target := .collected D, args := #[] } :: a.defers } W)
    (hstop : ∀ (D : Nat) (pre : List α) (W : World), w.heap.size ≤ D → Sp pre → Ix pre W → W.heap[D]? = some (.deferred (some [])) → Code.ret.wpIn Fence.wide n P Q { a with defers := { target := .collected D, args := #[] } :: a.defers } W) :
    (Code.rangeFunc g ps assign body).wpIn Fence.wide n P Q a w := by
  refine wpIn_rangeFunc ?_
  intro fn hfn
  rw [show Fence.wide.round = none from rfl]
  obtain ⟨rec, hrec⟩ : ∃ rec : LoopState → Option Code → Loop, rec = fun st pe => { state := st, pending := pe, fn, tmps := a.tmps, params := ps, assign, body, defers := w.heap.size } := ⟨_, rfl⟩
  obtain ⟨W1, hW1⟩ : ∃ W1, (w.alloc (.deferred (some []))).alloc (.loop (rec .ready none)) = W1 := ⟨_, rfl⟩
  have hs1 : W1.heap.size = w.heap.size + 2 := by rw [← hW1]; simp
  have hL1 : W1.heap[w.heap.size + 1]? = some (.loop (rec .ready none)) := by
    rw [← hW1]; have := World.alloc_heap_new (w.alloc (.deferred (some []))) (.loop (rec .ready none)); rwa [World.size_alloc] at this
  have hK1 : W1.heap[w.heap.size]? = some (.deferred (some [])) := by
    rw [← hW1]; exact (Below.heap_alloc _ _ _ (by simp)).trans (World.alloc_heap_new w _)
  have hI1 : I [] W1 := by rw [← hW1]; exact hI.alloc _ (hI.alloc _ h0)
  have hb1 : Below w0.heap.size w0 W1 := by
    rw [← hW1]; exact hb0.trans ((((Below.refl _ w).alloc (Nat.le_refl _) _).alloc (by simp) _).mono hb0.size)
  have hXw : ∀ k, X k → k < w.heap.size := fun k h => Nat.lt_of_lt_of_le (hX k h) hb0.size
  have hX1 : ¬ X (w.heap.size + 1) := fun h => by have := hXw _ h; omega
  have hX2 : ¬ X w.heap.size := fun h => by have := hXw _ h; omega
  have hput : ∀ (xs : List α) (W : World) (o : Obj), I xs W → I xs (W.putObj (w.heap.size + 1) o) := fun xs W o h => hI.obj o (by omega) h
  have hputx : ∀ (xs : List α) (W : World) (o : Obj), (∃ r, W.heap[w.heap.size + 1]? = some (.loop r)) → Ix xs W → Ix xs (W.putObj (w.heap.size + 1) o) := fun xs W o ⟨r, hr⟩ h => hIx.putObj o h (by omega) hr rfl
  refine ⟨w.heap.size + 1, [{ target := .collected w.heap.size, args := #[] }], W1, { target := .fn (.func gf) lb, args := #[.func (.yield (w.heap.size + 1)) #[] #[]] }, W1, gf,
    #[.func (.yield (w.heap.size + 1)) #[] #[]] ++ lb, W1, ?_, ?_, fun _ _ => trivial, ?_, fun _ => h1, ?_⟩
  · rw [← hW1, hrec]; exact run_enterLoop_outer _ _ _ _ _
  · simp only [resolve, hg]
    simp [go_sem]
  · simp [invoke, go_sem, eg]
  · refine (hseq (w.heap.size + 1) (fun pre W => I pre W ∧ w.heap.size + 2 ≤ W.heap.size ∧ W.heap[w.heap.size + 1]? = some (.loop (rec .ready none)) ∧ W.heap[w.heap.size]? = some (.deferred (some [])))
      (fun pre W => Ix pre W ∧ W.heap[w.heap.size + 1]? = some (.loop (rec .done (some .ret))) ∧ W.heap[w.heap.size]? = some (.deferred (some []))) W1 hb1 (by have := hb0.size; omega) (by omega) hX ?_ ?_ ?_ ⟨hI1, by omega, hL1, hK1⟩).mono ?_
    · rintro s A C row ⟨hi, hsz, hl, hk⟩ hgr hr
      have hne : ∀ k, k < w.heap.size + 2 → some k ≠ row := fun k hk' e => by have := hr k e.symm; omega
      exact ⟨hI s A C row hi hgr (fun r e => by have := hr r e; omega), Nat.le_trans hsz hgr.size, (hgr.block _ (Array.getElem?_eq_some_iff.1 hl).1 (hne _ (by omega))).trans hl, (hgr.block _ (Array.getElem?_eq_some_iff.1 hk).1 (hne _ (by omega))).trans hk⟩
    · rintro s A C row ⟨hi, hl, hk⟩ hgr hr
      have hne : ∀ k, k < w.heap.size + 2 → some k ≠ row := fun k hk' e => by have := (hr k e.symm).1; omega
      exact ⟨hIx s A C row hi hgr (fun r e => ⟨by have := (hr r e).1; omega, (hr r e).2⟩), (hgr.block _ (Array.getElem?_eq_some_iff.1 hl).1 (hne _ (by omega))).trans hl, (hgr.block _ (Array.getElem?_eq_some_iff.1 hk).1 (hne _ (by omega))).trans hk⟩
    · rintro pre x Wb ⟨hib, hsz, hlb, hkb⟩ hokb hlen
      have hy := run_yield (P := P) (args := encs x) hlb (by rw [hrec]; exact hps x)
      rw [hrec] at hy
      refine ⟨fn, _, assign, body, hy, roundIn_of_wpIn hfn (hassign _ pre x Wb _ hib hokb (by omega) ?_)⟩
      clear hy
      intro a' W hbt hi hok hax
      have hl := hbt.keep (k := w.heap.size + 1) (fun e => e) hlb
      have hk := hbt.keep (k := w.heap.size) (fun e => e) hkb
      have hlt : w.heap.size + 1 < W.heap.size := (Array.getElem?_eq_some_iff.1 hl).1
      refine ⟨_, run_beginRound hl (by rw [hrec]), ?_⟩
      have hok2 : Ok x (W.putObj (w.heap.size + 1) (.loop { rec .ready none with state := .busy })) := hOk _ _ _ _ hok ⟨_, hl, rfl⟩
      have hax2 : Ax x a' (W.putObj (w.heap.size + 1) (.loop { rec .ready none with state := .busy })) := hAx _ _ _ _ _ hax ⟨_, hl, rfl⟩
      have hl2 : (W.putObj (w.heap.size + 1) (.loop { rec .ready none with state := .busy })).heap[w.heap.size + 1]? = some (.loop { rec .ready none with state := .busy }) := World.putObj_heap_same hlt
      have hk2 : (W.putObj (w.heap.size + 1) (.loop { rec .ready none with state := .busy })).heap[w.heap.size]? = some (.deferred (some [])) := (World.putObj_heap_other (by omega)).trans hk
      refine wpIn_mono (hbody _ pre x a' _ (by omega) (hput _ _ _ hi) hok2 hax2 hlen) ?_
      have hbW : But (fun k => k = w.heap.size + 1 ∨ X k) Wb W := hbt.mono (fun k _ e => e.elim)
      rintro e a3 W3 hp
      cases e with
      | normal =>
        obtain ⟨hk3, hi3⟩ := hp
        have hl3 := hk3.keep hX1 hl2
        have hr := run_endRound (P := P) none hl3
        have hb4 : But (fun k => k = w.heap.size + 1 ∨ X k) Wb (W3.putObj (w.heap.size + 1) (.loop (rec .ready none))) :=
          ((hbW.trans (But.putObj W _ _ (.inl rfl))).trans (hk3.mono (fun k _ e => .inr e))).trans (But.putObj W3 _ _ (.inl rfl))
        have hs3 := hk3.size
        rw [hrec] at hr hb4 ⊢
        refine ⟨_, _, hr, .inl ⟨rfl, ⟨hput _ _ _ hi3, by simp at hs3; simp; omega, World.putObj_heap_same (Array.getElem?_eq_some_iff.1 hl3).1, (World.putObj_heap_other (by omega)).trans (hk3.keep hX2 hk2)⟩, hb4⟩⟩
      | ret =>
        obtain ⟨hk3, hi3⟩ := hp
        have hl3 := hk3.keep hX1 hl2
        have hr := run_endRound (P := P) (some .ret) hl3
        have hb4 : But (fun k => k = w.heap.size + 1 ∨ X k) Wb (W3.putObj (w.heap.size + 1) (.loop (rec .done (some .ret)))) :=
          ((hbW.trans (But.putObj W _ _ (.inl rfl))).trans (hk3.mono (fun k _ e => .inr e))).trans (But.putObj W3 _ _ (.inl rfl))
        rw [hrec] at hr hb4 ⊢
        refine ⟨_, _, hr, .inr ⟨rfl, ⟨hputx _ _ _ ⟨_, hl3⟩ hi3, World.putObj_heap_same (Array.getElem?_eq_some_iff.1 hl3).1, (World.putObj_heap_other (by omega)).trans (hk3.keep hX2 hk2)⟩, hb4⟩⟩
      | _ => exact hp.elim
    · rintro e W2 ⟨⟨v, rfl⟩, (⟨xs, hS, hi, -, hl, hk⟩ | ⟨pre, hSp, hi, hl, hk⟩)⟩
      · refine ⟨none, _, by have := run_endLoop (P := P) hl (by rw [hrec]; simp); rw [hrec] at this; exact this, ?_⟩
        exact hdone _ xs _ (Nat.le_refl _) hS (hput _ _ _ hi) ((World.putObj_heap_other (by omega)).trans hk)
      · refine ⟨some .ret, _, by have := run_endLoop (P := P) hl (by rw [hrec]; simp); rw [hrec] at this; exact this, ?_⟩
        exact hstop _ pre _ (Nat.le_refl _) hSp (hputx _ _ _ ⟨_, hl⟩ hi) ((World.putObj_heap_other (by omega)).trans hk)

end Go

/- It is proved how all lists of colours follow on each other and how many kinds of colours a list has; conditions: those of each statement. -/
namespace Go.Proofs.YtckbhhaigpajpaaDoor

/-- All lists of n of a palette, in order. -/
def wordsL {γ : Type} (pal : List γ) : Nat → List (List γ)
  | 0 => [[]]
  | n + 1 => pal.flatMap fun c => (wordsL pal n).map (c :: ·)

theorem wordsL_mem {γ : Type} (pal : List γ) : ∀ (n : Nat) (w : List γ), w ∈ wordsL pal n ↔ w.length = n ∧ ∀ c ∈ w, c ∈ pal
  | 0, w => by
    simp only [wordsL, List.mem_singleton]
    constructor
    · rintro rfl; simp
    · rintro ⟨h, -⟩; exact List.eq_nil_of_length_eq_zero h
  | n + 1, w => by
    simp only [wordsL, List.mem_flatMap, List.mem_map]
    constructor
    · rintro ⟨c, hc, u, hu, rfl⟩
      obtain ⟨h1, h2⟩ := (wordsL_mem pal n u).1 hu
      refine ⟨by simp [h1], fun x hx => ?_⟩
      rcases List.mem_cons.1 hx with rfl | h
      · exact hc
      · exact h2 x h
    · rintro ⟨h1, h2⟩
      cases w with
      | nil => simp at h1
      | cons c u => exact ⟨c, h2 c (by simp), u, (wordsL_mem pal n u).2 ⟨by simpa using h1, fun x hx => h2 x (by simp [hx])⟩, rfl⟩

theorem wordsL_card {γ : Type} (pal : List γ) : ∀ n : Nat, (wordsL pal n).length = pal.length ^ n
  | 0 => rfl
  | n + 1 => by
    have hc : ∀ (l : List γ), (l.flatMap fun c => (wordsL pal n).map (c :: ·)).length = l.length * pal.length ^ n := by
      intro l
      induction l with
      | nil => simp
      | cons c l ih => rw [List.flatMap_cons, List.length_append, ih, List.length_map, wordsL_card pal n, List.length_cons, Nat.succ_mul, Nat.add_comm]
    rw [wordsL, hc, Nat.pow_succ, Nat.mul_comm]

/-- The palette of k colours. -/
def palI (k : Nat) : List Int := (List.range k).map fun (c : Nat) => (c : Int)

/-- The kinds of colours, one by one. -/
def addK {γ : Type} [BEq γ] (ks : List γ) (c : γ) : List γ := if ks.contains c then ks else ks ++ [c]

def kindsOf {γ : Type} [BEq γ] (l : List γ) : List γ := l.foldl addK []
end Go.Proofs.YtckbhhaigpajpaaDoor

/- It is proved what markIntS, markFamily, heldIntS and heldFamily return and write; conditions: the bounds in each statement. -/
namespace Go.Proofs.YtckbhhaigpajpaaDoor
open Go.RowKit

/-- 1, 2, .., n. -/
def marks (n : Nat) : List Int := (List.range n).map fun (i : Nat) => ((i : Int) + 1)

theorem marks_length (n : Nat) : (marks n).length = n := by simp [marks]
theorem only_setCell {a w : World} {g : Nat} (h : a.grownBy w (some g)) {p : Addr} (hp : p.block = g) (u : Value) : a.grownBy (w.setCell p u) (some g) :=
  ⟨h.os, h.tape, h.output, by simpa [World.setCell] using h.size, fun i hi hne => (Below.heap_setCell w p u i (by rintro rfl; exact hne (by rw [hp]))).trans (h.block i hi hne)⟩

theorem only_of_below {a w : World} (h : Below a.heap.size a w) (row : Option Nat) : a.grownBy w row := ⟨h.os, h.tape, h.output, h.size, fun i hi _ => h.block i hi⟩
theorem only_trans {a b c : World} {row : Option Nat} (h : a.grownBy b row) (k : b.grownBy c row) : a.grownBy c row :=
  ⟨k.os.trans h.os, k.tape.trans h.tape, k.output.trans h.output, Nat.le_trans h.size k.size, fun i hi hne => (k.block i (Nat.lt_of_lt_of_le hi h.size) hne).trans (h.block i hi hne)⟩

/-- A row of n ints of the call's own, its length a letter of its own. -/
def OwnN (w : World) (B : Nat) (a : Option Addr) (n cap : Nat) (zs : List Int) : Prop := w.ownsRow B 3 1 (.slice a n cap) n (zs.map (Value.int .i64))

theorem OwnN.addr {w : World} {B : Nat} {a : Option Addr} {n cap : Nat} {zs : List Int} (h : OwnN w B a n cap zs) (hn : 0 < n) : ∃ g, a = some ⟨g, 0, none⟩ ∧ B ≤ g ∧ g < w.heap.size := by
  rcases h.2 with ⟨_, hn'⟩ | ⟨g, c, cur, e, hb, hg, _⟩
  · omega
  · injection e with e1 e2 e3
    exact ⟨g, e1, hb, (Array.getElem?_eq_some_iff.1 hg).1⟩

end Go.Proofs.YtckbhhaigpajpaaDoor
