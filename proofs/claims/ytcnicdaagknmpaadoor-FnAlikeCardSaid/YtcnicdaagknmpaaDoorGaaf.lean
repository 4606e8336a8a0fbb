/- It is proved what a loop over a function does where the function keeps its state in cells of its own and the body writes one block that lay ahead of the loop; conditions: those of each statement. -/
import Derived.RangeFuncNested
import Derived.RangeFuncBound
import Derived.RangeFuncCalls
import Derived.RangeFuncLeaves
import Derived.RangeFuncBox
import Derived.RangeFuncWrites
import Derived.Lib.AppendZeros
import Derived.Maps.AppendAt
import Derived.Deep.AppendLies
import Derived.OwnWalk
import Derived.Test.YtcnicdaagknmpaaDoorRows
import Derived.WalkKit
import Derived.WalkSpells
import Derived.ProofKit
import Derived.OpenShut
import Derived.ShutString
import Derived.ChangeOld
import Derived.Below
import Derived.Deep.RegionHeld3
import Derived.Deep.QuietTactic
import Derived.BigQuiet
import Derived.Lib.Hide
import Derived.Lib.SmallJoins
import Derived.Outline
import Derived.Laws.MakeOwn
import Derived.Laws.OwnMore
import Derived.IntWalk
import Derived.Shelf.Abstract
import Derived.Shelf.RegionOpen
import Derived.OwnWalkIn
import Derived.TacticsInMore
import Derived.LoopNIn
import Derived.LoopIn
import Derived.Test.YtcnicdaagknmpaaDoorGaaa
import Derived.RowKit
import Derived.Laws.CopyRow
import Derived.Lib.SlBuf
import Derived.StillTailTactics
import Derived.Maps.OwnIn
import Derived.Maps.Ext
import Derived.DeepKeys4
import Derived.MapKept
import Derived.Sort.MapsRangeIn
import Derived.Deep.RegionLaw
import Derived.Lib.SlicesCompact
import Derived.Lib.OwnBridge
import Derived.OrdersIn
import Derived.TacticsIn
import Derived.Shelf.Sort.Plain
import Derived.Shelf.Slices.In.SortNone
import Derived.Shelf.Slices.CompactI
import Derived.Ground.Names2Prog
import Derived.Lib.SliceRun
import Derived.StillTail
import Derived.StillTactics
import Derived.Shelf.Spec.TrailingZeros
import Derived.Deep.LoopGhost
import Derived.Test.YtcnicdaagknmpaaDoorGaad
import Derived.Test.YtcnicdaagknmpaaDoorGaae
import Derived.Test.YtcnicdaagknmpaaDoorGaab
import Derived.Test.YtcnicdaagknmpaaDoorGaac
namespace Go
open Go.RowKit

/-- Whatever lies in a block that X does not name lies as it lay. -/
structure But (X : Nat → Prop) (W W' : World) : Prop where
  os : W'.os = W.os
  tape : W'.tape = W.tape
  output : W'.output = W.output
  size : W.heap.size ≤ W'.heap.size
  same : ∀ k, k < W.heap.size → ¬ X k → W'.heap[k]? = W.heap[k]?

theorem But.refl (X : Nat → Prop) (W : World) : But X W W := ⟨rfl, rfl, rfl, Nat.le_refl _, fun _ _ _ => rfl⟩
theorem But.trans {X : Nat → Prop} {A B C : World} (h : But X A B) (k : But X B C) : But X A C :=
  ⟨k.os.trans h.os, k.tape.trans h.tape, k.output.trans h.output, Nat.le_trans h.size k.size, fun i hi hX => (k.same i (Nat.lt_of_lt_of_le hi h.size) hX).trans (h.same i hi hX)⟩

theorem But.mono {X Y : Nat → Prop} {A B : World} (h : But X A B) (hXY : ∀ k, k < A.heap.size → X k → Y k) : But Y A B := ⟨h.os, h.tape, h.output, h.size, fun i hi hY => h.same i hi (fun e => hY (hXY _ hi e))⟩
theorem But.of_grownBy {X : Nat → Prop} {W W' : World} {row : Option Nat} (hg : W.grownBy W' row) (hr : ∀ r, row = some r → r < W.heap.size → X r) : But X W W' :=
  ⟨hg.os, hg.tape, hg.output, hg.size, fun k hk hX => hg.block k hk (fun e => hX (hr k e.symm hk))⟩

theorem But.putObj {X : Nat → Prop} (W : World) (l : Nat) (o : Obj) (hl : X l) : But X W (W.putObj l o) := But.of_grownBy (grownBy_putObj' W l o) (fun r e _ => by cases e; exact hl)
theorem But.alloc {X : Nat → Prop} (W : World) (o : Obj) : But X W (W.alloc o) := But.of_grownBy (World.grownBy_alloc W o none) (by simp)
theorem But.setCell {X : Nat → Prop} (W : World) (b i : Nat) (v : Value) (hb : b < W.heap.size → X b) : But X W (W.setCell ⟨b, i, none⟩ v) :=
  ⟨rfl, rfl, rfl, by simp, fun k hk hX => Below.heap_setCell W ⟨b, i, none⟩ v k (fun e => hX (by subst e; exact hb hk))⟩

theorem But.drew {X : Nat → Prop} (W : World) : But X W W.drew := ⟨rfl, rfl, rfl, Nat.le_refl _, fun _ _ _ => rfl⟩
theorem But.keep {X : Nat → Prop} {W W' : World} {k : Nat} {o : Obj} (h : But X W W') (hX : ¬ X k) (hk : W.heap[k]? = some o) : W'.heap[k]? = some o := (h.same k (Array.getElem?_eq_some_iff.1 hk).1 hX).trans hk
theorem But.below {X : Nat → Prop} {W W' : World} {B : Nat} (h : But X W W') (hB : B ≤ W.heap.size) (hX : ∀ k, X k → B ≤ k) : Below B W W' :=
  ⟨h.os, h.tape, h.output, h.size, fun k hk => h.same k (Nat.lt_of_lt_of_le hk hB) (fun e => by have := hX k e; omega)⟩

theorem But.from {X : Nat → Prop} {W W' : World} {B : Nat} (h : But X W W') (hX : ∀ k o, B ≤ k → W.heap[k]? = some o → X k → o.isCells = true) : KeepsFrom B W W' :=
  ⟨h.size, fun k o hB hk ho => h.keep (fun e => by rw [hX k o hB hk e] at ho; cases ho) hk⟩

theorem But.of_below {X : Nat → Prop} {W W' : World} (h : Below W.heap.size W W') : But X W W' := ⟨h.os, h.tape, h.output, h.size, fun k hk _ => h.block k hk⟩
/-- What abides whatever is done to blocks from B on. -/
def OwnAll {β : Type} (B : Nat) (J : β → World → Prop) : Prop := ∀ s A C row, J s A → A.grownBy C row → (∀ r, row = some r → B ≤ r) → J s C

/-- The contract of an iterator that may keep cells of its own: a round finds Ok of what it is handed, and leaves every block but the loop's record and block b as it was. -/
def SeqCells {α : Type} (n : Nat) (P : Program) (g : Nat) (lb : Array Value) (encs : α → Array Value) (b : Nat) (Ok : α → World → Prop) (S : List α → Prop) (N : Nat) (w : World) : Prop :=
  ∀ (l : Nat) (J : List α → World → Prop) (W : World), Below w.heap.size w W → w.heap.size ≤ l → l < W.heap.size → b < W.heap.size → OwnAll W.heap.size J →
    (∀ pre x W1, J pre W1 → Ok x W1 → pre.length < N → YieldAt Fence.wide (n - 1) P l (encs x) W1 fun e W' => e = .returned (.bool true) ∧ J (pre ++ [x]) W' ∧ But (fun k => k = l ∨ k = b) W1 W') →
    J [] W →
    CallsIn Fence.wide n P g (#[.func (.yield l) #[] #[]] ++ lb) W fun e W' => (∃ v, e = .returned v) ∧ ∃ xs, S xs ∧ J xs W'

/-- How a round ends. -/
def postCells {α : Type} (b : Nat) (I : List α → World → Prop) (xs : List α) (W : World) : Exit → Act → World → Prop
  | .normal, _, W' => But (fun k => k = b) W W' ∧ I xs W'
  | _, _, _ => False

theorem wpIn_rangeFunc_cells {P : Program} {n : Nat} {α : Type} {g : Operand} {ps : Array Tmp} {assign body : Code} {Q : Exit → Act → World → Prop} {a : Act} {w : World}
    (h1 : 1 ≤ n) {gf : Nat} {lb : Array Value} (hg : a.eval g = .func (.func gf) #[] lb) (eg : ∀ args w, (callFunc gf args).run P w = .ok (.enter gf args) w)
    {encs : α → Array Value} {b : Nat} {Ok : α → World → Prop} {S : List α → Prop} {N : Nat} {w0 : World} (hseq : SeqCells (n - 1) P gf lb encs b Ok S N w0) (hb0 : Below w0.heap.size w0 w) (hbw : b < w.heap.size) (hps : ∀ x, (encs x).size = ps.size)
    (hOk : ∀ x A l o, Ok x A → (∃ o', A.heap[l]? = some o' ∧ o'.isCells = false) → Ok x (A.putObj l o))
    (I : List α → World → Prop) (hI : OwnAll w.heap.size I) (h0 : I [] w) (a₁ : α → Act)
    (hassign : ∀ (l : Nat) (x : α) (W : World) (K : Act → World → Prop), K (a₁ x) W →
      assign.wpIn (Fence.wide.inRound l) (n - 1 - 1) P (Exit.then K (fun _ _ _ => False)) { tmps := (ps.zip (encs x)).foldl (fun t (p, v) => t.setIfInBounds p v) a.tmps, defers := [] } W)
    (hbody : ∀ (l : Nat) (pre : List α) (x : α) (W : World), I pre W → Ok x W → pre.length < N → body.wpIn (Fence.wide.inRound l) (n - 1 - 1) P (postCells b I (pre ++ [x]) W) (a₁ x) W)
    (hdone : ∀ (D : Nat) (xs : List α) (W : World), w.heap.size ≤ D → S xs → I xs W → W.heap[D]? = some (.deferred (some [])) → Q .normal { a with defers := { target := .collected D, args := #[] } :: a.defers } W) :
    (Code.rangeFunc g ps assign body).wpIn Fence.wide n P Q a w := by
  refine wpIn_rangeFunc ?_
  intro fn hfn
  rw [show Fence.wide.round = none from rfl]
  obtain ⟨rec, hrec⟩ : ∃ rec : LoopState → Option Code → Loop, rec = fun st pe => { state := st, pending := pe, fn, tmps := a.tmps, params := ps, assign, body, defers := w.heap.size } := ⟨_, rfl⟩
  obtain ⟨W1, hW1⟩ : ∃ W1, (w.alloc (.deferred (some []))).alloc (.loop (rec .ready none)) = W1 := ⟨_, rfl⟩
  have hs1 : W1.heap.size = w.heap.size + 2 := by rw [← hW1]; simp
  have hL1 : W1.heap[w.heap.size + 1]? = some (.loop (rec .ready none)) := by
    rw [← hW1]; have := World.alloc_heap_new (w.alloc (.deferred (some []))) (.loop (rec .ready none)); rwa [World.size_alloc] at this
  have hK1 : W1.heap[w.heap.size]? = some (.deferred (some [])) := by
    rw [← hW1]; exact (Below.heap_alloc _ _ _ (by simp)).trans (World.alloc_heap_new w _)
  have hI1 : I [] W1 := by
    rw [← hW1]
    exact hI _ _ _ none (hI _ _ _ none h0 (World.grownBy_alloc _ _ _) (by simp)) (World.grownBy_alloc _ _ _) (by simp)
  have hb1 : Below w0.heap.size w0 W1 := by
    rw [← hW1]; exact hb0.trans ((((Below.refl _ w).alloc (Nat.le_refl _) _).alloc (by simp) _).mono hb0.size)
  have hput : ∀ (xs : List α) (W : World) (o : Obj), I xs W → I xs (W.putObj (w.heap.size + 1) o) := fun xs W o h => hI _ _ _ _ h (grownBy_putObj' W _ o) (fun r e => by cases e; omega)
  refine ⟨w.heap.size + 1, [{ target := .collected w.heap.size, args := #[] }], W1, { target := .fn (.func gf) lb, args := #[.func (.yield (w.heap.size + 1)) #[] #[]] }, W1, gf,
    #[.func (.yield (w.heap.size + 1)) #[] #[]] ++ lb, W1, ?_, ?_, fun _ _ => trivial, ?_, fun _ => h1, ?_⟩
  · rw [← hW1, hrec]; exact run_enterLoop_outer _ _ _ _ _
  · simp only [resolve, hg]
    simp [go_sem]
  · simp [invoke, go_sem, eg]
  · refine (hseq (w.heap.size + 1) (fun pre W => I pre W ∧ W.heap[w.heap.size + 1]? = some (.loop (rec .ready none)) ∧ W.heap[w.heap.size]? = some (.deferred (some []))) W1 hb1 (by have := hb0.size; omega) (by omega) (by omega) ?_ ?_ ⟨hI1, hL1, hK1⟩).mono ?_
    · rintro s A C row ⟨hi, hl, hk⟩ hgr hr
      have hne : ∀ k, k < w.heap.size + 2 → some k ≠ row := fun k hk' e => by have := hr k e.symm; omega
      exact ⟨hI s A C row hi hgr (fun r e => by have := hr r e; omega), (hgr.block _ (Array.getElem?_eq_some_iff.1 hl).1 (hne _ (by omega))).trans hl, (hgr.block _ (Array.getElem?_eq_some_iff.1 hk).1 (hne _ (by omega))).trans hk⟩
    · rintro pre x W ⟨hi, hl, hk⟩ hok hlen
      have hlt : w.heap.size + 1 < W.heap.size := (Array.getElem?_eq_some_iff.1 hl).1
      have hy := run_yield (P := P) (args := encs x) hl (by rw [hrec]; exact hps x)
      rw [hrec] at hy
      refine ⟨fn, _, assign, body, hy, roundIn_of_wpIn hfn (hassign _ x W _ ⟨_, run_beginRound hl (by rw [hrec]), ?_⟩)⟩
      have hok2 : Ok x (W.putObj (w.heap.size + 1) (.loop { rec .ready none with state := .busy })) := hOk _ _ _ _ hok ⟨_, hl, rfl⟩
      have hl2 : (W.putObj (w.heap.size + 1) (.loop { rec .ready none with state := .busy })).heap[w.heap.size + 1]? = some (.loop { rec .ready none with state := .busy }) := World.putObj_heap_same hlt
      have hk2 : (W.putObj (w.heap.size + 1) (.loop { rec .ready none with state := .busy })).heap[w.heap.size]? = some (.deferred (some [])) := (World.putObj_heap_other (by omega)).trans hk
      refine wpIn_mono (hbody _ pre x _ (hput _ _ _ hi) hok2 hlen) ?_
      rintro e a3 W3 hp
      cases e with
      | normal =>
        obtain ⟨hk3, hi3⟩ := hp
        have hl3 := hk3.keep (by omega) hl2
        have hr := run_endRound (P := P) none hl3
        have hb4 : But (fun k => k = w.heap.size + 1 ∨ k = b) W (W3.putObj (w.heap.size + 1) (.loop (rec .ready none))) :=
          ((But.putObj W _ _ (.inl rfl)).trans (hk3.mono (fun k _ e => .inr e))).trans (But.putObj W3 _ _ (.inl rfl))
        rw [hrec] at hr hb4 ⊢
        refine ⟨_, _, hr, rfl, ⟨hput _ _ _ hi3, World.putObj_heap_same (Array.getElem?_eq_some_iff.1 hl3).1, (World.putObj_heap_other (by omega)).trans (hk3.keep (by omega) hk2)⟩, hb4⟩
      | _ => exact hp.elim
    · rintro e W2 ⟨⟨v, rfl⟩, xs, hS, hi, hl, hk⟩
      refine ⟨none, _, by have := run_endLoop (P := P) hl (by rw [hrec]; simp); rw [hrec] at this; exact this, ?_⟩
      exact hdone _ xs _ (Nat.le_refl _) hS (hput _ _ _ hi) ((World.putObj_heap_other (by omega)).trans hk)

end Go

/- It is proved what append does with any list of ints, and what slices.Grow and slices.Concat return; conditions: those of each statement. -/
namespace Go.Proofs.YtcnicdaagknmpaaDoor
open Go.RowKit

theorem Ints.add_ {w : World} {B : Nat} {x : Addr} {zs : List Int} (h : Ints w B (some x) zs) : ∀ j u, (zs.map (Value.int .i64))[j]? = some u → w.cell? (x.add j) = some u := by
  intro j u hu
  rcases h with rfl | ⟨b, off, e, hb, hc⟩
  · simp at hu
  · injection e with e
    subst e
    have hj : j < zs.length := by have := (List.getElem?_eq_some_iff.1 hu).1; simpa using this
    rw [show (⟨b, off, none⟩ : Addr).add j = ⟨b, off + j, none⟩ from by unfold Addr.add; split <;> simp_all, hc j hj]
    simp [hj] at hu ⊢
    exact hu

/-- append of any list of ints onto a row of the call's own. -/
theorem app_run {w : World} {B n : Nat} {v : Value} {xs : List Value} (h : w.ownsRow B 3 1 v n xs) (hB : B ≤ w.heap.size) (a : Option Addr) (c : Nat) (zs : List Int) (hz : Ints w w.heap.size a zs) (hn : n ≤ 1048576) (hzn : zs.length ≤ 1048576) :
    ∃ a' c' w', (Builtin.append_ #[23, 23] 23 #[v, .slice a zs.length c]).run Tryd.prog w = .ok (.slice a' (n + zs.length) c') w' ∧
      w'.ownsRow B 3 1 (.slice a' (n + zs.length) c') (n + zs.length) (xs ++ zs.map (Value.int .i64)) ∧ w.grownBy w' v.ownBlock := by
  obtain ⟨i0, hi0, hz0, hz1, hz2⟩ := info_parts Tryd.info3
  have form : ∀ {w' : World} {v' : Value} {k : Nat} {ys : List Value}, w'.ownsRow B 3 1 v' k ys → ∃ a' c', v' = .slice a' k c' := fun {w' v' k ys} h' => by
    rcases h'.2 with ⟨rfl, rfl⟩ | ⟨g, cap, cur, rfl, _⟩
    · exact ⟨none, 0, rfl⟩
    · exact ⟨_, _, rfl⟩
  rcases a with _ | x
  · have hzs : zs = [] := by
      rcases hz with h | ⟨_, _, e, _⟩
      · exact h
      · cases e
    subst hzs
    obtain ⟨a', c', rfl⟩ := form h
    refine ⟨a', c', w, ?_, by simpa using h, World.grownBy.refl _ _⟩
    rcases h.2 with ⟨e, rfl⟩ | ⟨g, cap, cur, e, _, _, hnc, _⟩
    · cases e; simp [Builtin.append_, run_underlying Tryd.underlying23, sizeOf, typeInfo, hi0, Builtin.lenOf, Builtin.firstCells]
    · cases e; simp [Builtin.append_, run_underlying Tryd.underlying23, sizeOf, typeInfo, hi0, Builtin.lenOf, Builtin.firstCells, hnc, storeCells]
  · obtain ⟨v', w', hr, h2, h3, _⟩ := run_append_own (P := Tryd.prog) w B 23 23 3 i0 (.int .i64 0) 1 8 Tryd.underlying23 hi0 hz0 hz1 hz2 rfl (by decide) v n xs h x zs.length c (zs.map (Value.int .i64)) (by simp) hz.add_ (ints_oneCell _ _) (by simp only [maxLen]; omega) (by omega) hB
    obtain ⟨a', c', rfl⟩ := form h2
    exact ⟨a', c', w', hr, h2, h3⟩

end Go.Proofs.YtcnicdaagknmpaaDoor

/- It is proved what the FamilyDrop of the program returns; conditions: those of each statement. -/
namespace Go.Proofs.YtcnicdaagknmpaaDoor
open Go.RowKit

/-- Without the club at place p. -/
def without (zs : List Int) (p : Nat) : List Int := zs.take p ++ zs.drop (p + 1)

theorem Ints.take_ {w : World} {B : Nat} {a : Option Addr} {zs : List Int} (h : Ints w B a zs) (p : Nat) : Ints w B a (zs.take p) := by
  rcases h with rfl | ⟨b, off, e, hb, hc⟩
  · exact .inl (by simp)
  · exact .inr ⟨b, off, e, hb, fun j hj => by
      rw [List.length_take] at hj
      rw [hc j (by omega), List.getElem?_take, if_pos (by omega)]⟩

theorem Ints.drop_ {w : World} {B b off : Nat} {zs : List Int} (h : Ints w B (some ⟨b, off, none⟩) zs) (p : Nat) (hp : p < zs.length) : Ints w B (some ⟨b, off + p, none⟩) (zs.drop p) := by
  rcases h with rfl | ⟨b', off', e, hb, hc⟩
  · simp at hp
  · injection e with e
    injection e with e1 e2
    subst e1; subst e2
    exact .inr ⟨b, off + p, rfl, hb, fun j hj => by
      rw [List.length_drop] at hj
      have := hc (p + j) (by omega)
      rw [Nat.add_assoc, this, List.getElem?_drop]⟩

end Go.Proofs.YtcnicdaagknmpaaDoor

/- It is proved that what is left of a forest, links left out, is a forest, and that forests fall apart; conditions: those of each statement. -/
namespace Go.Proofs.YtcnicdaagknmpaaDoor
open Go.RowKit

/-- Each link is a bridge: without it, both its ends are apart. -/
def Br (b : Nat → Nat → Prop) : Prop := ∀ j v, b j v → ∃ CM CJ : Nat → Prop, (∀ j' v', ¬ (j' = j ∧ v' = v) → b j' v' → (CM v' ↔ CJ j')) ∧ ¬ (CM v ↔ CJ j)

theorem Br.mono {b b' : Nat → Nat → Prop} (h : Br b) (f g : Nat → Nat) (hb : ∀ j v, b' j v → b (f j) (g v)) (hi : ∀ j v j' v', b' j v → b' j' v' → f j' = f j → g v' = g v → j' = j ∧ v' = v) : Br b' := fun j v hjv => by
  obtain ⟨CM, CJ, h1, h2⟩ := h (f j) (g v) (hb j v hjv)
  exact ⟨fun v => CM (g v), fun j => CJ (f j), fun j' v' hne hb' => h1 _ _ (fun e => hne (hi j v j' v' hjv hb' e.1 e.2)) (hb j' v' hb'), h2⟩

theorem Br.dual {b : Nat → Nat → Prop} (h : Br b) : Br fun v j => b j v := fun v j hjv => by
  obtain ⟨CM, CJ, h1, h2⟩ := h j v hjv
  exact ⟨CJ, CM, fun j' v' hne hb' => (h1 _ _ (fun e => hne ⟨e.2, e.1⟩) hb').symm, fun e => h2 e.symm⟩

end Go.Proofs.YtcnicdaagknmpaaDoor

/- It is proved what goOn does where no member is left; conditions: those of each statement. -/
namespace Go.Proofs.YtcnicdaagknmpaaDoor
open Go.RowKit Go.Shelf

attribute [local go_sem] Oper.semAt_some

/-- What allNames keeps: what it is to call, the names so far, the function itself. -/
structure OS (By Bp Bg Br l m : Nat) (W : World) (p : List Nat) : Prop where
  y : Boxed W By 103 (.func (.yield l) #[] #[])
  g : Boxed W Bg 104 (.func (.func 61) #[] #[.pointer (some ⟨By, 0, none⟩), .pointer (some ⟨Bp, 0, none⟩), .pointer (some ⟨Bg, 0, none⟩)])
  q : Boxed W Bp 23 (.slice (some ⟨Br, 0, none⟩) p.length m)
  r : ∃ R : List Int, R.length = m ∧ R.take p.length = nI p ∧ Nums W Br 3 R
  t : Tab W

/-- The blocks that may turn. -/
def Xg (Bp Br l b : Nat) : Nat → Prop := fun k => k = l ∨ k = b ∨ k = Bp ∨ k = Br

/-- Where they lie. -/
structure Lies (By Bp Bg Br l b n₁ : Nat) : Prop where
  l1 : 1 < l
  l2 : l < n₁
  b1 : 1 < b
  b2 : b < n₁
  y : n₁ ≤ By
  p : n₁ ≤ Bp
  g : n₁ ≤ Bg
  r : n₁ ≤ Br
  yp : By ≠ Bp
  yr : By ≠ Br
  gp : Bg ≠ Bp
  gr : Bg ≠ Br
  pr : Bp ≠ Br

theorem tab_but {X : Nat → Prop} {W W' : World} (h : Tab W) (hb : But X W W') (hX : ∀ k, X k → 1 < k) : Tab W' :=
  h.below (hb.below (B := 2) h.lt (fun k hk => hX k hk)) (by omega)

theorem OS.but {By Bp Bg Br l m b n₁ : Nat} {W W' : World} {p : List Nat} (h : OS By Bp Bg Br l m W p) (L : Lies By Bp Bg Br l b n₁) (hb : But (fun k => k = l ∨ k = b) W W') : OS By Bp Bg Br l m W' p := by
  have hn : ∀ k, n₁ ≤ k → ¬ (k = l ∨ k = b) := fun k hk => by have := L.l2; have := L.b2; omega
  obtain ⟨R, hR1, hR2, hR3⟩ := h.r
  exact ⟨hb.keep (hn _ L.y) h.y, hb.keep (hn _ L.g) h.g, hb.keep (hn _ L.p) h.q, ⟨R, hR1, hR2, hb.keep (hn _ L.r) hR3⟩, tab_but h.t hb (fun k hk => by have := L.l1; have := L.b1; omega)⟩

theorem OS.alloc {By Bp Bg Br l m : Nat} {W : World} {p : List Nat} (h : OS By Bp Bg Br l m W p) (o : Obj) : OS By Bp Bg Br l m (W.alloc o) p := by
  obtain ⟨R, hR1, hR2, hR3⟩ := h.r
  exact ⟨h.y.alloc _, h.g.alloc _, h.q.alloc _, ⟨R, hR1, hR2, hR3.alloc _⟩, tab_but (X := fun _ => False) h.t (But.alloc _ _) (by simp)⟩

/-- Other blocks are written. -/
theorem OS.far {By Bp Bg Br l m : Nat} {W : World} {p : List Nat} (h : OS By Bp Bg Br l m W p) {B : Nat} (hy : By ≠ B) (hp : Bp ≠ B) (hg : Bg ≠ B) (hr : Br ≠ B) (h1 : 1 < B) (v : Value) : OS By Bp Bg Br l m (W.setCell ⟨B, 0, none⟩ v) p := by
  obtain ⟨R, hR1, hR2, hR3⟩ := h.r
  exact ⟨HasBlk.far h.y (show By ≠ B from hy) v, HasBlk.far h.g (show Bg ≠ B from hg) v, HasBlk.far h.q (show Bp ≠ B from hp) v, ⟨R, hR1, hR2, hR3.far (show Br ≠ B from hr) v⟩, tab_but (X := fun k => k = B) h.t (But.setCell _ _ _ _ (fun _ => rfl)) (fun k e => by omega)⟩

/-- What a round finds of what it is handed. -/
def OkN (m : Nat) (x : Value × List Nat) (W : World) : Prop := (x.2.length = m ∧ ∀ v ∈ x.2, v < m) ∧ ∃ a c, x.1 = .slice a x.2.length c ∧ Ints W W.heap.size a (nI x.2)

theorem OS.ok {By Bp Bg Br l m : Nat} {W : World} {p : List Nat} (h : OS By Bp Bg Br l m W p) (hp : p.length = m) (hv : ∀ v ∈ p, v < m) : OkN m (.slice (some ⟨Br, 0, none⟩) p.length m, p) W := by
  obtain ⟨R, hR1, hR2, hR3⟩ := h.r
  refine ⟨⟨hp, hv⟩, _, _, rfl, .inr ⟨Br, 0, rfl, hR3.lt, fun j hj => ?_⟩⟩
  have hj : j < p.length := by simpa [nI_len] using hj
  rw [Nat.zero_add, hR3.cell j (by omega), ← hR2, List.getElem?_take, if_pos hj]

set_option maxRecDepth 100000 in
set_option maxHeartbeats 2000000 in
theorem goOn0 (By Bp Bg Br l m b n₁ N : Nat) (L : Lies By Bp Bg Br l b n₁) (J : List (Value × List Nat) → World → Prop) (hJ : OwnAll n₁ J)
    (hY : ∀ k pre x W1, J pre W1 → OkN m x W1 → pre.length < N → YieldAt Fence.wide k Tryd.prog l #[x.1] W1 fun e W' => e = .returned (.bool true) ∧ J (pre ++ [x]) W' ∧ But (fun k => k = l ∨ k = b) W1 W')
    (p : List Nat) (hp : p.length = m) (hpv : ∀ v ∈ p, v < m) (pre : List (Value × List Nat)) (hpN : pre.length < N) (W : World) (hn : n₁ ≤ W.heap.size) (h0 : J pre W) (hO : OS By Bp Bg Br l m W p) :
    Calls Tryd.prog 61 #[.int .i64 0, .pointer (some ⟨By, 0, none⟩), .pointer (some ⟨Bp, 0, none⟩), .pointer (some ⟨Bg, 0, none⟩)] W fun e W' => e = .returned (.bool true) ∧
      (∃ xs : List (Value × List Nat), xs.map (·.2) = [p] ∧ J (pre ++ xs) W') ∧ OS By Bp Bg Br l m W' p ∧ But (Xg Bp Br l b) W W' := by
  have hO2 := (hO.alloc (.cells #[.int .i64 0] 54)).alloc (.cells #[.bool false] 4)
  have hJ2 : J pre ((W.alloc (.cells #[.int .i64 0] 54)).alloc (.cells #[.bool false] 4)) := hJ _ _ _ none (hJ _ _ _ none h0 (World.grownBy_alloc _ _ _) (by simp)) (World.grownBy_alloc _ _ _) (by simp)
  have hbt : But (Xg Bp Br l b) W ((W.alloc (.cells #[.int .i64 0] 54)).alloc (.cells #[.bool false] 4)) := (But.alloc _ _).trans (But.alloc _ _)
  have q1 := alloc2_1 W (.cells #[.int .i64 0] 54) (.cells #[.bool false] 4)
  obtain ⟨fn, tmps, assign, body, hy, hR⟩ := hY 5 pre (.slice (some ⟨Br, 0, none⟩) p.length m, p) _ hJ2 (hO2.ok hp hpv) hpN
  dsimp only at hy
  have cy := hO2.y.cell
  have cp := hO2.q.cell
  obtain ⟨k, hk⟩ : ∃ k, k = p.length := ⟨_, rfl⟩
  have HK := Lib.hid hk
  rw [← hk] at hy cp
  have HO2 := Lib.hid hO2
  have HBT := Lib.hid hbt
  have HL := Lib.hid L
  have Q1 := Lib.hid q1
  clear hk hO2 hbt q1 hJ2 hY h0 L
  refine (callsIn_wide (n := 6)).1 ?_
  refine callsIn_of_wp Tryd.func61 rfl trivial ?_ rfl
  simp only [Tryd.ntmps61, List.size_toArray, List.length_cons, List.length_nil, Nat.reduceAdd, Nat.reduceSub, Array.replicate_succ, Array.replicate_zero, List.push_toArray, List.append_toArray, List.nil_append, List.cons_append]
  gi_wp2
  refine hR.mono ?_
  rintro e W3 ⟨rfl, hJ3, hb3⟩
  have q3 : HasBlk W3 (W.heap.size + 1) #[.bool false] 4 := hb3.keep (by have := HL.out.l2; have := HL.out.b2; omega) Q1.out
  have c3 := (blk_cell q3 0).trans (cell1_0 _)
  have f3 := blk_frozen q3 0
  have hs3 := hb3.size
  have hO3 := HO2.out.but HL.out hb3
  have HO3 := Lib.hid (hO3.far (B := W.heap.size + 1) (by have := hO.y.lt; omega) (by have := hO.q.lt; omega) (by have := hO.g.lt; omega) (by obtain ⟨_, _, _, h⟩ := hO.r; have := h.lt; omega) (by have := HL.out.l1; have := HL.out.l2; omega) (.bool true))
  have HB3 := Lib.hid (HBT.out.trans ((hb3.mono (Y := Xg Bp Br l b) (fun k _ e => by unfold Xg; rcases e with h | h <;> simp [h]))))
  have HJ3 := Lib.hid hJ3
  clear hb3 hO3 hJ3 q3
  gi_wp2
  refine bodyPost_ret (v := .bool true) (by simp [results, Tryd.results61, go_sem, c3]) rfl ?_
  refine ⟨rfl, ⟨[(.slice (some ⟨Br, 0, none⟩) k m, p)], rfl, ?_⟩, HO3.out, ?_⟩
  · rw [HK.out]
    exact hJ _ _ _ (some (W.heap.size + 1)) HJ3.out (only_setCell (p := ⟨W.heap.size + 1, 0, none⟩) (World.grownBy.refl _ _) rfl _) (fun r e => by injection e; omega)
  · refine ⟨HB3.out.os, HB3.out.tape, HB3.out.output, by have := HB3.out.size; simpa using this, fun i hi hX => ?_⟩
    exact (Below.heap_setCell W3 ⟨W.heap.size + 1, 0, none⟩ _ i (show i ≠ W.heap.size + 1 by omega)).trans (HB3.out.same i hi hX)

end Go.Proofs.YtcnicdaagknmpaaDoor

/- It is proved what goOn does; conditions: those of each statement. -/
namespace Go.Proofs.YtcnicdaagknmpaaDoor
open Go.RowKit Go.Shelf

attribute [local go_sem] Oper.semAt_some

theorem OS.drew {By Bp Bg Br l m : Nat} {W : World} {p : List Nat} (h : OS By Bp Bg Br l m W p) : OS By Bp Bg Br l m W.drew p := ⟨h.y, h.g, h.q, h.r, h.t⟩
theorem OS.grown {By Bp Bg Br l m : Nat} {W W' : World} {p : List Nat} {row : Option Nat} (h : OS By Bp Bg Br l m W p) (hg : W.grownBy W' row) (hr : ∀ r, row = some r → r ≠ By ∧ r ≠ Bp ∧ r ≠ Bg ∧ r ≠ Br ∧ 1 < r) : OS By Bp Bg Br l m W' p := by
  obtain ⟨R, hR1, hR2, hR3⟩ := h.r
  have hb : But (fun k => row = some k) W W' := But.of_grownBy hg (fun r e _ => e)
  exact ⟨hb.keep (fun e => (hr _ e).1 rfl) h.y, hb.keep (fun e => (hr _ e).2.2.1 rfl) h.g, hb.keep (fun e => (hr _ e).2.1 rfl) h.q, ⟨R, hR1, hR2, hb.keep (fun e => (hr _ e).2.2.2.1 rfl) hR3⟩, tab_but h.t hb (fun k e => (hr k e).2.2.2.2)⟩

theorem Lies.x1 {By Bp Bg Br l b n₁ : Nat} (L : Lies By Bp Bg Br l b n₁) : ∀ k, Xg Bp Br l b k → 1 < k := by
  intro k h
  have := L.l1; have := L.l2; have := L.b1; have := L.p; have := L.r
  unfold Xg at h; omega

theorem mem_none (s : Nat) (hs : s < 64) (h : mem s = []) : s = 0 := by
  by_cases h0 : s = 0
  · exact h0
  · rw [mem_cons s hs h0] at h; cases h

/-- A name is put behind the names so far: what that leaves. -/
theorem put_name {By Bp Bg Br l m b n₁ : Nat} (L : Lies By Bp Bg Br l b n₁) {W : World} {p : List Nat} (hO : OS By Bp Bg Br l m W p) (hp : p.length < m) (v : Nat) :
    ∃ E, ((W.alloc (.cells #[.int .i64 (v : Int)] 3)).setCell ⟨Br, p.length, none⟩ (.int .i64 (v : Int))).setCell ⟨Bp, 0, none⟩ (.slice (some ⟨Br, 0, none⟩) (p.length + 1) m) = E ∧ OS By Bp Bg Br l m E (p ++ [v]) ∧ But (Xg Bp Br l b) W E ∧ W.heap.size ≤ E.heap.size := by
  obtain ⟨R, hR1, hR2, hR3⟩ := hO.r
  have hgr := L.gr; have hyr := L.yr; have hyp := L.yp; have hgp := L.gp; have hpr := L.pr
  refine ⟨_, rfl, ⟨?_, ?_, ?_, ⟨R.set p.length (v : Int), by rw [List.length_set, hR1], ?_, ?_⟩, ?_⟩, ?_, by simp⟩
  · exact HasBlk.far (HasBlk.far (HasBlk.alloc hO.y _) (show By ≠ Br from hyr) _) (show By ≠ Bp from hyp) _
  · exact HasBlk.far (HasBlk.far (HasBlk.alloc hO.g _) (show Bg ≠ Br from hgr) _) (show Bg ≠ Bp from hgp) _
  · rw [List.length_append]
    exact (show Boxed _ Bp 23 _ from HasBlk.far (HasBlk.alloc hO.q (.cells #[.int .i64 (v : Int)] 3)) (show Bp ≠ Br from hpr) (.int .i64 (v : Int))).set _
  · rw [List.length_append, List.length_singleton, List.take_succ_eq_append_getElem (by rw [List.length_set]; omega), List.take_set_of_le (Nat.le_refl _), hR2, nI_snoc]
    simp
  · exact ((hR3.alloc _).set p.length (v : Int)).far (show Br ≠ Bp from fun e => hpr e.symm) _
  · exact tab_but (X := Xg Bp Br l b) hO.t (((But.alloc _ _).trans (But.setCell _ _ _ _ (fun _ => .inr (.inr (.inr rfl))))).trans (But.setCell _ _ _ _ (fun _ => .inr (.inr (.inl rfl))))) L.x1
  · exact ((But.alloc _ _).trans (But.setCell _ _ _ _ (fun _ => .inr (.inr (.inr rfl))))).trans (But.setCell _ _ _ _ (fun _ => .inr (.inr (.inl rfl))))

/-- The last name is taken off again. -/
theorem off_name {By Bp Bg Br l m b n₁ : Nat} (L : Lies By Bp Bg Br l b n₁) {W : World} {p : List Nat} {v : Nat} (hO : OS By Bp Bg Br l m W (p ++ [v])) :
    OS By Bp Bg Br l m (W.setCell ⟨Bp, 0, none⟩ (.slice (some ⟨Br, 0, none⟩) p.length m)) p ∧ But (Xg Bp Br l b) W (W.setCell ⟨Bp, 0, none⟩ (.slice (some ⟨Br, 0, none⟩) p.length m)) := by
  obtain ⟨R, hR1, hR2, hR3⟩ := hO.r
  have hgr := L.gr; have hyr := L.yr; have hyp := L.yp; have hgp := L.gp; have hpr := L.pr
  have hbt : But (Xg Bp Br l b) W (W.setCell ⟨Bp, 0, none⟩ (.slice (some ⟨Br, 0, none⟩) p.length m)) := But.setCell _ _ _ _ (fun _ => .inr (.inr (.inl rfl)))
  refine ⟨⟨HasBlk.far hO.y (show By ≠ Bp from hyp) _, HasBlk.far hO.g (show Bg ≠ Bp from hgp) _, hO.q.set _, ⟨R, hR1, ?_, hR3.far (show Br ≠ Bp from fun e => hpr e.symm) _⟩, tab_but hO.t hbt L.x1⟩, hbt⟩
  have := congrArg (List.take p.length) hR2
  rw [List.take_take, nI_snoc, List.length_append, Nat.min_eq_left (by simp)] at this
  rw [this, List.take_left' (nI_len p)]

end Go.Proofs.YtcnicdaagknmpaaDoor

/- It is proved what without returns; conditions: those of each statement. -/
namespace Go.Proofs.YtcnicdaagknmpaaDoor
open Go.RowKit Go.Shelf

/-- A set without a member. -/
def woP (s v : Nat) : Nat := s &&& (63 - 2 ^ v)

set_option maxRecDepth 100000 in
theorem wo_fin : ∀ x : Fin 64, ∀ p : Fin 6, bits BinOp.andNot IntKind.i64 (x.val : Int) (2 ^ p.val) = ((woP x.val p.val : Nat) : Int) := by decide +kernel

theorem wo_at (x p : Nat) (hx : x < 64) (hp : p < 6) : bits BinOp.andNot IntKind.i64 (x : Int) (2 ^ p) = ((woP x p : Nat) : Int) := wo_fin ⟨x, hx⟩ ⟨p, hp⟩
set_option maxRecDepth 100000 in
theorem wo_mem_fin : ∀ x : Fin 64, ∀ p : Fin 6, mem (woP x.val p.val) = (mem x.val).erase p.val := by decide +kernel

theorem wo_mem (x p : Nat) (hx : x < 64) (hp : p < 6) : mem (woP x p) = (mem x).erase p := wo_mem_fin ⟨x, hx⟩ ⟨p, hp⟩
theorem wo_le (x p : Nat) : woP x p ≤ x := Nat.and_le_left
theorem without_any (x p : Nat) (hx : x < 64) (hp : p < 6) (w : World) :
    Calls Tryd.prog 62 #[.int .i64 (x : Int), .int .i64 (p : Int)] w fun e w' => e = .returned (.int .i64 ((woP x p : Nat) : Int)) ∧ w = w' := by
  have hp8 : (p : Int) < 8 := by omega
  obtain ⟨h1, h2⟩ := p2_small p (by omega)
  have HO := Lib.hid (wo_at x p hx hp)
  go_enter Tryd.func62, Tryd.ntmps62
  go_wp2
  go_ret
  exact ⟨by rw [HO.out]; rfl, rfl⟩

end Go.Proofs.YtcnicdaagknmpaaDoor

/- It is proved that the dual of a dual is the family; conditions: those of each statement. -/
namespace Go.Proofs.YtcnicdaagknmpaaDoor
open Go.RowKit

theorem mem_mem (s v : Nat) : v ∈ mem s ↔ v < 6 ∧ s.testBit v = true := by simp [mem]
end Go.Proofs.YtcnicdaagknmpaaDoor
