/- It is proved what a loop over a function does where the function keeps its state in cells of its own and the body writes a variable's block and ints of its own; conditions: those of each statement. -/
import Derived.RangeFuncNested
import Derived.RangeFuncBound
import Derived.RangeFuncCalls
import Derived.RangeFuncLeaves
import Derived.RangeFuncBox
import Derived.RangeFuncWrites
import Derived.Test.YtlfbpaphjkbcmaaAh
namespace Go
open Go.RowKit

/-- What a round may turn: the loop's record, a variable's block D, and ints from lo on. -/
structure ButF (lo D l : Nat) (A B : World) : Prop where
  os : B.os = A.os
  tape : B.tape = A.tape
  output : B.output = A.output
  size : A.heap.size ≤ B.heap.size
  same : ∀ k, k < A.heap.size → k ≠ l → k ≠ D → (lo ≤ k → ∀ cs z, A.heap[k]? ≠ some (.cells cs 3 z)) → B.heap[k]? = A.heap[k]?

theorem ButF.refl (lo D l : Nat) (W : World) : ButF lo D l W W := ⟨rfl, rfl, rfl, Nat.le_refl _, fun _ _ _ _ _ => rfl⟩
theorem ButF.trans {lo D l : Nat} {A B C : World} (h : ButF lo D l A B) (k : ButF lo D l B C) : ButF lo D l A C :=
  ⟨k.os.trans h.os, k.tape.trans h.tape, k.output.trans h.output, Nat.le_trans h.size k.size, fun i hi hl hD hn => by
    have h1 := h.same i hi hl hD hn
    exact (k.same i (Nat.lt_of_lt_of_le hi h.size) hl hD (fun hlo cs z => by rw [h1]; exact hn hlo cs z)).trans h1⟩

theorem ButF.of_but {lo D l : Nat} {X : Nat → Prop} {A B : World} (h : But X A B) (hX : ∀ k, X k → k = l ∨ k = D) : ButF lo D l A B :=
  ⟨h.os, h.tape, h.output, h.size, fun k hk h1 h2 _ => h.same k hk (fun e => (hX k e).elim h1 h2)⟩

theorem ButF.of_below {lo D l : Nat} {A B : World} (h : Below A.heap.size A B) : ButF lo D l A B := ⟨h.os, h.tape, h.output, h.size, fun k hk _ _ _ => h.block k hk⟩
theorem ButF.drew {lo D l : Nat} (W : World) : ButF lo D l W W.drew := ⟨rfl, rfl, rfl, Nat.le_refl _, fun _ _ _ _ _ => rfl⟩
theorem ButF.to {lo D l : Nat} {A B : World} (h : ButF lo D D A B) : ButF lo D l A B := ⟨h.os, h.tape, h.output, h.size, fun k hk _ h2 h3 => h.same k hk h2 h2 h3⟩
theorem ButF.below {lo D l : Nat} {A B : World} (h : ButF lo D l A B) (hlo : lo ≤ A.heap.size) (hD : lo ≤ D) (hl : lo ≤ l) : Below lo A B :=
  ⟨h.os, h.tape, h.output, h.size, fun k hk => h.same k (by omega) (by omega) (by omega) (fun e => by omega)⟩

theorem ButF.keep {lo D l k : Nat} {A B : World} {o : Obj} (h : ButF lo D l A B) (hk : A.heap[k]? = some o) (h1 : k ≠ l) (h2 : k ≠ D) (h3 : lo ≤ k → ∀ cs z, o ≠ .cells cs 3 z) : B.heap[k]? = some o :=
  (h.same k (Array.getElem?_eq_some_iff.1 hk).1 h1 h2 (fun hlo cs z e => h3 hlo cs z (by rw [hk] at e; exact Option.some.inj e))).trans hk

theorem ButF.from {lo D l B : Nat} {W W' : World} (h : ButF lo D l W W') (hD : D < B) (hl : l < B) : KeepsFrom B W W' :=
  ⟨h.size, fun k o hB hk ho => h.keep hk (by omega) (by omega) (fun _ cs z e => by subst e; cases ho)⟩

/-- Behind an append of ints and the store back into the variable's block. -/
theorem ButF.append {lo D : Nat} {W w1 : World} {v v' : Value} {k : Nat} {xs : List Value} {tmp : Obj} (i : Nat) (hr : W.ownsRow lo 3 1 v k xs) (hgrow : (W.alloc tmp).grownBy w1 v.ownBlock) : ButF lo D D W (w1.setCell ⟨D, i, none⟩ v') := by
  have hs : (W.alloc tmp).heap.size = W.heap.size + 1 := by simp
  refine ⟨hgrow.os, hgrow.tape, hgrow.output, by have := hgrow.size; simp only [World.size_setCell]; omega, fun j hj _ hD hn => ?_⟩
  rw [Below.heap_setCell w1 ⟨D, i, none⟩ v' j hD, hgrow.block j (by omega) (fun e => ?_), Below.heap_alloc W tmp j hj]
  rcases hr.2 with ⟨rfl, _⟩ | ⟨g, cap, cur, rfl, hb, hg, _⟩
  · simp [Value.ownBlock] at e
  · obtain rfl : j = g := by simpa [Value.ownBlock] using e
    exact hn hb _ _ hg

/-- What abides whatever is done to blocks from B on that are no ints. -/
def OwnF {β : Type} (B : Nat) (J : β → World → Prop) : Prop := ∀ s A C row, J s A → A.grownBy C row → (∀ r, row = some r → B ≤ r ∧ ∀ cs z, A.heap[r]? ≠ some (.cells cs 3 z)) → J s C

theorem OwnF.from {β : Type} {B : Nat} {J : β → World → Prop} (h : OwnF B J) {B' : Nat} (hB : B ≤ B') : OwnFrom B' J := fun s A C row hs hg hr => h s A C row hs hg (fun r e => by
  obtain ⟨h1, o, h2, h3⟩ := hr r e
  exact ⟨by omega, fun cs z e2 => by rw [h2] at e2; cases e2; cases h3⟩)

theorem OwnF.and {β : Type} {B : Nat} {I J : β → World → Prop} (h : OwnF B I) (k : OwnF B J) : OwnF B (fun s W => I s W ∧ J s W) := fun s A C row hs hg hr => ⟨h s A C row hs.1 hg hr, k s A C row hs.2 hg hr⟩
theorem OwnF.alloc {β : Type} {B : Nat} {J : β → World → Prop} (h : OwnF B J) {s : β} {W : World} (o : Obj) (hs : J s W) : J s (W.alloc o) := h _ _ _ none hs (World.grownBy_alloc _ _ _) (by simp)
theorem OwnF.step {β : Type} {B : Nat} {J : β → World → Prop} (h : OwnF B J) {s : β} {W W' : World} (hb : Below W.heap.size W W') (hs : J s W) : J s W' :=
  h _ _ _ none hs ⟨hb.os, hb.tape, hb.output, hb.size, fun k hk _ => hb.block k hk⟩ (by simp)

end Go
