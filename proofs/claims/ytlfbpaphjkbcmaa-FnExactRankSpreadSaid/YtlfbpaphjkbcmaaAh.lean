/- It is proved what a loop over a function does where the function keeps its state in cells of its own and the body writes one block that lay ahead of the loop; conditions: those of each statement. -/
import Derived.RangeFuncNested
import Derived.RangeFuncBound
import Derived.RangeFuncCalls
import Derived.RangeFuncLeaves
import Derived.RangeFuncBox
import Derived.RangeFuncWrites
namespace Go
open Go.RowKit

/-- Whatever lies in a block that X does not name lies as it lay. -/
structure But (X : Nat → Prop) (W W' : World) : Prop where
  os : W'.os = W.os
  tape : W'.tape = W.tape
  output : W'.output = W.output
  size : W.heap.size ≤ W'.heap.size
  same : ∀ k, k < W.heap.size → ¬ X k → W'.heap[k]? = W.heap[k]?

theorem But.refl (X : Nat → Prop) (W : World) : But X W W := ⟨rfl, rfl, rfl, Nat.le_refl _, fun _ _ _ => rfl⟩
theorem But.trans {X : Nat → Prop} {A B C : World} (h : But X A B) (k : But X B C) : But X A C :=
  ⟨k.os.trans h.os, k.tape.trans h.tape, k.output.trans h.output, Nat.le_trans h.size k.size, fun i hi hX => (k.same i (Nat.lt_of_lt_of_le hi h.size) hX).trans (h.same i hi hX)⟩

theorem But.mono {X Y : Nat → Prop} {A B : World} (h : But X A B) (hXY : ∀ k, k < A.heap.size → X k → Y k) : But Y A B := ⟨h.os, h.tape, h.output, h.size, fun i hi hY => h.same i hi (fun e => hY (hXY _ hi e))⟩
theorem But.of_grownBy {X : Nat → Prop} {W W' : World} {row : Option Nat} (hg : W.grownBy W' row) (hr : ∀ r, row = some r → r < W.heap.size → X r) : But X W W' :=
  ⟨hg.os, hg.tape, hg.output, hg.size, fun k hk hX => hg.block k hk (fun e => hX (hr k e.symm hk))⟩

theorem But.putObj {X : Nat → Prop} (W : World) (l : Nat) (o : Obj) (hl : X l) : But X W (W.putObj l o) := But.of_grownBy (grownBy_putObj' W l o) (fun r e _ => by cases e; exact hl)
theorem But.alloc {X : Nat → Prop} (W : World) (o : Obj) : But X W (W.alloc o) := But.of_grownBy (World.grownBy_alloc W o none) (by simp)
theorem But.setCell {X : Nat → Prop} (W : World) (b i : Nat) (v : Value) (hb : b < W.heap.size → X b) : But X W (W.setCell ⟨b, i, none⟩ v) :=
  ⟨rfl, rfl, rfl, by simp, fun k hk hX => Below.heap_setCell W ⟨b, i, none⟩ v k (fun e => hX (by subst e; exact hb hk))⟩

theorem But.drew {X : Nat → Prop} (W : World) : But X W W.drew := ⟨rfl, rfl, rfl, Nat.le_refl _, fun _ _ _ => rfl⟩
theorem But.keep {X : Nat → Prop} {W W' : World} {k : Nat} {o : Obj} (h : But X W W') (hX : ¬ X k) (hk : W.heap[k]? = some o) : W'.heap[k]? = some o := (h.same k (Array.getElem?_eq_some_iff.1 hk).1 hX).trans hk
theorem But.below {X : Nat → Prop} {W W' : World} {B : Nat} (h : But X W W') (hB : B ≤ W.heap.size) (hX : ∀ k, X k → B ≤ k) : Below B W W' :=
  ⟨h.os, h.tape, h.output, h.size, fun k hk => h.same k (Nat.lt_of_lt_of_le hk hB) (fun e => by have := hX k e; omega)⟩

theorem But.from {X : Nat → Prop} {W W' : World} {B : Nat} (h : But X W W') (hX : ∀ k o, B ≤ k → W.heap[k]? = some o → X k → o.isCells = true) : KeepsFrom B W W' :=
  ⟨h.size, fun k o hB hk ho => h.keep (fun e => by rw [hX k o hB hk e] at ho; cases ho) hk⟩

theorem But.of_below {X : Nat → Prop} {W W' : World} (h : Below W.heap.size W W') : But X W W' := ⟨h.os, h.tape, h.output, h.size, fun k hk _ => h.block k hk⟩
end Go
