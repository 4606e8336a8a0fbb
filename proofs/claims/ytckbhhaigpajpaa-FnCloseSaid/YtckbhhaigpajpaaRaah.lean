/- It is proved what ascending lists without repeats are, and what l1Simple returns; conditions: the bounds in each statement. -/
import Derived.Lib.SlicesCompact
import Derived.Lib.OwnBridge
import Derived.Test.YtckbhhaigpajpaaRows
import Derived.WalkKit
import Derived.WalkSpells
import Derived.ProofKit
import Derived.OpenShut
import Derived.ShutString
import Derived.ChangeOld
import Derived.Below
import Derived.Deep.RegionHeld3
import Derived.Deep.QuietTactic
import Derived.BigQuiet
import Derived.Lib.Hide
import Derived.Lib.SmallJoins
import Derived.Outline
import Derived.Laws.MakeOwn
import Derived.Laws.OwnMore
import Derived.IntWalk
import Derived.Lib.AppendZeros
import Derived.Maps.AppendAt
import Derived.Deep.AppendLies
import Derived.OwnWalk
import Derived.RangeFuncNested
import Derived.RangeFuncBound
import Derived.RangeFuncCalls
import Derived.RangeFuncLeaves
import Derived.RangeFuncBox
import Derived.Shelf.Abstract
import Derived.Shelf.RegionOpen
import Derived.OwnWalkIn
import Derived.TacticsInMore
import Derived.LoopNIn
import Derived.LoopIn
import Derived.RowKit
import Derived.Laws.CopyRow
import Derived.Lib.SlBuf
import Derived.RangeFuncWrites
import Derived.StillTailTactics
import Derived.StillTail
import Derived.StillTactics
import Derived.OrdersIn
import Derived.TacticsIn
import Derived.Shelf.Spec.TrailingZeros
import Derived.Test.YtckbhhaigpajpaaRaab
import Derived.Laws.BitsAllLaws
import Derived.Maps.OwnIn
import Derived.Maps.Ext
import Derived.DeepKeys4
import Derived.MapKept
import Derived.Deep.RegionLaw
import Derived.Shelf.Sort.Plain
import Derived.Shelf.Slices.In.SortNone
import Derived.Shelf.Slices.CompactI
import Derived.Ground.Names2Prog
import Derived.Lib.SliceRun
namespace Go.Proofs.Ytckbhhaigpajpaa
open Go.RowKit

/-- Ascending, each number once. -/
def Asc (xs : List Int) : Prop := xs.Pairwise (· < ·)

theorem asc_ext : ∀ (xs ys : List Int), Asc xs → Asc ys → (∀ z, z ∈ xs ↔ z ∈ ys) → xs = ys
  | [], [], _, _, _ => rfl
  | [], y :: _, _, _, h => by have := (h y).2 (by simp); simp at this
  | x :: _, [], _, _, h => by have := (h x).1 (by simp); simp at this
  | x :: xs, y :: ys, hx, hy, h => by
    have hx' := List.pairwise_cons.1 hx
    have hy' := List.pairwise_cons.1 hy
    have e : x = y := by
      have h1 := (h x).1 (by simp)
      have h2 := (h y).2 (by simp)
      rcases List.mem_cons.1 h1 with h1 | h1
      · exact h1
      · rcases List.mem_cons.1 h2 with h2 | h2
        · exact h2.symm
        · have := hy'.1 x h1
          have := hx'.1 y h2
          omega
    subst e
    rw [asc_ext xs ys hx'.2 hy'.2 fun z => ?_]
    constructor
    · intro hz
      have hlt := hx'.1 z hz
      rcases List.mem_cons.1 ((h z).1 (List.mem_cons_of_mem _ hz)) with h1 | h1
      · omega
      · exact h1
    · intro hz
      have hlt := hy'.1 z hz
      rcases List.mem_cons.1 ((h z).2 (List.mem_cons_of_mem _ hz)) with h1 | h1
      · omega
      · exact h1

/-- All clubs in order, once. -/
def simpZ (zs : List Int) : List Int := Lib.compact (zs.mergeSort fun x y => decide (x ≤ y))

theorem compact_asc (zs : List Int) (h : zs.Pairwise (· ≤ ·)) : Asc (Lib.compact zs) := by
  unfold Asc Lib.compact Lib.compactUpTo
  rw [List.pairwise_map]
  refine List.Pairwise.imp_of_mem (R := fun a b => a < b) ?_ (List.Pairwise.filter _ List.pairwise_lt_range)
  intro i j _ hj hij
  have hj' := List.mem_filter.1 hj
  have hjl : j < zs.length := List.mem_range.1 hj'.1
  have hk : j = 0 ∨ zs.toArray[j]! ≠ zs.toArray[j - 1]! := by simpa [Lib.keeps] using hj'.2
  have hk2 : zs.toArray[j]! ≠ zs.toArray[j - 1]! := by
    rcases hk with rfl | hk
    · omega
    · exact hk
  have e1 : zs.toArray[j]! = zs[j] := by simp [hjl]
  have e2 : zs.toArray[j - 1]! = zs[j - 1]'(by omega) := by simp [show j - 1 < zs.length by omega]
  have e3 : zs.toArray[i]! = zs[i]'(by omega) := by simp [show i < zs.length by omega]
  rw [e1, e2] at hk2
  rw [e1, e3]
  have h1 : zs[j - 1]'(by omega) ≤ zs[j] := List.pairwise_iff_getElem.1 h (j - 1) j (by omega) hjl (by omega)
  have h2 : zs[i]'(by omega) ≤ zs[j - 1]'(by omega) := by
    rcases Nat.lt_or_ge i (j - 1) with hlt | hge
    · exact List.pairwise_iff_getElem.1 h i (j - 1) (by omega) (by omega) hlt
    · have e : i = j - 1 := by omega
      subst e; exact Int.le_refl _
  omega

theorem compact_mem (zs : List Int) (z : Int) : z ∈ Lib.compact zs ↔ z ∈ zs := by
  unfold Lib.compact Lib.compactUpTo
  constructor
  · intro h
    obtain ⟨i, hi, e⟩ := List.mem_map.1 h
    have hil : i < zs.length := List.mem_range.1 (List.mem_filter.1 hi).1
    rw [← e]
    simp [hil]
  · intro h
    obtain ⟨i, hi, e⟩ := List.getElem_of_mem h
    have go : ∀ n i (hi : i < zs.length), i ≤ n → zs[i] = z → z ∈ ((List.range zs.length).filter (Lib.keeps zs.toArray)).map (zs.toArray[·]!) := by
      intro n
      induction n with
      | zero =>
        intro i hi hle e
        obtain rfl : i = 0 := by omega
        exact List.mem_map.2 ⟨0, List.mem_filter.2 ⟨List.mem_range.2 hi, by simp [Lib.keeps]⟩, by simp [hi, e]⟩
      | succ n ih =>
        intro i hi hle e
        by_cases hk : Lib.keeps zs.toArray i = true
        · exact List.mem_map.2 ⟨i, List.mem_filter.2 ⟨List.mem_range.2 hi, hk⟩, by simp [hi, e]⟩
        · have hk' : ¬ (i = 0 ∨ zs.toArray[i]! ≠ zs.toArray[i - 1]!) := by simpa [Lib.keeps] using hk
          have h0 : i ≠ 0 := fun h => hk' (.inl h)
          have h1 : zs.toArray[i]! = zs.toArray[i - 1]! := Classical.byContradiction fun h => hk' (.inr h)
          have e2 : zs.toArray[i - 1]! = zs[i - 1]'(by omega) := by simp [show i - 1 < zs.length by omega]
          have e1 : zs.toArray[i]! = zs[i] := by simp [hi]
          exact ih (i - 1) (by omega) (by omega) (by rw [← e2, ← h1, e1]; exact e)
    exact go i i hi (Nat.le_refl _) e

theorem sorted_le (zs : List Int) : (zs.mergeSort fun x y => decide (x ≤ y)).Pairwise (· ≤ ·) := by
  have := List.pairwise_mergeSort (le := fun x y : Int => decide (x ≤ y)) (by intro a b c h1 h2; simp at h1 h2 ⊢; omega) (by intro a b; simp; omega) zs
  exact this.imp (by intro a b h; simpa using h)

theorem simpZ_asc (zs : List Int) : Asc (simpZ zs) := compact_asc _ (sorted_le zs)
theorem simpZ_mem (zs : List Int) (z : Int) : z ∈ simpZ zs ↔ z ∈ zs := by
  unfold simpZ; rw [compact_mem, List.mem_mergeSort]

theorem simpZ_le (zs : List Int) : (simpZ zs).length ≤ zs.length := by
  unfold simpZ
  exact Nat.le_trans (Lib.compact_length_le _) (by rw [List.length_mergeSort]; exact Nat.le_refl _)

theorem put_asc {zs : List Int} {x : Int} {k n : Nat} (hl : zs.length = n) (hk : k ≤ n) (ha : Asc zs) (h1 : ∀ j, k ≤ j → j < n → x < zs[j]?.getD 0) (h2 : ∀ k', k = k' + 1 → zs[k']?.getD 0 < x) :
    Asc (zs.take k ++ [x] ++ zs.drop k) := by
  have hlow : ∀ y ∈ zs.take k, y < x := by
    intro y hy
    obtain ⟨i, hi, e⟩ := List.getElem_of_mem hy
    have hik : i < k := by simp at hi; omega
    have hil : i < zs.length := by omega
    have e' : zs[i] = y := by rw [← e]; simp
    obtain ⟨k', rfl⟩ : ∃ k', k = k' + 1 := ⟨k - 1, by omega⟩
    have h := h2 k' rfl
    have hkl : k' < zs.length := by omega
    simp [hkl] at h
    rcases Nat.lt_or_ge i k' with hlt | hge
    · have := List.pairwise_iff_getElem.1 ha i k' hil hkl hlt
      omega
    · have : i = k' := by omega
      subst this; omega
  have hhigh : ∀ y ∈ zs.drop k, x < y := by
    intro y hy
    obtain ⟨i, hi, e⟩ := List.getElem_of_mem hy
    have hil : k + i < zs.length := by simp at hi; omega
    have := h1 (k + i) (by omega) (by omega)
    simp [hil] at this
    rw [List.getElem_drop] at e
    omega
  have ht : Asc (zs.take k) := List.Pairwise.sublist (List.take_sublist _ _) ha
  have hd : Asc (zs.drop k) := List.Pairwise.sublist (List.drop_sublist _ _) ha
  unfold Asc
  rw [List.pairwise_append]
  refine ⟨?_, hd, ?_⟩
  · rw [List.pairwise_append]
    exact ⟨ht, by simp, fun a ha b hb => by
      have : b = x := by simpa using hb
      subst this; exact hlow a ha⟩
  · intro a ha b hb
    rcases List.mem_append.1 ha with ha | ha
    · have := hlow a ha
      have := hhigh b hb
      omega
    · have : a = x := by simpa using ha
      subst this; exact hhigh b hb

theorem put_mem {zs : List Int} {x : Int} (k : Nat) (z : Int) : z ∈ zs.take k ++ [x] ++ zs.drop k ↔ z ∈ zs ∨ z = x := by
  have h := List.take_append_drop k zs
  constructor
  · intro hz
    rcases List.mem_append.1 hz with hz | hz
    · rcases List.mem_append.1 hz with hz | hz
      · exact .inl (List.mem_of_mem_take hz)
      · exact .inr (by simpa using hz)
    · exact .inl (List.mem_of_mem_drop hz)
  · rintro (hz | hz)
    · rw [← h] at hz
      rcases List.mem_append.1 hz with hz | hz
      · simp [hz]
      · simp [hz]
    · simp [hz]

end Go.Proofs.Ytckbhhaigpajpaa

/- It is proved what allNames yields; conditions: those of each statement. -/
namespace Go.Proofs.Ytckbhhaigpajpaa
open Go.RowKit Go.Shelf

theorem full_nat (m : Nat) : fullI (m : Int) = ((2 ^ m - 1 : Nat) : Int) := by
  have h1 : 1 ≤ 2 ^ m := Nat.one_le_two_pow
  have : ((2 ^ m - 1 : Nat) : Int) = ((2 ^ m : Nat) : Int) - 1 := by omega
  rw [this]; simp [fullI]

end Go.Proofs.Ytckbhhaigpajpaa

/- It is proved what the operations on sets of at most eight members are in terms of their bits; conditions: those of each statement. -/
namespace Go.Proofs.Ytckbhhaigpajpaa
open Go.RowKit Go.Shelf

theorem and_at8 {x y : Nat} (hx : x < 256) (hy : y < 256) : bits .and .i64 (x : Int) (y : Int) = ((x &&& y : Nat) : Int) := (bits_nat .i64 8 (by decide) (fun n h0 h1 => by rw [IntKind.wrap_i64]; omega) x y hx hy).1
set_option maxRecDepth 100000 in
theorem has8_fin : ∀ x : Fin 256, ∀ p : Fin 8, (bits BinOp.and IntKind.i64 ((x.val : Int) / 2 ^ p.val) 1 == 1) = x.val.testBit p.val := by decide +kernel

end Go.Proofs.Ytckbhhaigpajpaa

/- It is proved what around returns for sets of at most eight members, and what ties a set; conditions: those of each statement. -/
namespace Go.Proofs.Ytckbhhaigpajpaa
open Go.RowKit Go.Shelf

attribute [local go_sem] Oper.semAt_some

theorem getD_mem {zs : List Int} {i : Nat} (h : i < zs.length) : zs[i]?.getD 0 ∈ zs := by
  rw [List.getElem?_eq_getElem h, Option.getD_some]; exact List.getElem_mem h

end Go.Proofs.Ytckbhhaigpajpaa

/- It is proved what least covers are, and that a list between the least covers and the covers has just them as its least sets; conditions: those of each statement. -/
namespace Go.Proofs.Ytckbhhaigpajpaa
open Go.RowKit

theorem p64 {m s : Nat} (hm : m ≤ 6) (hs : s < 2 ^ m) : s < 64 := Nat.lt_of_lt_of_le hs (Nat.pow_le_pow_right (n := 2) (by decide) hm)
end Go.Proofs.Ytckbhhaigpajpaa

/- It is proved what a loop over a function does where the function keeps its state in cells of its own and the body writes one block that lay ahead of the loop; conditions: those of each statement. -/
namespace Go
open Go.RowKit

/-- Whatever lies in a block that X does not name lies as it lay. -/
structure But (X : Nat → Prop) (W W' : World) : Prop where
  os : W'.os = W.os
  tape : W'.tape = W.tape
  output : W'.output = W.output
  size : W.heap.size ≤ W'.heap.size
  same : ∀ k, k < W.heap.size → ¬ X k → W'.heap[k]? = W.heap[k]?

theorem But.refl (X : Nat → Prop) (W : World) : But X W W := ⟨rfl, rfl, rfl, Nat.le_refl _, fun _ _ _ => rfl⟩
theorem But.trans {X : Nat → Prop} {A B C : World} (h : But X A B) (k : But X B C) : But X A C :=
  ⟨k.os.trans h.os, k.tape.trans h.tape, k.output.trans h.output, Nat.le_trans h.size k.size, fun i hi hX => (k.same i (Nat.lt_of_lt_of_le hi h.size) hX).trans (h.same i hi hX)⟩

theorem But.mono {X Y : Nat → Prop} {A B : World} (h : But X A B) (hXY : ∀ k, k < A.heap.size → X k → Y k) : But Y A B := ⟨h.os, h.tape, h.output, h.size, fun i hi hY => h.same i hi (fun e => hY (hXY _ hi e))⟩
theorem But.of_grownBy {X : Nat → Prop} {W W' : World} {row : Option Nat} (hg : W.grownBy W' row) (hr : ∀ r, row = some r → r < W.heap.size → X r) : But X W W' :=
  ⟨hg.os, hg.tape, hg.output, hg.size, fun k hk hX => hg.block k hk (fun e => hX (hr k e.symm hk))⟩

theorem But.putObj {X : Nat → Prop} (W : World) (l : Nat) (o : Obj) (hl : X l) : But X W (W.putObj l o) := But.of_grownBy (grownBy_putObj' W l o) (fun r e _ => by cases e; exact hl)
theorem But.alloc {X : Nat → Prop} (W : World) (o : Obj) : But X W (W.alloc o) := But.of_grownBy (World.grownBy_alloc W o none) (by simp)
theorem But.setCell {X : Nat → Prop} (W : World) (b i : Nat) (v : Value) (hb : b < W.heap.size → X b) : But X W (W.setCell ⟨b, i, none⟩ v) :=
  ⟨rfl, rfl, rfl, by simp, fun k hk hX => Below.heap_setCell W ⟨b, i, none⟩ v k (fun e => hX (by subst e; exact hb hk))⟩

theorem But.drew {X : Nat → Prop} (W : World) : But X W W.drew := ⟨rfl, rfl, rfl, Nat.le_refl _, fun _ _ _ => rfl⟩
theorem But.keep {X : Nat → Prop} {W W' : World} {k : Nat} {o : Obj} (h : But X W W') (hX : ¬ X k) (hk : W.heap[k]? = some o) : W'.heap[k]? = some o := (h.same k (Array.getElem?_eq_some_iff.1 hk).1 hX).trans hk
theorem But.below {X : Nat → Prop} {W W' : World} {B : Nat} (h : But X W W') (hB : B ≤ W.heap.size) (hX : ∀ k, X k → B ≤ k) : Below B W W' :=
  ⟨h.os, h.tape, h.output, h.size, fun k hk => h.same k (Nat.lt_of_lt_of_le hk hB) (fun e => by have := hX k e; omega)⟩

theorem But.from {X : Nat → Prop} {W W' : World} {B : Nat} (h : But X W W') (hX : ∀ k o, B ≤ k → W.heap[k]? = some o → X k → o.isCells = true) : KeepsFrom B W W' :=
  ⟨h.size, fun k o hB hk ho => h.keep (fun e => by rw [hX k o hB hk e] at ho; cases ho) hk⟩

theorem But.of_below {X : Nat → Prop} {W W' : World} (h : Below W.heap.size W W') : But X W W' := ⟨h.os, h.tape, h.output, h.size, fun k hk _ => h.block k hk⟩
end Go
