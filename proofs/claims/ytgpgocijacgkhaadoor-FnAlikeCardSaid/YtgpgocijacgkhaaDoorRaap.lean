/- It is proved what a loop over a function does where the function keeps its state in cells of its own and the body writes a variable's block and ints of its own; conditions: those of each statement. -/
import Derived.RangeFuncNested
import Derived.RangeFuncBound
import Derived.RangeFuncCalls
import Derived.RangeFuncLeaves
import Derived.RangeFuncBox
import Derived.RangeFuncWrites
import Derived.Test.YtgpgocijacgkhaaDoorRaao
import Derived.RowKit
import Derived.Laws.CopyRow
import Derived.Lib.SlBuf
import Derived.Deep.QuietTactic
import Derived.StillTailTactics
import Derived.Maps.OwnIn
import Derived.Maps.Ext
import Derived.DeepKeys4
import Derived.MapKept
import Derived.Test.YtgpgocijacgkhaaDoorRows
import Derived.WalkKit
import Derived.WalkSpells
import Derived.ProofKit
import Derived.OpenShut
import Derived.ShutString
import Derived.ChangeOld
import Derived.Below
import Derived.Deep.RegionHeld3
import Derived.BigQuiet
import Derived.Lib.Hide
import Derived.Lib.SmallJoins
import Derived.Outline
import Derived.Laws.MakeOwn
import Derived.Laws.OwnMore
import Derived.IntWalk
import Derived.Lib.AppendZeros
import Derived.Maps.AppendAt
import Derived.Deep.AppendLies
import Derived.OwnWalk
import Derived.Lib.SlicesCompact
import Derived.Lib.OwnBridge
import Derived.OrdersIn
import Derived.TacticsIn
import Derived.Shelf.Sort.Plain
import Derived.Shelf.Slices.In.SortNone
import Derived.Shelf.Slices.CompactI
import Derived.Ground.Names2Prog
import Derived.Lib.SliceRun
import Derived.Shelf.Abstract
import Derived.Shelf.RegionOpen
import Derived.OwnWalkIn
import Derived.TacticsInMore
import Derived.LoopNIn
import Derived.LoopIn
import Derived.StillTail
import Derived.StillTactics
import Derived.Shelf.Spec.TrailingZeros
import Derived.Test.YtgpgocijacgkhaaDoorRaab
import Derived.Test.YtgpgocijacgkhaaDoorRaac
import Derived.Test.YtgpgocijacgkhaaDoorRaaa
import Derived.Test.YtgpgocijacgkhaaDoorTb
import Derived.Test.YtgpgocijacgkhaaDoorRaae
namespace Go
open Go.RowKit

/-- What a round may turn: the loop's record, a variable's block D, and ints from lo on. -/
structure ButF (lo D l : Nat) (A B : World) : Prop where
  os : B.os = A.os
  tape : B.tape = A.tape
  output : B.output = A.output
  size : A.heap.size ≤ B.heap.size
  same : ∀ k, k < A.heap.size → k ≠ l → k ≠ D → (lo ≤ k → ∀ cs z, A.heap[k]? ≠ some (.cells cs 3 z)) → B.heap[k]? = A.heap[k]?

theorem ButF.refl (lo D l : Nat) (W : World) : ButF lo D l W W := ⟨rfl, rfl, rfl, Nat.le_refl _, fun _ _ _ _ _ => rfl⟩
theorem ButF.trans {lo D l : Nat} {A B C : World} (h : ButF lo D l A B) (k : ButF lo D l B C) : ButF lo D l A C :=
  ⟨k.os.trans h.os, k.tape.trans h.tape, k.output.trans h.output, Nat.le_trans h.size k.size, fun i hi hl hD hn => by
    have h1 := h.same i hi hl hD hn
    exact (k.same i (Nat.lt_of_lt_of_le hi h.size) hl hD (fun hlo cs z => by rw [h1]; exact hn hlo cs z)).trans h1⟩

theorem ButF.of_but {lo D l : Nat} {X : Nat → Prop} {A B : World} (h : But X A B) (hX : ∀ k, X k → k = l ∨ k = D) : ButF lo D l A B :=
  ⟨h.os, h.tape, h.output, h.size, fun k hk h1 h2 _ => h.same k hk (fun e => (hX k e).elim h1 h2)⟩

theorem ButF.of_below {lo D l : Nat} {A B : World} (h : Below A.heap.size A B) : ButF lo D l A B := ⟨h.os, h.tape, h.output, h.size, fun k hk _ _ _ => h.block k hk⟩
theorem ButF.drew {lo D l : Nat} (W : World) : ButF lo D l W W.drew := ⟨rfl, rfl, rfl, Nat.le_refl _, fun _ _ _ _ _ => rfl⟩
theorem ButF.to {lo D l : Nat} {A B : World} (h : ButF lo D D A B) : ButF lo D l A B := ⟨h.os, h.tape, h.output, h.size, fun k hk _ h2 h3 => h.same k hk h2 h2 h3⟩
theorem ButF.below {lo D l : Nat} {A B : World} (h : ButF lo D l A B) (hlo : lo ≤ A.heap.size) (hD : lo ≤ D) (hl : lo ≤ l) : Below lo A B :=
  ⟨h.os, h.tape, h.output, h.size, fun k hk => h.same k (by omega) (by omega) (by omega) (fun e => by omega)⟩

theorem ButF.keep {lo D l k : Nat} {A B : World} {o : Obj} (h : ButF lo D l A B) (hk : A.heap[k]? = some o) (h1 : k ≠ l) (h2 : k ≠ D) (h3 : lo ≤ k → ∀ cs z, o ≠ .cells cs 3 z) : B.heap[k]? = some o :=
  (h.same k (Array.getElem?_eq_some_iff.1 hk).1 h1 h2 (fun hlo cs z e => h3 hlo cs z (by rw [hk] at e; exact Option.some.inj e))).trans hk

theorem ButF.from {lo D l B : Nat} {W W' : World} (h : ButF lo D l W W') (hD : D < B) (hl : l < B) : KeepsFrom B W W' :=
  ⟨h.size, fun k o hB hk ho => h.keep hk (by omega) (by omega) (fun _ cs z e => by subst e; cases ho)⟩

/-- Behind an append of ints and the store back into the variable's block. -/
theorem ButF.append {lo D : Nat} {W w1 : World} {v v' : Value} {k : Nat} {xs : List Value} {tmp : Obj} (i : Nat) (hr : W.ownsRow lo 3 1 v k xs) (hgrow : (W.alloc tmp).grownBy w1 v.ownBlock) : ButF lo D D W (w1.setCell ⟨D, i, none⟩ v') := by
  have hs : (W.alloc tmp).heap.size = W.heap.size + 1 := by simp
  refine ⟨hgrow.os, hgrow.tape, hgrow.output, by have := hgrow.size; simp only [World.size_setCell]; omega, fun j hj _ hD hn => ?_⟩
  rw [Below.heap_setCell w1 ⟨D, i, none⟩ v' j hD, hgrow.block j (by omega) (fun e => ?_), Below.heap_alloc W tmp j hj]
  rcases hr.2 with ⟨rfl, _⟩ | ⟨g, cap, cur, rfl, hb, hg, _⟩
  · simp [Value.ownBlock] at e
  · obtain rfl : j = g := by simpa [Value.ownBlock] using e
    exact hn hb _ _ hg

/-- What abides whatever is done to blocks from B on that are no ints. -/
def OwnF {β : Type} (B : Nat) (J : β → World → Prop) : Prop := ∀ s A C row, J s A → A.grownBy C row → (∀ r, row = some r → B ≤ r ∧ ∀ cs z, A.heap[r]? ≠ some (.cells cs 3 z)) → J s C

theorem OwnF.from {β : Type} {B : Nat} {J : β → World → Prop} (h : OwnF B J) {B' : Nat} (hB : B ≤ B') : OwnFrom B' J := fun s A C row hs hg hr => h s A C row hs hg (fun r e => by
  obtain ⟨h1, o, h2, h3⟩ := hr r e
  exact ⟨by omega, fun cs z e2 => by rw [h2] at e2; cases e2; cases h3⟩)

theorem OwnF.and {β : Type} {B : Nat} {I J : β → World → Prop} (h : OwnF B I) (k : OwnF B J) : OwnF B (fun s W => I s W ∧ J s W) := fun s A C row hs hg hr => ⟨h s A C row hs.1 hg hr, k s A C row hs.2 hg hr⟩
theorem OwnF.alloc {β : Type} {B : Nat} {J : β → World → Prop} (h : OwnF B J) {s : β} {W : World} (o : Obj) (hs : J s W) : J s (W.alloc o) := h _ _ _ none hs (World.grownBy_alloc _ _ _) (by simp)
theorem OwnF.step {β : Type} {B : Nat} {J : β → World → Prop} (h : OwnF B J) {s : β} {W W' : World} (hb : Below W.heap.size W W') (hs : J s W) : J s W' :=
  h _ _ _ none hs ⟨hb.os, hb.tape, hb.output, hb.size, fun k hk _ => hb.block k hk⟩ (by simp)

end Go

/- It is proved what missedBy and coveredBy return, and how a family in a captured variable grows; conditions: those of each statement. -/
namespace Go.Proofs.YtgpgocijacgkhaaDoor
open Go.RowKit Go.Shelf

attribute [local go_sem] Oper.semAt_some

theorem obj_ne {cs cs' : Array Value} {t : TypeId} {z z' : Nat × Nat} (h : t ≠ 3) : Obj.cells cs t z ≠ Obj.cells cs' 3 z' := fun e => by injection e with _ e; exact h e
theorem HasBlk.butF {lo D l b : Nat} {A B : World} {cs : Array Value} {t : TypeId} (h : HasBlk A b cs t) (hb : ButF lo D l A B) (h1 : b ≠ l) (h2 : b ≠ D) (h3 : t ≠ 3) : HasBlk B b cs t := hb.keep h h1 h2 (fun _ _ _ => obj_ne h3)
/-- Clubs are sets of m members, whatever their number. -/
def Sets (m : Nat) (zs : List Int) : Prop := ∀ z ∈ zs, 0 ≤ z ∧ z.toNat < 2 ^ m

def IsSet (m : Nat) (p : Nat × Int) : Prop := 0 ≤ p.2 ∧ p.2.toNat < 2 ^ m
theorem Sets.at_ {m : Nat} {zs : List Int} (h : Sets m zs) : ∀ k, k < zs.length → IsSet m (k, zs[k]?.getD 0) := fun k hk => by
  rw [List.getElem?_eq_getElem hk]
  exact h _ (List.getElem_mem hk)

theorem sets_of_fam {m : Nat} {zs : List Int} (h : famIn (m : Int) zs = true) : Sets m zs := fun z hz => by
  obtain ⟨h1, h2, -, h4⟩ := famIn_out h
  have := h4 z hz
  unfold fullI at this
  rw [Int.toNat_natCast] at this
  have e : (2 : Int) ^ m = ((2 ^ m : Nat) : Int) := by norm_cast
  omega

def sndL {m : Nat} (ys : List { p // IsSet m p }) : List Int := ys.map (·.1.2)
theorem sndL_snoc {m : Nat} (ys : List { p // IsSet m p }) (y : { p // IsSet m p }) : sndL (ys ++ [y]) = sndL ys ++ [y.1.2] := by simp [sndL]
theorem sndL_all {m : Nat} {zs : List Int} {ys : List { p // IsSet m p }} (h : ys.map (·.1) = pairs zs zs.length) : sndL ys = zs := by
  have := congrArg (List.map (·.2)) h
  rw [pairs_all, List.map_map] at this
  exact this

end Go.Proofs.YtgpgocijacgkhaaDoor

/- It is proved what a round of reducing does to a list of sets; conditions: those of each statement. -/
namespace Go.Proofs.YtgpgocijacgkhaaDoor
open Go.RowKit

theorem bt_lt {m v : Nat} {z : Int} (h : z.toNat < 2 ^ m) (hb : Bt v z = true) : v < m := by
  by_cases e : v < m
  · exact e
  · unfold Bt at hb
    rw [Nat.testBit_lt_two_pow (Nat.lt_of_lt_of_le h (Nat.pow_le_pow_right (by decide) (by omega)))] at hb
    cases hb

end Go.Proofs.YtgpgocijacgkhaaDoor

/- It is proved that members that may leave first may leave later, too, so that the first choice needs no way back; conditions: those of each statement. -/
namespace Go.Proofs.YtgpgocijacgkhaaDoor
open Go.RowKit

/-- All members of the clubs with a member. -/
def arN (v : Nat) (zs : List Int) : Nat := (zs.filter (Bt v)).foldl (fun t z => t ||| z.toNat) 0

theorem arN_snoc (v : Nat) (zs : List Int) (z : Int) : arN v (zs ++ [z]) = if Bt v z = true then arN v zs ||| z.toNat else arN v zs := by
  unfold arN
  rw [List.filter_append]
  cases h : Bt v z <;> simp [h]

theorem fold_bit (i : Nat) : ∀ (l : List Int) (t : Nat), (l.foldl (fun t z => t ||| z.toNat) t).testBit i = (t.testBit i || l.any (Bt i))
  | [], t => by simp
  | z :: l, t => by rw [List.foldl_cons, fold_bit i l, Nat.testBit_or, List.any_cons, Bool.or_assoc]; rfl

theorem arN_bit (v : Nat) (zs : List Int) (i : Nat) : (arN v zs).testBit i = true ↔ ∃ z ∈ zs, Bt v z = true ∧ Bt i z = true := by
  unfold arN
  rw [fold_bit, Nat.zero_testBit, Bool.false_or, List.any_eq_true]
  constructor
  · rintro ⟨z, hz, hb⟩
    obtain ⟨h1, h2⟩ := List.mem_filter.1 hz
    exact ⟨z, h1, h2, hb⟩
  · rintro ⟨z, h1, h2, hb⟩
    exact ⟨z, List.mem_filter.2 ⟨h1, h2⟩, hb⟩

theorem arN_lt {m v : Nat} {zs : List Int} (hS : Sets m zs) : arN v zs < 2 ^ m := by
  apply Nat.lt_pow_two_of_testBit
  intro i hi
  cases hb : (arN v zs).testBit i
  · rfl
  · obtain ⟨z, hz, _, h2⟩ := (arN_bit v zs i).1 hb
    have := bt_lt (hS z hz).2 h2
    omega

end Go.Proofs.YtgpgocijacgkhaaDoor
