/- It is proved what a loop over a function does where the function keeps its state in cells of its own and the body writes a variable's block and ints of its own; conditions: those of each statement. -/
import Derived.RangeFuncNested
import Derived.RangeFuncBound
import Derived.RangeFuncCalls
import Derived.RangeFuncLeaves
import Derived.RangeFuncBox
import Derived.RangeFuncWrites
import Derived.Test.YtacglafoahmcnaaDoorRaal
import Derived.RowKit
import Derived.Laws.CopyRow
import Derived.Lib.SlBuf
import Derived.Deep.QuietTactic
import Derived.StillTailTactics
import Derived.Maps.OwnIn
import Derived.Maps.Ext
import Derived.DeepKeys4
import Derived.MapKept
import Derived.Test.YtacglafoahmcnaaDoorRows
import Derived.WalkKit
import Derived.WalkSpells
import Derived.ProofKit
import Derived.OpenShut
import Derived.ShutString
import Derived.ChangeOld
import Derived.Below
import Derived.Deep.RegionHeld3
import Derived.BigQuiet
import Derived.Lib.Hide
import Derived.Lib.SmallJoins
import Derived.Outline
import Derived.Laws.MakeOwn
import Derived.Laws.OwnMore
import Derived.IntWalk
import Derived.Lib.AppendZeros
import Derived.Maps.AppendAt
import Derived.Deep.AppendLies
import Derived.OwnWalk
import Derived.Lib.SlicesCompact
import Derived.Lib.OwnBridge
import Derived.OrdersIn
import Derived.TacticsIn
import Derived.Shelf.Sort.Plain
import Derived.Shelf.Slices.In.SortNone
import Derived.Shelf.Slices.CompactI
import Derived.Ground.Names2Prog
import Derived.Lib.SliceRun
import Derived.Shelf.Abstract
import Derived.Shelf.RegionOpen
import Derived.OwnWalkIn
import Derived.TacticsInMore
import Derived.LoopNIn
import Derived.LoopIn
import Derived.StillTail
import Derived.StillTactics
import Derived.Shelf.Spec.TrailingZeros
import Derived.Test.YtacglafoahmcnaaDoorRaaa
import Derived.Test.YtacglafoahmcnaaDoorRaac
import Derived.Test.YtacglafoahmcnaaDoorRaag
import Derived.Test.YtacglafoahmcnaaDoorRaad
import Derived.Test.YtacglafoahmcnaaDoorRaai
import Derived.Test.YtacglafoahmcnaaDoorRaab
import Derived.Test.YtacglafoahmcnaaDoorTb
namespace Go
open Go.RowKit

/-- What a round may turn: the loop's record, a variable's block D, and ints from lo on. -/
structure ButF (lo D l : Nat) (A B : World) : Prop where
  os : B.os = A.os
  tape : B.tape = A.tape
  output : B.output = A.output
  size : A.heap.size ≤ B.heap.size
  same : ∀ k, k < A.heap.size → k ≠ l → k ≠ D → (lo ≤ k → ∀ cs z, A.heap[k]? ≠ some (.cells cs 3 z)) → B.heap[k]? = A.heap[k]?

theorem ButF.refl (lo D l : Nat) (W : World) : ButF lo D l W W := ⟨rfl, rfl, rfl, Nat.le_refl _, fun _ _ _ _ _ => rfl⟩
theorem ButF.trans {lo D l : Nat} {A B C : World} (h : ButF lo D l A B) (k : ButF lo D l B C) : ButF lo D l A C :=
  ⟨k.os.trans h.os, k.tape.trans h.tape, k.output.trans h.output, Nat.le_trans h.size k.size, fun i hi hl hD hn => by
    have h1 := h.same i hi hl hD hn
    exact (k.same i (Nat.lt_of_lt_of_le hi h.size) hl hD (fun hlo cs z => by rw [h1]; exact hn hlo cs z)).trans h1⟩

theorem ButF.of_but {lo D l : Nat} {X : Nat → Prop} {A B : World} (h : But X A B) (hX : ∀ k, X k → k = l ∨ k = D) : ButF lo D l A B :=
  ⟨h.os, h.tape, h.output, h.size, fun k hk h1 h2 _ => h.same k hk (fun e => (hX k e).elim h1 h2)⟩

theorem ButF.of_below {lo D l : Nat} {A B : World} (h : Below A.heap.size A B) : ButF lo D l A B := ⟨h.os, h.tape, h.output, h.size, fun k hk _ _ _ => h.block k hk⟩
theorem ButF.drew {lo D l : Nat} (W : World) : ButF lo D l W W.drew := ⟨rfl, rfl, rfl, Nat.le_refl _, fun _ _ _ _ _ => rfl⟩
theorem ButF.to {lo D l : Nat} {A B : World} (h : ButF lo D D A B) : ButF lo D l A B := ⟨h.os, h.tape, h.output, h.size, fun k hk _ h2 h3 => h.same k hk h2 h2 h3⟩
theorem ButF.below {lo D l : Nat} {A B : World} (h : ButF lo D l A B) (hlo : lo ≤ A.heap.size) (hD : lo ≤ D) (hl : lo ≤ l) : Below lo A B :=
  ⟨h.os, h.tape, h.output, h.size, fun k hk => h.same k (by omega) (by omega) (by omega) (fun e => by omega)⟩

theorem ButF.keep {lo D l k : Nat} {A B : World} {o : Obj} (h : ButF lo D l A B) (hk : A.heap[k]? = some o) (h1 : k ≠ l) (h2 : k ≠ D) (h3 : lo ≤ k → ∀ cs z, o ≠ .cells cs 3 z) : B.heap[k]? = some o :=
  (h.same k (Array.getElem?_eq_some_iff.1 hk).1 h1 h2 (fun hlo cs z e => h3 hlo cs z (by rw [hk] at e; exact Option.some.inj e))).trans hk

theorem ButF.from {lo D l B : Nat} {W W' : World} (h : ButF lo D l W W') (hD : D < B) (hl : l < B) : KeepsFrom B W W' :=
  ⟨h.size, fun k o hB hk ho => h.keep hk (by omega) (by omega) (fun _ cs z e => by subst e; cases ho)⟩

/-- Behind an append of ints and the store back into the variable's block. -/
theorem ButF.append {lo D : Nat} {W w1 : World} {v v' : Value} {k : Nat} {xs : List Value} {tmp : Obj} (i : Nat) (hr : W.ownsRow lo 3 1 v k xs) (hgrow : (W.alloc tmp).grownBy w1 v.ownBlock) : ButF lo D D W (w1.setCell ⟨D, i, none⟩ v') := by
  have hs : (W.alloc tmp).heap.size = W.heap.size + 1 := by simp
  refine ⟨hgrow.os, hgrow.tape, hgrow.output, by have := hgrow.size; simp only [World.size_setCell]; omega, fun j hj _ hD hn => ?_⟩
  rw [Below.heap_setCell w1 ⟨D, i, none⟩ v' j hD, hgrow.block j (by omega) (fun e => ?_), Below.heap_alloc W tmp j hj]
  rcases hr.2 with ⟨rfl, _⟩ | ⟨g, cap, cur, rfl, hb, hg, _⟩
  · simp [Value.ownBlock] at e
  · obtain rfl : j = g := by simpa [Value.ownBlock] using e
    exact hn hb _ _ hg

/-- What abides whatever is done to blocks from B on that are no ints. -/
def OwnF {β : Type} (B : Nat) (J : β → World → Prop) : Prop := ∀ s A C row, J s A → A.grownBy C row → (∀ r, row = some r → B ≤ r ∧ ∀ cs z, A.heap[r]? ≠ some (.cells cs 3 z)) → J s C

theorem OwnF.from {β : Type} {B : Nat} {J : β → World → Prop} (h : OwnF B J) {B' : Nat} (hB : B ≤ B') : OwnFrom B' J := fun s A C row hs hg hr => h s A C row hs hg (fun r e => by
  obtain ⟨h1, o, h2, h3⟩ := hr r e
  exact ⟨by omega, fun cs z e2 => by rw [h2] at e2; cases e2; cases h3⟩)

theorem OwnF.and {β : Type} {B : Nat} {I J : β → World → Prop} (h : OwnF B I) (k : OwnF B J) : OwnF B (fun s W => I s W ∧ J s W) := fun s A C row hs hg hr => ⟨h s A C row hs.1 hg hr, k s A C row hs.2 hg hr⟩
theorem OwnF.alloc {β : Type} {B : Nat} {J : β → World → Prop} (h : OwnF B J) {s : β} {W : World} (o : Obj) (hs : J s W) : J s (W.alloc o) := h _ _ _ none hs (World.grownBy_alloc _ _ _) (by simp)
theorem OwnF.step {β : Type} {B : Nat} {J : β → World → Prop} (h : OwnF B J) {s : β} {W W' : World} (hb : Below W.heap.size W W') (hs : J s W) : J s W' :=
  h _ _ _ none hs ⟨hb.os, hb.tape, hb.output, hb.size, fun k hk _ => hb.block k hk⟩ (by simp)

end Go

/- It is proved what missedBy and coveredBy return, and how a family in a captured variable grows; conditions: those of each statement. -/
namespace Go.Proofs.YtacglafoahmcnaaDoor
open Go.RowKit Go.Shelf

attribute [local go_sem] Oper.semAt_some

/-- A family in a captured variable, its clubs in memory of the call's own. -/
def FamBox (D lo : Nat) (m : Int) (zs : List Int) (W : World) : Prop := ∃ v, HasBlk W D #[.int .i64 m, v] 25 ∧ W.ownsRow lo 3 1 v zs.length (zs.map (Value.int .i64))

theorem hasBlk_not_row {W : World} {B : Nat} {t e : TypeId} {cs : Array Value} (h : HasBlk W B cs t) (hte : t ≠ e) {base size k : Nat} {v : Value} {xs : List Value} (hr : W.ownsRow base e size v k xs) : some B ≠ v.ownBlock := by
  rcases hr.2 with ⟨rfl, _⟩ | ⟨g, cap, cur, rfl, _, hgb, _⟩
  · simp [Value.ownBlock]
  · intro e'
    obtain rfl : B = g := by simpa [Value.ownBlock] using e'
    have := (show W.heap[B]? = _ from h).symm.trans hgb
    simp at this
    exact hte this.2

theorem fam_ne : (25 : TypeId) ≠ 3 := by decide
theorem FamBox.own {β : Type} (D lo : Nat) (m : Int) (f : β → List Int) : Own (fun s W => FamBox D lo m (f s) W) := by
  rintro s X Y row ⟨v, hv, hr⟩ hg hrow
  refine ⟨v, hv.kept hg (fun e' => ?_), hr.kept hg ?_⟩
  · obtain ⟨o, ho, hc⟩ := hrow D e'
    rw [show X.heap[D]? = _ from hv] at ho; cases ho; cases hc
  · rcases hr.2 with ⟨rfl, _⟩ | ⟨g, cap, cur, rfl, _, hgb, _⟩
    · exact .inl rfl
    · refine .inr fun e' => ?_
      obtain ⟨o, ho, hc⟩ := hrow g (by simpa [Value.ownBlock] using e'.symm)
      rw [hgb] at ho; cases ho; cases hc

theorem set2_1 (m v v' : Value) : (#[m, v] : Array Value).setIfInBounds 1 v' = #[m, v'] := rfl
theorem FamBox.set {W : World} {D lo : Nat} {m : Int} {zs : List Int} {v v' : Value} (h : HasBlk W D #[.int .i64 m, v] 25) (hr : W.ownsRow lo 3 1 v' zs.length (zs.map (Value.int .i64))) : FamBox D lo m zs (W.setCell ⟨D, 1, none⟩ v') := by
  refine ⟨v', ?_, ?_⟩
  · have := heap_setCell_same W D 1 #[.int .i64 m, v] 25 v' h
    rw [set2_1] at this
    exact this
  · exact ownsRow_setCell_ne hr (by exact (hasBlk_not_row h fam_ne hr).symm) v'

/-- What a store back of a longer list leaves. -/
theorem FamBox.appended {W w1 : World} {D lo : Nat} {m : Int} {zs : List Int} {x : Int} {v v' : Value} {tmp : Obj} (hv : HasBlk W D #[.int .i64 m, v] 25) (hr : W.ownsRow lo 3 1 v zs.length (zs.map (Value.int .i64))) (hlo : lo ≤ W.heap.size) (hD : lo ≤ D)
    (hown : w1.ownsRow lo 3 1 v' (zs.length + 1) (zs.map (Value.int .i64) ++ [.int .i64 x])) (hgrow : (W.alloc tmp).grownBy w1 v.ownBlock) :
    HasBlk w1 D #[.int .i64 m, v] 25 ∧ FamBox D lo m (zs ++ [x]) (w1.setCell ⟨D, 1, none⟩ v') ∧ KeepsOthers W (w1.setCell ⟨D, 1, none⟩ v') ∧ Below lo W (w1.setCell ⟨D, 1, none⟩ v') := by
  have hv1 : HasBlk w1 D #[.int .i64 m, v] 25 := (hv.alloc tmp).kept hgrow (hasBlk_not_row hv fam_ne hr).symm
  refine ⟨hv1, FamBox.set hv1 (by rw [List.length_append, List.map_append]; exact hown), ?_, ?_⟩
  · refine ((KeepsOthers.alloc W tmp).trans (KeepsOthers.of_grownBy hgrow fun j o ej hj => ?_)).trans (KeepsOthers.setCell _ _ _)
    rcases (hr.alloc tmp).2 with ⟨rfl, _⟩ | ⟨g, cap, cur, rfl, _, hgb, _⟩
    · simp [Value.ownBlock] at ej
    · obtain rfl : g = j := by simpa [Value.ownBlock] using ej
      rw [hgb] at hj; cases hj; rfl
  · refine (((Below.refl lo W).alloc hlo tmp).grown hgrow (by simp; omega) fun j ej => ?_).setCell (p := ⟨D, 1, none⟩) hD v'
    rcases hr.2 with ⟨rfl, _⟩ | ⟨g, cap, cur, rfl, hb, _, _⟩
    · simp [Value.ownBlock] at ej
    · obtain rfl : g = j := by simpa [Value.ownBlock] using ej
      exact hb

theorem FamBox.alloc {W : World} {D lo : Nat} {m : Int} {zs : List Int} (h : FamBox D lo m zs W) (o : Obj) : FamBox D lo m zs (W.alloc o) := by
  obtain ⟨v, h1, h2⟩ := h
  exact ⟨v, h1.alloc o, h2.alloc o⟩

theorem FamBox.below {W W' : World} {D lo : Nat} {m : Int} {zs : List Int} (h : FamBox D lo m zs W) (hb : Below W.heap.size W W') : FamBox D lo m zs W' := by
  obtain ⟨v, h1, h2⟩ := h
  exact ⟨v, (hb.block _ (lt_of_some h1)).trans h1, ownsRow_below h2 hb⟩

/-- A new family in a captured variable, without clubs. -/
theorem FamBox.start (W : World) (lo : Nat) (m : Int) : FamBox W.heap.size lo m [] (W.alloc (.cells #[.int .i64 m, .slice none 0 0] 25)) :=
  ⟨_, alloc_new W _, World.ownsRow_nil _ _ _ _⟩

theorem obj_ne {cs cs' : Array Value} {t : TypeId} {z z' : Nat × Nat} (h : t ≠ 3) : Obj.cells cs t z ≠ Obj.cells cs' 3 z' := fun e => by injection e with _ e; exact h e
theorem HasBlk.butF {lo D l b : Nat} {A B : World} {cs : Array Value} {t : TypeId} (h : HasBlk A b cs t) (hb : ButF lo D l A B) (h1 : b ≠ l) (h2 : b ≠ D) (h3 : t ≠ 3) : HasBlk B b cs t := hb.keep h h1 h2 (fun _ _ _ => obj_ne h3)
theorem club_ne3 : (50 : TypeId) ≠ 3 := by decide
/-- The clubs that have no member in a set. -/
def missL (zs : List Int) (s : Nat) : List Int := zs.filter fun z => z.toNat &&& s == 0

theorem missL_snoc (zs : List Int) (z : Int) (s : Nat) : missL (zs ++ [z]) s = missL zs s ++ if z.toNat &&& s = 0 then [z] else [] := by
  rw [missL, List.filter_append]
  by_cases h : z.toNat &&& s = 0 <;> simp [missL, h]

theorem missL_len (zs : List Int) (s : Nat) : (missL zs s).length ≤ zs.length := List.length_filter_le _ _
theorem missL_cov (zs : List Int) (s : Nat) : ((missL zs s).length == 0) = covB zs s := by
  rw [Bool.eq_iff_iff, beq_iff_eq, List.length_eq_zero_iff, missL, List.filter_eq_nil_iff, covB_iff]
  simp

/-- Clubs are sets of m members, whatever their number. -/
def Sets (m : Nat) (zs : List Int) : Prop := ∀ z ∈ zs, 0 ≤ z ∧ z.toNat < 2 ^ m

def IsSet (m : Nat) (p : Nat × Int) : Prop := 0 ≤ p.2 ∧ p.2.toNat < 2 ^ m
theorem Sets.at_ {m : Nat} {zs : List Int} (h : Sets m zs) : ∀ k, k < zs.length → IsSet m (k, zs[k]?.getD 0) := fun k hk => by
  rw [List.getElem?_eq_getElem hk]
  exact h _ (List.getElem_mem hk)

theorem sets_of_fam {m : Nat} {zs : List Int} (h : famIn (m : Int) zs = true) : Sets m zs := fun z hz => by
  obtain ⟨h1, h2, -, h4⟩ := famIn_out h
  have := h4 z hz
  unfold fullI at this
  rw [Int.toNat_natCast] at this
  have e : (2 : Int) ^ m = ((2 ^ m : Nat) : Int) := by norm_cast
  omega

def sndL {m : Nat} (ys : List { p // IsSet m p }) : List Int := ys.map (·.1.2)
theorem sndL_snoc {m : Nat} (ys : List { p // IsSet m p }) (y : { p // IsSet m p }) : sndL (ys ++ [y]) = sndL ys ++ [y.1.2] := by simp [sndL]
theorem sndL_all {m : Nat} {zs : List Int} {ys : List { p // IsSet m p }} (h : ys.map (·.1) = pairs zs zs.length) : sndL ys = zs := by
  have := congrArg (List.map (·.2)) h
  rw [pairs_all, List.map_map] at this
  exact this

theorem sndL_len {m : Nat} (ys : List { p // IsSet m p }) : (sndL ys).length = ys.length := by simp [sndL]
end Go.Proofs.YtacglafoahmcnaaDoor
