/- It is proved how rows of ints of the call's own are read and kept; conditions: those of each statement. -/
import Derived.Test.YtfhhfilkabjhaaaRows
import Derived.WalkKit
import Derived.WalkSpells
import Derived.ProofKit
import Derived.OpenShut
import Derived.ShutString
import Derived.ChangeOld
import Derived.Below
import Derived.Deep.RegionHeld3
import Derived.Deep.QuietTactic
import Derived.BigQuiet
import Derived.Lib.Hide
import Derived.Lib.SmallJoins
import Derived.Outline
import Derived.Laws.MakeOwn
import Derived.Laws.OwnMore
import Derived.IntWalk
import Derived.RangeFuncNested
import Derived.RangeFuncBound
import Derived.RangeFuncCalls
import Derived.RangeFuncLeaves
import Derived.RangeFuncBox
import Derived.Shelf.Abstract
import Derived.Shelf.RegionOpen
import Derived.OwnWalkIn
import Derived.TacticsInMore
import Derived.LoopNIn
import Derived.LoopIn
import Derived.Maps.AppendAt
import Derived.Deep.AppendLies
import Derived.Test.YtfhhfilkabjhaaaRhaa
import Derived.Test.YtfhhfilkabjhaaaRhai
import Derived.Test.YtfhhfilkabjhaaaRhac
import Derived.StillTail
import Derived.StillTactics
import Derived.OrdersIn
import Derived.TacticsIn
import Derived.Shelf.Spec.TrailingZeros
import Derived.OwnWalk
import Derived.StillTailTactics
import Derived.Test.YtfhhfilkabjhaaaRhab
import Derived.Deep.DeepCutAuto
import Derived.Deep.RegionLaw
import Derived.Deep.RegionWith
import Derived.Lib.AppendZeros
namespace Go.Proofs.Ytfhhfilkabjhaaa
open Go.RowKit Go.Shelf

theorem ownsRow_below {w w' : World} {B n : Nat} {v : Value} {xs : List Value} (h : w.ownsRow B 3 1 v n xs) (hb : Below w.heap.size w w') : w'.ownsRow B 3 1 v n xs :=
  World.ownsRow.kept h (only_of_below hb none) (by cases v.ownBlock <;> simp)

theorem OwnN.cap_le {w : World} {B : Nat} {a : Option Addr} {n cap : Nat} {zs : List Int} (h : OwnN w B a n cap zs) : n ≤ cap := by
  rcases h.2 with ⟨e, hn⟩ | ⟨g, c, cur, e, hb, hg, hc, _⟩
  · omega
  · injection e with e1 e2 e3
    omega

theorem OwnN.len {w : World} {B : Nat} {a : Option Addr} {n cap : Nat} {zs : List Int} (h : OwnN w B a n cap zs) : zs.length = n := by
  have := h.1; simpa using this

theorem OwnN.ints {w : World} {B : Nat} {a : Option Addr} {n cap : Nat} {zs : List Int} (h : OwnN w B a n cap zs) : Ints w w.heap.size a zs := by
  have hl := h.len
  subst hl
  exact own_ints (n := zs.length) (cap := cap) (B := B) h

theorem OwnN.base {w : World} {B B' : Nat} {a : Option Addr} {n cap : Nat} {zs : List Int} (h : OwnN w B a n cap zs) (hB : B' ≤ B) : OwnN w B' a n cap zs := ownsRow_base h hB
theorem OwnN.below {w w' : World} {B : Nat} {a : Option Addr} {n cap : Nat} {zs : List Int} (h : OwnN w B a n cap zs) (hb : Below w.heap.size w w') : OwnN w' B a n cap zs := ownsRow_below h hb
theorem OwnN.ne {w : World} {B : Nat} {a : Option Addr} {n cap : Nat} {zs : List Int} (h : OwnN w B a n cap zs) {b : Nat} (hb : b < B ∨ w.heap.size ≤ b) : (Value.slice a n cap).ownBlock ≠ some b := by
  intro e
  have := World.ownsRow.lt h b e
  omega

theorem OwnN.cell {w : World} {B g n cap : Nat} {ys : List Int} (h : OwnN w B (some ⟨g, 0, none⟩) n cap ys) {j : Nat} (hj : j < n) : w.cell? ⟨g, j, none⟩ = some (.int .i64 (ys[j]?.getD 0)) := by
  have hl := h.len
  have := World.ownsRow.cellAt h j (by omega)
  rw [this]; simp [show j < ys.length by omega]

theorem OwnN.cellz {w : World} {B g n cap : Nat} {ys : List Int} (h : OwnN w B (some ⟨g, 0, none⟩) n cap ys) {j : Nat} (hj : j < n) : w.cell? ⟨g, j, none⟩ = some (.int .i64 (ys[j]?.getD 0)) := h.cell hj
end Go.Proofs.Ytfhhfilkabjhaaa

/- It is proved what meets and reached return; conditions: those of each statement. -/
namespace Go.Proofs.Ytfhhfilkabjhaaa
open Go.RowKit Go.Shelf

attribute [local go_sem] Oper.semAt_some

set_option maxRecDepth 100000 in
theorem and_fin : ∀ x : Fin 64, ∀ y : Fin 64, bits BinOp.and IntKind.i64 (x.val : Int) (y.val : Int) = ((x.val &&& y.val : Nat) : Int) := by decide +kernel

theorem and6_at (x y : Nat) (hx : x < 64) (hy : y < 64) : bits BinOp.and IntKind.i64 (x : Int) (y : Int) = ((x &&& y : Nat) : Int) := and_fin ⟨x, hx⟩ ⟨y, hy⟩
theorem meets_any (x y : Nat) (hx : x < 64) (hy : y < 64) (w : World) :
    Calls Try.prog 29 #[.int .i64 (x : Int), .int .i64 (y : Int)] w fun e w' => e = .returned (.bool (!decide (x &&& y = 0))) ∧ w = w' := by
  have HA := Lib.hid (and6_at x y hx hy)
  have HE : Hid ((((x &&& y : Nat) : Int) != 0) = !decide (x &&& y = 0)) := Lib.hid (by
    by_cases h : x &&& y = 0
    · rw [h]; rfl
    · rw [decide_eq_false h, bne_iff_ne.2 (by omega)]; rfl)
  go_enter Try.func29, Try.ntmps29
  go_wp2
  go_ret
  exact ⟨by rw [← HE.out, ← HA.out]; rfl, rfl⟩

end Go.Proofs.Ytfhhfilkabjhaaa

/- It is proved what l1None, l1With and the model's FamilyMeet return; conditions: those of each statement. -/
namespace Go.Proofs.Ytfhhfilkabjhaaa
open Go.RowKit

theorem alloc2_0 (w : World) (o p : Obj) : ((w.alloc o).alloc p).heap[w.heap.size]? = some o := by rw [alloc_old _ _ _ (by simp), alloc_new]
theorem alloc2_1 (w : World) (o p : Obj) : ((w.alloc o).alloc p).heap[w.heap.size + 1]? = some p := by
  rw [show w.heap.size + 1 = (w.alloc o).heap.size from by simp, alloc_new]

/-- A new empty row. -/
theorem own_empty {w : World} {B g : Nat} (h : w.heap[g]? = some (.cells #[] 3 (0, 0))) (hB : B ≤ g) : OwnI w B (.slice (some ⟨g, 0, none⟩) 0 0) [] :=
  ⟨by simp, .inr ⟨g, 0, #[], rfl, hB, h, Nat.le_refl _, by simp [maxLen], by simp, by simp⟩⟩

theorem map_at (f : Int → Int) (zs : List Int) (k : Nat) (h : k < zs.length) : (zs.take (k + 1)).map f = (zs.take k).map f ++ [f (zs[k]?.getD 0)] := by
  rw [List.take_succ_eq_append_getElem h, List.map_append]; simp [h]

/-- What a function that maps the clubs comes to. -/
def famMap (c : Bool) (_m : Int) (f : Int → Int) (zs : List Int) : List Int := if c then zs.map f else []

def famM (c : Bool) (m : Int) : Int := if c then m else 0
/-- The condition of FamilyMeet. -/
def meetIn (m : Int) (zs : List Int) (x : Int) : Bool := famIn m zs && inB x 0 (fullI m)

theorem OwnI.form {w : World} {B : Nat} {v : Value} {zs : List Int} (h : OwnI w B v zs) (hn : 0 < zs.length) : ∃ g cap, v = .slice (some ⟨g, 0, none⟩) zs.length cap ∧ B ≤ g ∧ g < w.heap.size := World.ownsRow.form h hn
def meetZ (m : Int) (zs : List Int) (x : Int) : List Int := if meetIn m zs x then zs.map fun z => bits .and .i64 z x else []
def meetM (m : Int) (zs : List Int) (x : Int) : Int := if meetIn m zs x then m else 0
theorem meetZ_len (m : Int) (zs : List Int) (x : Int) (h : zs.length ≤ 1048576) : (meetZ m zs x).length ≤ 1048576 := by
  unfold meetZ; split <;> simp; exact h

end Go.Proofs.Ytfhhfilkabjhaaa

/- It is proved that the call of the law FnExactFamilySizes returns true, given what the two functions return; conditions: those of each statement. -/
namespace Go.Proofs.Ytfhhfilkabjhaaa
open Go.RowKit

/-- A list of ints of the call's own, in a block of lo, .., hi - 1 (or nil). -/
structure XO (lo hi : Nat) (a : Option Addr) (n cap : Nat) (zs : List Int) (W : World) : Prop where
  own : OwnN W lo a n cap zs
  rng : ∀ g, (Value.slice a n cap).ownBlock = some g → lo ≤ g ∧ g < hi
  size : hi ≤ W.heap.size

theorem XO.ints {lo hi : Nat} {a : Option Addr} {n cap : Nat} {zs : List Int} {W : World} (h : XO lo hi a n cap zs W) : Ints W W.heap.size a zs := by
  have h1 := h.own
  have hl : zs.length = n := by have := h1.1; simpa using this
  subst hl
  exact own_ints (n := zs.length) (cap := cap) (B := lo) h1

theorem XO.kept {lo hi : Nat} {a : Option Addr} {n cap : Nat} {zs : List Int} {W W' : World} {row : Option Nat} (h : XO lo hi a n cap zs W) (hg : W.grownBy W' row) (hr : ∀ g, row = some g → g < lo ∨ hi ≤ g) : XO lo hi a n cap zs W' := by
  refine ⟨World.ownsRow.kept h.own hg ?_, h.rng, Nat.le_trans h.size hg.size⟩
  cases ho : (Value.slice a n cap).ownBlock with
  | none => exact .inl rfl
  | some g =>
    right
    intro e
    have h1 := h.rng g ho
    have h2 := hr g e.symm
    omega

theorem XO.step {lo hi : Nat} {a : Option Addr} {n cap : Nat} {zs : List Int} {W W' : World} (h : XO lo hi a n cap zs W) (hb : Below W.heap.size W W') : XO lo hi a n cap zs W' :=
  h.kept (only_of_below hb none) (fun g e => by cases e)

theorem XO.drew {lo hi : Nat} {a : Option Addr} {n cap : Nat} {zs : List Int} {W : World} (h : XO lo hi a n cap zs W) : XO lo hi a n cap zs W.drew := ⟨h.own, h.rng, h.size⟩
theorem XO.marked {lo hi : Nat} {a : Option Addr} {n cap : Nat} {zs : List Int} {W W' : World} (h : XO lo hi a n cap zs W) (ho : OwnI W' lo (.slice a n cap) (marks n)) (hg : W.grownBy W' (Value.slice a n cap).ownBlock) : XO lo hi a n cap (marks n) W' := by
  refine ⟨?_, h.rng, Nat.le_trans h.size hg.size⟩
  have := ho
  unfold OwnI at this
  rwa [marks_length] at this

theorem XO.start {w : World} {lo : Nat} {a : Option Addr} {cap : Nat} {zs : List Int} (ho : OwnI w lo (.slice a zs.length cap) zs) : XO lo w.heap.size a zs.length cap zs w :=
  ⟨ho, fun g e => World.ownsRow.lt ho g e, Nat.le_refl _⟩

theorem XO.ownI {lo hi : Nat} {a : Option Addr} {cap : Nat} {zs : List Int} {W : World} (h : XO lo hi a zs.length cap zs W) : OwnI W lo (.slice a zs.length cap) zs := h.own
theorem sameB_self (zs : List Int) : sameB zs zs = true := by simp [sameB]
end Go.Proofs.Ytfhhfilkabjhaaa

/- It is proved that two families drawn from bytes can be read; conditions: those of each statement. -/
namespace Go.Proofs.Ytfhhfilkabjhaaa
open Go.RowKit

section
variable {w : World} {P X5 : Nat} {m : Int} {a : Option Addr} {xs : List Int} {c : Nat} {ra : Option Addr} {rn rc : Nat} {W W' : World}
end
theorem XO.set {lo hi : Nat} {a : Option Addr} {n cap : Nat} {zs : List Int} {W : World} (h : XO lo hi a n cap zs W) (p : Addr) (v : Value) (hp : p.block < lo ∨ hi ≤ p.block) : XO lo hi a n cap zs (W.setCell p v) :=
  h.kept (only_setCell (World.grownBy.refl W (some p.block)) rfl v) (fun g e => by injection e with e; rw [← e]; exact hp)

theorem HasBlk.set2 {W : World} {b : Nat} {x y : Value} {t : TypeId} (h : HasBlk W b #[x, y] t) (u v : Value) : HasBlk ((W.setCell ⟨b, 0, none⟩ u).setCell ⟨b, 1, none⟩ v) b #[u, v] t :=
  heap_setCell_same _ b 1 _ t v (heap_setCell_same W b 0 _ t u h)

end Go.Proofs.Ytfhhfilkabjhaaa
