/- It is proved how a Family among a law's arguments reads as a number and a list of ints; conditions: none but that the argument can be read. -/
import Derived.Test.YtemolmkkiagiiaaDoorRows
import Derived.WalkKit
import Derived.WalkSpells
import Derived.ProofKit
import Derived.OpenShut
import Derived.ShutString
import Derived.ChangeOld
import Derived.Below
import Derived.Deep.RegionHeld3
import Derived.Deep.QuietTactic
import Derived.BigQuiet
import Derived.Lib.Hide
import Derived.Lib.SmallJoins
import Derived.Outline
import Derived.Laws.MakeOwn
import Derived.Laws.OwnMore
import Derived.IntWalk
import Derived.Test.YtemolmkkiagiiaaDoorPaaa
import Derived.Test.YtemolmkkiagiiaaDoorPaac
import Derived.Deep.RegionLaw
import Derived.Deep.AppendLies
import Derived.RangeFuncNested
import Derived.RangeFuncBound
import Derived.RangeFuncCalls
import Derived.RangeFuncLeaves
import Derived.RangeFuncBox
import Derived.Shelf.Abstract
import Derived.Shelf.RegionOpen
import Derived.OwnWalkIn
import Derived.TacticsInMore
import Derived.LoopNIn
import Derived.LoopIn
import Derived.Maps.AppendAt
import Derived.OwnWalk
import Derived.Shelf.Spec.TrailingZeros
import Derived.Test.YtemolmkkiagiiaaDoorPaab
import Derived.Lib.AppendZeros
import Derived.Lib.SlicesCompact
import Derived.Lib.OwnBridge
import Derived.Shelf.Sort.Plain
import Derived.Shelf.Slices.In.SortNone
import Derived.Shelf.Slices.CompactI
import Derived.Ground.Names2Prog
import Derived.Lib.SliceRun
import Derived.StillTail
import Derived.StillTactics
import Derived.OrdersIn
import Derived.TacticsIn
import Derived.StillTailTactics
import Derived.RowKit
import Derived.RangeFuncWrites
namespace Go.Proofs.YtemolmkkiagiiaaDoor
open Go.ChangeShapes Go.WideShapes Go.ChangeAt Go.RowKit Go.Joins
open Go.ChangeMaps (open_string shut_string)

theorem Tryd.own : ownKnob Tryd.prog.godebug = none := by kernel_rfl
theorem Tryd.laidOut : laidOutB Tryd.prog = true := by kernel_rfl
theorem Tryd.cells3 : Tryd.prog.cellsOf 3 = 1 := by kernel_rfl
theorem Tryd.cells23 : Tryd.prog.cellsOf 23 = 1 := by kernel_rfl
theorem ints_of_row {W : World} {x : Addr} {l c : Nat} {zs : List Int} (hl : l ≤ c) (hz : zs.length = c)
    (hcell : ∀ i, i < zs.length → W.cell? (x.add i) = some (.int .i64 (zs.getD i 0))) : Ints W W.heap.size (some x) (zs.take l) := by
  by_cases h0 : l = 0
  · subst h0; exact .inl (by simp)
  · obtain ⟨b, off, spot⟩ := x
    have hc := hcell 0 (by omega)
    have hspot : spot = none := by simpa [Addr.add] using World.cell?_spot hc
    subst hspot
    refine .inr ⟨b, off, rfl, by simpa [Addr.add] using World.block_lt_of_cell? W _ hc, fun j hj => ?_⟩
    have hj' : j < l := by simp at hj; omega
    have := hcell j (by omega)
    rw [show (⟨b, off, none⟩ : Addr).add j = ⟨b, off + j, none⟩ from by unfold Addr.add; split <;> simp_all] at this
    rw [this]
    simp [List.getD, hj']

end Go.Proofs.YtemolmkkiagiiaaDoor

/- It is proved how boxed families and lists are kept while the laws go on; conditions: those of each statement. -/
namespace Go.Proofs.YtemolmkkiagiiaaDoor
open Go.RowKit

/-- A family in a box. -/
structure FB (X : Nat) (m : Int) (a : Option Addr) (zs : List Int) (c : Nat) (W : World) : Prop where
  blk : HasBlk W X #[.int .i64 m, .slice a zs.length c] 25
  ints : Ints W W.heap.size a zs

theorem FB.step {X : Nat} {m : Int} {a : Option Addr} {zs : List Int} {c : Nat} {W W' : World} (h : FB X m a zs c W) (hb : Below W.heap.size W W') : FB X m a zs c W' :=
  ⟨(hb.block X (lt_of_some h.blk)).trans h.blk, (h.ints.below hb).mono hb.size⟩

theorem FB.start {w : World} {m : Int} {a : Option Addr} {zs : List Int} {c : Nat} (h : Ints w w.heap.size a zs) : FB w.heap.size m a zs c (w.alloc (.cells #[.int .i64 m, .slice a zs.length c] 25)) :=
  ⟨alloc_new w _, (h.below (below1 w _)).mono (by simp)⟩

theorem FB.x0 {X : Nat} {m : Int} {a : Option Addr} {zs : List Int} {c : Nat} {W : World} (h : FB X m a zs c W) : W.cell? ⟨X, 0, none⟩ = some (.int .i64 m) := (blk_cell h.blk 0).trans (cell2_0 _ _)
theorem FB.x1 {X : Nat} {m : Int} {a : Option Addr} {zs : List Int} {c : Nat} {W : World} (h : FB X m a zs c W) : W.cell? ⟨X, 1, none⟩ = some (.slice a zs.length c) := (blk_cell h.blk 1).trans (cell2_1 _ _)
theorem Ints.step {W W' : World} {a : Option Addr} {zs : List Int} (h : Ints W W.heap.size a zs) (hb : Below W.heap.size W W') : Ints W' W'.heap.size a zs := (h.below hb).mono hb.size
theorem sameB_refl (zs : List Int) : sameB zs zs = true := by simp [sameB]
/-- A sum of small numbers. -/
theorem wrap_add {x y z : Int} (h : x + y = z) (h1 : -1000000000 ≤ z) (h2 : z ≤ 1000000000) : IntKind.i64.wrap (x + y) = z := by
  rw [h, IntKind.wrap_i64]; omega

end Go.Proofs.YtemolmkkiagiiaaDoor

/- It is proved that the greatest pack told club by club is the greatest one of all sets of places; conditions: those of each statement. -/
namespace Go.Proofs.YtemolmkkiagiiaaDoor
open Go.RowKit

/-- The places of a set, of the first k. -/
def memK (k p : Nat) : List Nat := (List.range k).filter fun i => p.testBit i

end Go.Proofs.YtemolmkkiagiiaaDoor

/- It is proved what the iterator over a set's parts yields; conditions: those of each statement. -/
namespace Go.Proofs.YtemolmkkiagiiaaDoor
open Go.RowKit Go.Shelf

attribute [local go_sem] Oper.semAt_some

/-- What a round must keep: the cell with the set. -/
def CellK (Bs : Nat) (v : Value) (A B : World) : Prop := A.cell? ⟨Bs, 0, none⟩ = some v → B.cell? ⟨Bs, 0, none⟩ = some v

end Go.Proofs.YtemolmkkiagiiaaDoor

/- It is proved that both sides count the members of a set alike; conditions: those of each statement. -/
namespace Go.Proofs.YtemolmkkiagiiaaDoor
open Go.RowKit
/-- How many members a set has. -/
def popN : Nat → Int → Int
  | 0, _ => 0
  | f + 1, z => if 0 < z then bits .and .i64 z 1 + popN f (z / 2) else 0

def pop (z : Int) : Int := popN 7 z
theorem ret_int {a b : Int} (h : a = b) : Ending.returned (.int .i64 a) = .returned (.int .i64 b) := by rw [h]
set_option maxRecDepth 100000 in
theorem size_any (z : Int) (w : World) (h0 : 0 ≤ z) (h : z ≤ 63) : Calls Tryd.prog 61 #[.int .i64 z] w fun e w' => e = .returned (.int .i64 (pop z)) ∧ w = w' := by
  go_enter Tryd.func61, Tryd.ntmps61
  go_wp2
  go_ret
  refine ⟨ret_int ?_, rfl⟩
  obtain ⟨i, rfl⟩ : ∃ i : Fin 64, z = (i.val : Int) := ⟨⟨z.toNat, by omega⟩, by simp; omega⟩
  clear h0 h
  revert i
  decide +kernel

set_option maxRecDepth 100000 in
theorem size_some (z : Int) : ∃ r : Int, ∀ W : World, Calls Tryd.prog 61 #[.int .i64 z] W fun e W' => e = .returned (.int .i64 r) ∧ W = W' := by
  apply Exists.intro
  intro W
  go_enter Tryd.func61, Tryd.ntmps61
  go_wp2
  go_ret
  exact ⟨rfl, rfl⟩

/-- What club.size returns at each number. -/
theorem size_fn : ∃ g : Int → Int, (∀ z W, Calls Tryd.prog 61 #[.int .i64 z] W fun e W' => e = .returned (.int .i64 (g z)) ∧ Below W.heap.size W W') ∧ ∀ z, 0 ≤ z → z ≤ 63 → g z = pop z := by
  have h : ∀ z : Int, ∃ r : Int, (∀ W : World, Calls Tryd.prog 61 #[.int .i64 z] W fun e W' => e = .returned (.int .i64 r) ∧ W = W') ∧ (0 ≤ z → z ≤ 63 → r = pop z) := fun z => by
    by_cases hz : 0 ≤ z ∧ z ≤ 63
    · exact ⟨pop z, fun W => size_any z W hz.1 hz.2, fun _ _ => rfl⟩
    · obtain ⟨r, hr⟩ := size_some z
      exact ⟨r, hr, fun a b => absurd ⟨a, b⟩ hz⟩
  refine ⟨fun z => Classical.choose (h z), fun z W => ((Classical.choose_spec (h z)).1 W).mono fun e W' ⟨he, hw⟩ => ⟨he, by rw [← hw]; exact Below.refl _ _⟩, fun z => (Classical.choose_spec (h z)).2⟩

end Go.Proofs.YtemolmkkiagiiaaDoor
