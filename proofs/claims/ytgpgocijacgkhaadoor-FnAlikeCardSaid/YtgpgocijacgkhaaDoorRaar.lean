/- It is proved that a region that draws its order may be walked one operation at a time where what each operation gives does not hang on the order; conditions: those of each statement. -/
import Derived.OrdersIn
import Derived.TacticsIn
import Derived.RowKit
import Derived.RangeFuncNested
import Derived.RangeFuncBound
import Derived.RangeFuncCalls
import Derived.RangeFuncLeaves
import Derived.RangeFuncBox
import Derived.RangeFuncWrites
import Derived.Test.YtgpgocijacgkhaaDoorRows
import Derived.WalkKit
import Derived.WalkSpells
import Derived.ProofKit
import Derived.OpenShut
import Derived.ShutString
import Derived.ChangeOld
import Derived.Below
import Derived.Deep.RegionHeld3
import Derived.Deep.QuietTactic
import Derived.BigQuiet
import Derived.Lib.Hide
import Derived.Lib.SmallJoins
import Derived.Outline
import Derived.Laws.MakeOwn
import Derived.Laws.OwnMore
import Derived.IntWalk
import Derived.Shelf.Abstract
import Derived.Shelf.RegionOpen
import Derived.OwnWalkIn
import Derived.TacticsInMore
import Derived.LoopNIn
import Derived.LoopIn
import Derived.Maps.AppendAt
import Derived.Shelf.Spec.TrailingZeros
namespace Go
section
variable {F : Fence} {n : Nat} {P : Program} {ops : Array Oper} {Q : Exit → Act → World → Prop} {md : Region.Mode}

/-- Q, but K where nothing jumps. -/
def UponK (K : Act → World → Prop) (Q : Exit → Act → World → Prop) : Exit → Act → World → Prop
  | .normal, a, w => K a w
  | .ret, a, w => Q .ret a w
  | .exit i, a, w => Q (.exit i) a w
  | .goto t, a, w => Q (.goto t) a w
  | .panic c, a, w => Q (.panic c) a w
  | .outgrown, a, w => Q .outgrown a w

theorem Oper.wpIn_uponK {o : Oper} {a : Act} {w : World} {K K' : Act → World → Prop} (hh : o.wpIn F n P a w K (UponK K' Q)) : o.wpIn F n P a w K Q := by
  unfold Oper.wpIn at *
  refine ⟨hh.1, ?_⟩
  have hh := hh.2
  generalize (o.semAt F.round a.eval).run P w = r at *
  cases r with
  | ok x w' =>
    cases x <;> simp only [Oper.uponIn] at hh ⊢ <;>
      first
        | exact hh
        | exact ⟨hh.1, CallsIn.mono hh.2 (fun e w'' he => by cases e <;> exact he)⟩
        | exact ⟨hh.1, RoundIn.mono hh.2 (fun e w'' he => by cases e <;> exact he)⟩
  | halt x w' => cases x <;> simp only [Oper.uponIn] at hh ⊢ <;> exact hh

theorem wpOpIn_of_list {i : Nat} {o : Oper} {a : Act} {w : World} {K : Act → World → Prop} (ho : ops[i]? = some o) (h : wpListIn F n P ops (UponK K Q) [o] a w) : wpOpIn F n P ops Q i K a w := by
  unfold wpOpIn
  simp only [ho]
  unfold wpListIn at h
  split
  · rename_i hw; simp only [hw, if_true] at h; exact Oper.wpIn_uponK h
  · rename_i hw; simp only [hw] at h; exact h

def masks : Nat → List (List Bool)
  | 0 => [[]]
  | k + 1 => (masks k).flatMap fun m => [false :: m, true :: m]

theorem mem_masks : ∀ l : List Bool, l ∈ masks l.length
  | [] => by simp [masks]
  | b :: l => by
    simp only [List.length_cons, masks, List.mem_flatMap]
    exact ⟨l, mem_masks l, by cases b <;> simp⟩

/-- Where no operation may come next, all have come. -/
def Region.endsB (md : Region.Mode) (ops : Array Oper) : Bool := (masks ops.size).all fun l => !(Region.ready md ops l.toArray).isEmpty || l.all id

theorem count_set : ∀ (l : List Bool) (i : Nat), l[i]? = some false → (l.set i true).count false + 1 = l.count false
  | [], i, h => by simp at h
  | b :: l, 0, h => by simp at h; subst h; simp
  | b :: l, i + 1, h => by
    have := count_set l i (by simpa using h)
    cases b <;> simp [List.count_cons] <;> omega

theorem wpAnyIn_held {A : Array Bool → Act} {S : Array Bool → World → Prop} (hends : Region.endsB md ops = true)
    (hstep : ∀ listed w i, listed.size = ops.size → i ∈ Region.ready md ops listed → S listed w → wpOpIn F n P ops Q i (fun a' w' => a' = A (listed.setIfInBounds i true) ∧ S (listed.setIfInBounds i true) w') (A listed) w)
    (hend : ∀ listed w, listed.size = ops.size → (listed.toList.all id) = true → S listed w → Q .normal (A listed) w) :
    ∀ fuel listed w, listed.size = ops.size → listed.toList.count false ≤ fuel → S listed w → wpAnyIn F n P md ops Q fuel listed (A listed) w
  | 0, listed, w, hs, hc, hS => by
    have hall : listed.toList.all id = true := by
      rw [List.all_eq_true]
      intro x hx
      cases x
      · have := List.count_pos_iff.2 hx; omega
      · rfl
    refine ⟨?_, hend listed w hs hall hS⟩
    unfold Region.ready
    rw [List.filter_eq_nil_iff]
    intro i hi
    rw [List.mem_range] at hi
    have hi' : i < listed.size := by omega
    have : listed.getD i true = true := by
      have h1 := List.all_eq_true.1 hall listed[i] (by simp)
      simp only [id] at h1
      simp [Array.getD, hi', h1]
    simp [this]
  | fuel + 1, listed, w, hs, hc, hS => by
    refine ⟨fun h0 => hend listed w hs ?_ hS, fun i hi => ?_⟩
    · have h1 := List.all_eq_true.1 hends listed.toList (by have := mem_masks listed.toList; rwa [Array.length_toList, hs] at this)
      simpa [h0] using h1
    · refine wpOpIn_mono ?_ (hstep listed w i hs hi hS)
      rintro a' w' ⟨rfl, hS'⟩
      refine wpAnyIn_held hends hstep hend fuel _ w' (by simpa using hs) ?_ hS'
      have hu : listed.toList[i]? = some false := by
        unfold Region.ready at hi
        rw [List.mem_filter, Bool.and_eq_true, List.mem_range] at hi
        have hi' : i < listed.size := by omega
        have := hi.2.1
        simp [Array.getD, hi'] at this
        simp [hi', this]
      have := count_set listed.toList i hu
      simp only [Array.toList_setIfInBounds]
      omega

theorem wpIn_region_held {A : Array Bool → Act} {S : Array Bool → World → Prop} {id' : Nat} {a : Act} {w : World} (hm : P.follows .mixedOrders = true) (hends : Region.endsB .any ops = true)
    (ha : A (Array.replicate ops.size false) = a) (hS : S (Array.replicate ops.size false) { w with drawn := w.drawn + 1 })
    (hstep : ∀ listed w i, listed.size = ops.size → i ∈ Region.ready .any ops listed → S listed w → wpOpIn F n P ops Q i (fun a' w' => a' = A (listed.setIfInBounds i true) ∧ S (listed.setIfInBounds i true) w') (A listed) w)
    (hend : ∀ listed w, listed.size = ops.size → (listed.toList.all id) = true → S listed w → Q .normal (A listed) w) : (Code.region id' ops true).wpIn F n P Q a w := by
  subst ha
  exact wpIn_region_any hm (wpAnyIn_held hends hstep hend ops.size _ _ (by simp) (by simp) hS)

end
end Go

/- It is proved what the iterator over a set's parts yields; conditions: those of each statement. -/
namespace Go.Proofs.YtgpgocijacgkhaaDoor
open Go.RowKit Go.Shelf

attribute [local go_sem] Oper.semAt_some

/-- What a round must keep: the cell with the set. -/
def CellK (Bs : Nat) (v : Value) (A B : World) : Prop := A.cell? ⟨Bs, 0, none⟩ = some v → B.cell? ⟨Bs, 0, none⟩ = some v

end Go.Proofs.YtgpgocijacgkhaaDoor

/- It is proved that both sides count the members of a set alike; conditions: those of each statement. -/
namespace Go.Proofs.YtgpgocijacgkhaaDoor
open Go.RowKit
/-- How many members a set has. -/
def popN : Nat → Int → Int
  | 0, _ => 0
  | f + 1, z => if 0 < z then bits .and .i64 z 1 + popN f (z / 2) else 0

def pop (z : Int) : Int := popN 7 z
theorem ret_int {a b : Int} (h : a = b) : Ending.returned (.int .i64 a) = .returned (.int .i64 b) := by rw [h]
set_option maxRecDepth 100000 in
theorem size_any (z : Int) (w : World) (h0 : 0 ≤ z) (h : z ≤ 63) : Calls Tryd.prog 72 #[.int .i64 z] w fun e w' => e = .returned (.int .i64 (pop z)) ∧ w = w' := by
  go_enter Tryd.func72, Tryd.ntmps72
  go_wp2
  go_ret
  refine ⟨ret_int ?_, rfl⟩
  obtain ⟨i, rfl⟩ : ∃ i : Fin 64, z = (i.val : Int) := ⟨⟨z.toNat, by omega⟩, by simp; omega⟩
  clear h0 h
  revert i
  decide +kernel

set_option maxRecDepth 100000 in
theorem size_some (z : Int) : ∃ r : Int, ∀ W : World, Calls Tryd.prog 72 #[.int .i64 z] W fun e W' => e = .returned (.int .i64 r) ∧ W = W' := by
  apply Exists.intro
  intro W
  go_enter Tryd.func72, Tryd.ntmps72
  go_wp2
  go_ret
  exact ⟨rfl, rfl⟩

/-- What club.size returns at each number. -/
theorem size_fn : ∃ g : Int → Int, (∀ z W, Calls Tryd.prog 72 #[.int .i64 z] W fun e W' => e = .returned (.int .i64 (g z)) ∧ Below W.heap.size W W') ∧ ∀ z, 0 ≤ z → z ≤ 63 → g z = pop z := by
  have h : ∀ z : Int, ∃ r : Int, (∀ W : World, Calls Tryd.prog 72 #[.int .i64 z] W fun e W' => e = .returned (.int .i64 r) ∧ W = W') ∧ (0 ≤ z → z ≤ 63 → r = pop z) := fun z => by
    by_cases hz : 0 ≤ z ∧ z ≤ 63
    · exact ⟨pop z, fun W => size_any z W hz.1 hz.2, fun _ _ => rfl⟩
    · obtain ⟨r, hr⟩ := size_some z
      exact ⟨r, hr, fun a b => absurd ⟨a, b⟩ hz⟩
  refine ⟨fun z => Classical.choose (h z), fun z W => ((Classical.choose_spec (h z)).1 W).mono fun e W' ⟨he, hw⟩ => ⟨he, by rw [← hw]; exact Below.refl _ _⟩, fun z => (Classical.choose_spec (h z)).2⟩

end Go.Proofs.YtgpgocijacgkhaaDoor
