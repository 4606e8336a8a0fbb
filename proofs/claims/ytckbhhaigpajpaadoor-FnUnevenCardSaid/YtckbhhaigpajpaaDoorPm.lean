/- It is proved how sums of degrees, sizes, unions and meetings of clubs count their members; conditions: those of each statement. -/
import Derived.Test.YtckbhhaigpajpaaDoorRows
import Derived.WalkKit
import Derived.WalkSpells
import Derived.ProofKit
import Derived.OpenShut
import Derived.ShutString
import Derived.ChangeOld
import Derived.Below
import Derived.Deep.RegionHeld3
import Derived.Deep.QuietTactic
import Derived.BigQuiet
import Derived.Lib.Hide
import Derived.Lib.SmallJoins
import Derived.Outline
import Derived.Laws.MakeOwn
import Derived.Laws.OwnMore
import Derived.IntWalk
import Derived.RangeFuncNested
import Derived.RangeFuncBound
import Derived.RangeFuncCalls
import Derived.RangeFuncLeaves
import Derived.RangeFuncBox
import Derived.Shelf.Abstract
import Derived.Shelf.RegionOpen
import Derived.OwnWalkIn
import Derived.TacticsInMore
import Derived.LoopNIn
import Derived.LoopIn
import Derived.Maps.AppendAt
import Derived.Deep.AppendLies
import Derived.OwnWalk
import Derived.StillTail
import Derived.StillTactics
import Derived.OrdersIn
import Derived.TacticsIn
import Derived.Shelf.Spec.TrailingZeros
import Derived.StillTailTactics
import Derived.Test.YtckbhhaigpajpaaDoorRaab
import Derived.Test.YtckbhhaigpajpaaDoorRaae
import Derived.Test.YtckbhhaigpajpaaDoorRaaf
import Derived.Test.YtckbhhaigpajpaaDoorTc
import Derived.Test.YtckbhhaigpajpaaDoorRaal
namespace Go.Proofs.YtckbhhaigpajpaaDoor
open Go.RowKit

theorem sum_ite (f : Nat → Int) (u : Nat) : ∀ k, ((List.range k).map fun v => f v + if u = v then 1 else 0).sum = ((List.range k).map f).sum + if u < k then 1 else 0
  | 0 => by simp
  | k + 1 => by
    rw [List.range_succ, List.map_append, List.map_append, List.sum_append, List.sum_append, sum_ite f u k]
    simp only [List.map_cons, List.map_nil, List.sum_cons, List.sum_nil]
    have e1 : (if u < k + 1 then (1 : Int) else 0) = (if u < k then 1 else 0) + (if u = k then 1 else 0) := by
      split <;> split <;> split <;> omega
    rw [e1]
    generalize (if u < k then (1 : Int) else 0) = p
    generalize (if u = k then (1 : Int) else 0) = q
    omega

theorem sum_deg (k : Nat) : ∀ us : List Nat, (∀ u ∈ us, u < k) → (degL k us).sum = (us.length : Int)
  | [], _ => by rw [degL_nil]; simp
  | u :: us, h => by
    have ih := sum_deg k us (fun x hx => h x (by simp [hx]))
    have hu := h u (by simp)
    have e : degL k (u :: us) = (List.range k).map fun v => ((us.count v : Nat) : Int) + if u = v then 1 else 0 := by
      unfold degL
      apply List.map_congr_left
      intro v _
      rw [List.count_cons]
      by_cases h1 : u = v
      · simp [h1]
      · simp [h1]
    rw [e, sum_ite, if_pos hu]
    rw [show ((List.range k).map fun v => ((us.count v : Nat) : Int)).sum = (degL k us).sum from rfl, ih]
    simp

set_option maxRecDepth 100000 in
theorem pop_mem_fin : ∀ s : Fin 64, pop (s.val : Int) = ((mem s.val).length : Int) := by decide +kernel

theorem pop_mem {s : Nat} (h : s < 64) : pop (s : Int) = ((mem s).length : Int) := pop_mem_fin ⟨s, h⟩
theorem allMem_cons (z : Int) (zs : List Int) : allMem (z :: zs) = mem z.toNat ++ allMem zs := by simp [allMem]
theorem sum_sizes : ∀ zs : List Int, (∀ z ∈ zs, 0 ≤ z ∧ z ≤ 63) → (zs.map pop).sum = ((allMem zs).length : Int)
  | [], _ => by simp [allMem]
  | z :: zs, h => by
    have ih := sum_sizes zs (fun x hx => h x (by simp [hx]))
    have hz := h z (by simp)
    have e := pop_mem (s := z.toNat) (by omega)
    rw [Int.toNat_of_nonneg hz.1] at e
    rw [allMem_cons, List.map_cons, List.sum_cons, ih, e, List.length_append]
    simp

theorem small63 {m : Int} {zs : List Int} (h : famIn m zs = true) : ∀ z ∈ zs, 0 ≤ z ∧ z ≤ 63 := fun z hz => by
  obtain ⟨h1, h2, h3, h4⟩ := famIn_out h
  have := h4 z hz
  have h5 : fullI m ≤ 63 := by rcases m16 h1 h2 with rfl | rfl | rfl | rfl | rfl | rfl <;> decide
  omega

theorem allMem_lt {k : Nat} {zs : List Int} (h : famIn (k : Int) zs = true) : ∀ u ∈ allMem zs, u < k := by
  intro u hu
  obtain ⟨h1, h2, h3, h4⟩ := famIn_out h
  obtain ⟨z, hz, hu⟩ := List.mem_flatMap.1 hu
  have := h4 z hz
  have hf : fullI (k : Int) = ((2 ^ k : Nat) : Int) - 1 := by simp [fullI]
  exact mem_lt k (by omega) z.toNat (by omega) u hu

theorem sums_same {m : Int} {zs : List Int} (h : famIn m zs = true) : (famDeg m zs).sum = (zs.map pop).sum := by
  obtain ⟨h1, h2, h3, h4⟩ := famIn_out h
  obtain ⟨k, rfl⟩ : ∃ k : Nat, m = (k : Int) := ⟨m.toNat, by omega⟩
  rw [famDeg, if_pos h, Int.toNat_natCast, sum_deg k _ (allMem_lt h), sum_sizes zs (small63 h)]

set_option maxRecDepth 100000 in
theorem mem_one_fin : ∀ s : Fin 64, ∀ v : Fin 6, (mem s.val).count v.val = if s.val.testBit v.val then 1 else 0 := by decide +kernel

theorem mem_one {s v : Nat} (hs : s < 64) (hv : v < 6) : (mem s).count v = if s.testBit v then 1 else 0 := mem_one_fin ⟨s, hs⟩ ⟨v, hv⟩
/-- A club has a member. -/
def hasM (v : Nat) (z : Int) : Bool := z.toNat.testBit v

theorem count_all {v : Nat} (hv : v < 6) : ∀ zs : List Int, (∀ z ∈ zs, 0 ≤ z ∧ z ≤ 63) → (allMem zs).count v = zs.countP (hasM v)
  | [], _ => by simp [allMem]
  | z :: zs, h => by
    have ih := count_all hv zs (fun x hx => h x (by simp [hx]))
    have hz := h z (by simp)
    rw [allMem_cons, List.count_append, ih, mem_one (by omega) hv, List.countP_cons]
    unfold hasM
    omega

end Go.Proofs.YtckbhhaigpajpaaDoor
