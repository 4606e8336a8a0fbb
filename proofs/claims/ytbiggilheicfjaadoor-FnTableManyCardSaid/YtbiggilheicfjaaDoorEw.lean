/- It is proved that steps as sizes have one family just with their degrees, do not rise, and have the sum of the degrees; conditions: those of each statement. -/
import Derived.RowKit
import Derived.Laws.CopyRow
import Derived.Lib.SlBuf
import Derived.Deep.QuietTactic
import Derived.RangeFuncNested
import Derived.RangeFuncBound
import Derived.RangeFuncCalls
import Derived.RangeFuncLeaves
import Derived.RangeFuncBox
import Derived.RangeFuncWrites
import Derived.StillTailTactics
import Derived.Maps.OwnIn
import Derived.Maps.Ext
import Derived.DeepKeys4
import Derived.MapKept
import Derived.Test.YtbiggilheicfjaaDoorRows
import Derived.WalkKit
import Derived.WalkSpells
import Derived.ProofKit
import Derived.OpenShut
import Derived.ShutString
import Derived.ChangeOld
import Derived.Below
import Derived.Deep.RegionHeld3
import Derived.BigQuiet
import Derived.Lib.Hide
import Derived.Lib.SmallJoins
import Derived.Outline
import Derived.Laws.MakeOwn
import Derived.Laws.OwnMore
import Derived.IntWalk
import Derived.Maps.AppendAt
import Derived.Sort.QuietIn
import Derived.Lib.AppendZeros
import Derived.Deep.AppendLies
import Derived.OwnWalk
import Derived.Lib.SlicesCompact
import Derived.Lib.OwnBridge
import Derived.OrdersIn
import Derived.TacticsIn
import Derived.Shelf.Sort.Plain
import Derived.Shelf.Slices.In.SortNone
import Derived.Shelf.Slices.CompactI
import Derived.Ground.Names2Prog
import Derived.Shelf.Abstract
import Derived.Shelf.RegionOpen
import Derived.OwnWalkIn
import Derived.TacticsInMore
import Derived.LoopNIn
import Derived.LoopIn
import Derived.StillTail
import Derived.StillTactics
import Derived.Shelf.Spec.TrailingZeros
import Derived.Test.YtbiggilheicfjaaDoorMva
import Derived.Test.YtbiggilheicfjaaDoorEb
import Derived.Test.YtbiggilheicfjaaDoorEc
import Derived.Test.YtbiggilheicfjaaDoorEd
import Derived.Test.YtbiggilheicfjaaDoorEk
import Derived.Test.YtbiggilheicfjaaDoorEl
import Derived.Test.YtbiggilheicfjaaDoorEr
import Derived.Test.YtbiggilheicfjaaDoorEu
import Derived.Test.YtbiggilheicfjaaDoorEv
import Derived.Test.YtbiggilheicfjaaDoorZa
namespace Go.Proofs.YtbiggilheicfjaaDoor
open Go.RowKit Go.Shelf

def stpL (j : Nat) (left : List Int) : List Int := (List.range j).map fun i => ((cntN left (i + 1) : Nat) : Int)
theorem steps_st (ds : List Int) : stepsL ds = stpL 5 ds := rfl
def dnZ (x : Int) : Int := if 1 ≤ x then x - 1 else x
theorem sum_one (f : Nat → Nat) (a : Nat) : ∀ m, a < m → (∀ s, s < m → s ≠ a → f s = 0) → sumN ((List.range m).map f) = f a
  | 0, h, _ => by omega
  | m + 1, h, hf => by
    rw [List.range_succ, List.map_append, sumN_append]
    by_cases e : a = m
    · subst e
      rw [sumN_zero f _ (fun s hs => hf s (by have := List.mem_range.1 hs; omega) (by have := List.mem_range.1 hs; omega))]
      simp [sumN]
    · rw [sum_one f a m (by omega) (fun s h1 h2 => hf s (by omega) h2)]
      simp [sumN, hf m (by omega) (fun h => e h.symm)]

set_option maxRecDepth 100000 in
theorem pop_sub_fin : ∀ a b : Fin 32, (a.val &&& b.val == a.val) = true → pop (a.val : Int) = pop (b.val : Int) → a.val = b.val := by decide +kernel

theorem first_set {left : List Int} (hl : left.length ≤ 5) : atL (pad5 left) 1 5 < 2 ^ left.length := by
  refine Nat.lt_pow_two_of_testBit _ fun i hi => ?_
  rw [atL_bit, pad5_at, List.getElem?_eq_none (l := left) hi]
  simp

theorem first_take {left : List Int} (hl : left.length ≤ 5) (hB : ∀ x ∈ left, 0 ≤ x) : takeN left (atL (pad5 left) 1 5) = left.map dnZ := by
  apply List.ext_getElem
  · rw [takeN_len, List.length_map]
  · intro v h1 h2
    have hv : v < left.length := by rw [takeN_len] at h1; exact h1
    have e1 := takeN_at left (atL (pad5 left) 1 5) v hv
    have e2 : (takeN left (atL (pad5 left) 1 5))[v]?.getD 0 = (takeN left (atL (pad5 left) 1 5))[v] := by simp [h1]
    have e3 : left[v]?.getD 0 = left[v] := by simp [hv]
    rw [← e2, e1, e3, List.getElem_map, bitI, atL_bit, pad5_at, e3, dnZ]
    have h5 : v < 5 := by omega
    have h0 := hB _ (List.getElem_mem hv)
    by_cases h : (1 : Int) ≤ left[v]
    · simp [h5, h]
    · simp [h]

theorem cnt_dnZ {left : List Int} (hB : ∀ x ∈ left, 0 ≤ x) (i : Nat) : cntN (left.map dnZ) (i + 1) = cntN left (i + 2) := by
  unfold cntN
  rw [List.countP_map]
  apply List.countP_congr
  intro x hx
  have := hB x hx
  have hc1 : ((i + 1 : Nat) : Int) = (i : Int) + 1 := by omega
  have hc2 : ((i + 2 : Nat) : Int) = (i : Int) + 2 := by omega
  rw [hc1, hc2, Function.comp, decide_eq_true_eq, decide_eq_true_eq, dnZ]
  by_cases h : (1 : Int) ≤ x
  · rw [if_pos h]; omega
  · rw [if_neg h]; omega

theorem st_one : ∀ (j : Nat) (left : List Int), left.length ≤ 5 → (∀ x ∈ left, 0 ≤ x ∧ x ≤ (j : Int)) → cntL (stpL j left) left = 1
  | 0, left, _, hB => by
    have : left.all (fun x => x == 0) = true := by
      rw [List.all_eq_true]
      intro x hx
      have := hB x hx
      simp; omega
    rw [show stpL 0 left = [] from rfl, cntL, this]; rfl
  | j + 1, left, hl, hB => by
    have h32 : 2 ^ left.length ≤ 32 := Nat.pow_le_pow_right (n := 2) (by decide) hl
    have hs0 := first_set hl
    have hB0 : ∀ x ∈ left, 0 ≤ x := fun x hx => (hB x hx).1
    have hc0 : atL (pad5 left) 1 5 < 32 := by omega
    have e : stpL (j + 1) left = ((cntN left 1 : Nat) : Int) :: stpL j (left.map dnZ) := by
      unfold stpL
      rw [List.range_succ_eq_map, List.map_cons, List.map_map]
      congr 1
      apply List.map_congr_left
      intro i _
      rw [Function.comp, cnt_dnZ hB0]
    have hpop : pop ((atL (pad5 left) 1 5 : Nat) : Int) = ((cntN left 1 : Nat) : Int) := by
      have := pop_atL (pad5 left) (pad5_len hl) 1
      rw [cnt_pad left 1 (Nat.le_refl 1)] at this
      exact this
    have hok : takeB ((cntN left 1 : Nat) : Int) left (atL (pad5 left) 1 5) = true := takeB_iff.2 ⟨hpop, fun v hv => by
      have h0 := hB0 _ (at_mem hv)
      rw [bitI, atL_bit, pad5_at]
      split
      · rename_i h
        simp only [Bool.and_eq_true, decide_eq_true_eq] at h
        omega
      · omega⟩
    rw [e, cntL, sum_one _ (atL (pad5 left) 1 5) _ hs0 (fun s h1 h2 => ?_)]
    · rw [if_pos hok, first_take hl hB0]
      refine st_one j _ (by rw [List.length_map]; exact hl) (fun x hx => ?_)
      obtain ⟨y, hy, rfl⟩ := List.mem_map.1 hx
      have := hB y hy
      rw [dnZ]
      split <;> omega
    · rw [if_neg]
      intro ht
      obtain ⟨t1, t2⟩ := takeB_iff.1 ht
      apply h2
      refine pop_sub_fin ⟨s, by omega⟩ ⟨_, hc0⟩ ((sub_bits (by omega) hc0).2 fun v hv hb => ?_) (t1.trans hpop.symm)
      rw [atL_bit, pad5_at]
      simp only [Bool.and_eq_true, decide_eq_true_eq]
      refine ⟨hv, ?_⟩
      by_cases h : v < left.length
      · have := t2 v h
        rw [bitI, if_pos hb] at this
        omega
      · have : s.testBit v = false := Nat.testBit_lt_two_pow (Nat.lt_of_lt_of_le h1 (Nat.pow_le_pow_right (by decide) (by omega)))
        rw [this] at hb; cases hb

theorem cntN_cons (x : Int) (xs : List Int) (k : Nat) : cntN (x :: xs) k = cntN xs k + if (k : Int) ≤ x then 1 else 0 := by
  unfold cntN
  rw [List.countP_cons]
  simp

theorem steps_sum5 (ds : List Int) : (stepsL ds).sum = ((cntN ds 1 : Nat) : Int) + (cntN ds 2 : Nat) + (cntN ds 3 : Nat) + (cntN ds 4 : Nat) + (cntN ds 5 : Nat) := by
  simp [stepsL, List.range_succ]
  omega

theorem steps_sum : ∀ (ds : List Int), (∀ x ∈ ds, 0 ≤ x ∧ x ≤ 5) → (stepsL ds).sum = ds.sum
  | [], _ => by rw [steps_sum5]; simp [cntN]
  | x :: xs, h => by
    have ih := steps_sum xs (fun y hy => h y (by simp [hy]))
    have hx := h x (by simp)
    rw [steps_sum5] at ih
    rw [steps_sum5, List.sum_cons, ← ih]
    simp only [cntN_cons]
    obtain rfl | rfl | rfl | rfl | rfl | rfl : x = 0 ∨ x = 1 ∨ x = 2 ∨ x = 3 ∨ x = 4 ∨ x = 5 := by omega
    all_goals simp <;> omega

theorem cntN_mono (ds : List Int) (k : Nat) : cntN ds (k + 1) ≤ cntN ds k := by
  unfold cntN
  apply List.countP_mono_left
  intro x _ h
  simp only [decide_eq_true_eq] at h ⊢
  omega

theorem steps_facts {ds : List Int} (h : degIn ds = true) : tabIn (stepsL ds) ds = true ∧ manyZ (stepsL ds) ds = 1 ∧ (stepsL ds).sum = ds.sum ∧ (stepsL ds).length = 5 ∧ (∀ k, k + 1 < 5 → (stepsL ds)[k + 1]?.getD 0 ≤ (stepsL ds)[k]?.getD 0) ∧ (∀ z ∈ stepsL ds, 0 ≤ z ∧ z ≤ 5) ∧ (∀ z ∈ ds, 0 ≤ z ∧ z ≤ 5) ∧ ds.length ≤ 5 := by
  obtain ⟨h1, h5, hB⟩ := degIn_out h
  have hin : ∀ z ∈ stepsL ds, 0 ≤ z ∧ z ≤ 5 := by
    intro z hz
    obtain ⟨i, -, rfl⟩ := List.mem_map.1 hz
    have : cntN ds (i + 1) ≤ ds.length := List.countP_le_length
    omega
  have ht : tabIn (stepsL ds) ds = true := by
    rw [tabIn, h, Bool.and_true]
    refine numIn_y (by simp [stepsL]) ?_
    rw [List.all_eq_true]
    intro z hz
    exact inB_true (hin z hz).1 (hin z hz).2
  refine ⟨ht, ?_, steps_sum ds hB, by simp [stepsL], fun k hk => ?_, hin, hB, h5⟩
  · rw [manyZ, if_pos ht, steps_st, st_one 5 ds h5 hB]; rfl
  · have e : ∀ i, i < 5 → (stepsL ds)[i]?.getD 0 = ((cntN ds (i + 1) : Nat) : Int) := fun i hi => by simp [stepsL, hi]
    rw [e _ hk, e _ (by omega)]
    have := cntN_mono ds (k + 1)
    omega

end Go.Proofs.YtbiggilheicfjaaDoor
