/- It is proved that both sides look at names alike; conditions: those of each statement. -/
import Derived.Test.YtgpgocijacgkhaaDoorRows
import Derived.WalkKit
import Derived.WalkSpells
import Derived.ProofKit
import Derived.OpenShut
import Derived.ShutString
import Derived.ChangeOld
import Derived.Below
import Derived.Deep.RegionHeld3
import Derived.Deep.QuietTactic
import Derived.BigQuiet
import Derived.Lib.Hide
import Derived.Lib.SmallJoins
import Derived.Outline
import Derived.Laws.MakeOwn
import Derived.Laws.OwnMore
import Derived.IntWalk
import Derived.RangeFuncNested
import Derived.RangeFuncBound
import Derived.RangeFuncCalls
import Derived.RangeFuncLeaves
import Derived.RangeFuncBox
import Derived.Shelf.Abstract
import Derived.Shelf.RegionOpen
import Derived.OwnWalkIn
import Derived.TacticsInMore
import Derived.LoopNIn
import Derived.LoopIn
import Derived.Maps.AppendAt
import Derived.Deep.AppendLies
import Derived.OwnWalk
import Derived.StillTail
import Derived.StillTactics
import Derived.OrdersIn
import Derived.TacticsIn
import Derived.Shelf.Spec.TrailingZeros
import Derived.StillTailTactics
import Derived.Test.YtgpgocijacgkhaaDoorRaab
import Derived.Test.YtgpgocijacgkhaaDoorNa
import Derived.Test.YtgpgocijacgkhaaDoorRaac
namespace Go.Proofs.YtgpgocijacgkhaaDoor
open Go.RowKit

/-- All names met, as a set. -/
def orP (ps : List Int) : Nat := ps.foldl (fun t p => t ||| 2 ^ p.toNat) 0

theorem orP_snoc (ps : List Int) (p : Int) : orP (ps ++ [p]) = orP ps ||| 2 ^ p.toNat := by simp [orP]
theorem orP_lt (m : Nat) (ps : List Int) (h : ∀ p ∈ ps, p.toNat < m) : orP ps < 2 ^ m := by
  have : ∀ t, t < 2 ^ m → ps.foldl (fun t p => t ||| 2 ^ p.toNat) t < 2 ^ m := by
    induction ps with
    | nil => intro t ht; exact ht
    | cons x ps ih =>
      intro t ht
      rw [List.foldl_cons]
      exact ih (fun y hy => h y (by simp [hy])) _ (Nat.or_lt_two_pow ht (Nat.pow_lt_pow_right (by decide) (h x (by simp))))
  exact this 0 (Nat.two_pow_pos m)

/-- Names in range. -/
def inR (m : Nat) (ps : List Int) : Bool := ps.all fun p => inB p 0 ((m : Int) - 1)

theorem inR_at {m : Nat} {ps : List Int} (h : inR m ps = true) {k : Nat} (hk : k < ps.length) : 0 ≤ ps[k]?.getD 0 ∧ ps[k]?.getD 0 < (m : Int) := by
  have := inB_out (List.all_eq_true.1 h ps[k] (List.getElem_mem hk))
  have e : ps[k]?.getD 0 = ps[k] := by simp [hk]
  rw [e]; omega

theorem inR_no {m : Nat} {ps : List Int} {k : Nat} (hk : k < ps.length) (h : inB (ps[k]?.getD 0) 0 ((m : Int) - 1) = false) : inR m ps = false := by
  refine List.all_eq_false.2 ⟨ps[k], List.getElem_mem hk, ?_⟩
  have e : ps[k]?.getD 0 = ps[k] := by simp [hk]
  rw [e] at h
  simp [h]

theorem inR_yes {m : Nat} {ps : List Int} (h : ∀ k, k < ps.length → inB (ps[k]?.getD 0) 0 ((m : Int) - 1) = true) : inR m ps = true := by
  refine List.all_eq_true.2 fun p hp => ?_
  obtain ⟨k, hk, rfl⟩ := List.getElem_of_mem hp
  have := h k hk
  rwa [show ps[k]?.getD 0 = ps[k] from by simp [hk]] at this

/-- Each of m numbers once. -/
def namesB (m : Nat) (ps : List Int) : Bool := inR m ps && (decide (ps.length = m) && decide (orP ps = 2 ^ m - 1))

/-- How many members a set has. -/
def popS (s : Nat) : Nat := (mem s).length

set_option maxRecDepth 100000 in
theorem pop_or : ∀ s, s < 64 → ∀ v, v < 6 → popS (s ||| 2 ^ v) = popS s + (if s.testBit v then 0 else 1) := by decide +kernel

set_option maxRecDepth 100000 in
theorem pop_full : ∀ m, m ≤ 6 → ∀ s, s < 2 ^ m → (popS s = m ↔ s = 2 ^ m - 1) := by decide +kernel

theorem take_snoc (ps : List Int) (k : Nat) (h : k < ps.length) : ps.take (k + 1) = ps.take k ++ [ps[k]?.getD 0] := by
  rw [List.take_succ_eq_append_getElem h]; simp [h]

theorem orP64 {m : Nat} (hm : m ≤ 6) {ps : List Int} (h : inR m ps = true) (k : Nat) : orP (ps.take k) < 64 := by
  have h1 := orP_lt m (ps.take k) (fun p hp => by
    have := inB_out (List.all_eq_true.1 h p (List.mem_of_mem_take hp))
    omega)
  exact Nat.lt_of_lt_of_le h1 (Nat.pow_le_pow_right (by decide) hm : 2 ^ m ≤ 2 ^ 6)

theorem pop_take {m : Nat} (hm : m ≤ 6) {ps : List Int} (h : inR m ps = true) : ∀ k, k ≤ ps.length → popS (orP (ps.take k)) ≤ k := by
  intro k
  induction k with
  | zero => intro _; simp [orP]; decide
  | succ k ih =>
    intro hk
    have h1 := inR_at h (k := k) (by omega)
    rw [take_snoc ps k (by omega), orP_snoc, pop_or _ (orP64 hm h k) _ (by omega)]
    have := ih (by omega)
    split <;> omega

/-- A name met twice. -/
theorem names_twice {m : Nat} (hm : m ≤ 6) {ps : List Int} (h : inR m ps = true) (hl : ps.length = m) {k : Nat} (hk : k < m) (ht : (orP (ps.take k)).testBit (ps[k]?.getD 0).toNat = true) : namesB m ps = false := by
  have key : ∀ j, k < j → j ≤ m → popS (orP (ps.take j)) < j := by
    intro j
    induction j with
    | zero => intro h1; omega
    | succ j ih =>
      intro h1 h2
      have h3 := inR_at h (k := j) (by omega)
      rw [take_snoc ps j (by omega), orP_snoc, pop_or _ (orP64 hm h j) _ (by omega)]
      rcases Nat.lt_or_ge k j with h4 | h4
      · have := ih h4 (by omega)
        split <;> omega
      · obtain rfl : k = j := by omega
        rw [if_pos ht]
        have := pop_take hm h k (by omega)
        omega
  have h5 := key m hk (Nat.le_refl _)
  rw [← hl, List.take_length] at h5
  have h6 := orP_lt m ps (fun p hp => by
    have := inB_out (List.all_eq_true.1 h p hp)
    omega)
  have h7 : ¬ orP ps = 2 ^ m - 1 := fun e => by
    have := (pop_full m hm _ h6).2 e
    omega
  simp [namesB, h7]

/-- No name met twice. -/
theorem names_once {m : Nat} (hm : m ≤ 6) {ps : List Int} (h : inR m ps = true) (hl : ps.length = m) (ht : ∀ k, k < m → (orP (ps.take k)).testBit (ps[k]?.getD 0).toNat = false) : namesB m ps = true := by
  have key : ∀ j, j ≤ m → popS (orP (ps.take j)) = j := by
    intro j
    induction j with
    | zero => intro _; simp [orP]; decide
    | succ j ih =>
      intro h2
      have h3 := inR_at h (k := j) (by omega)
      rw [take_snoc ps j (by omega), orP_snoc, pop_or _ (orP64 hm h j) _ (by omega), ht j (by omega)]
      have := ih (by omega)
      simp [this]
  have h5 := key m (Nat.le_refl _)
  rw [← hl, List.take_length] at h5
  have h6 := orP_lt m ps (fun p hp => by
    have := inB_out (List.all_eq_true.1 h p hp)
    omega)
  have h7 := (pop_full m hm _ h6).1 (by omega)
  simp [namesB, h, hl, h7]

theorem namesB_ok {m : Nat} (hm : m ≤ 6) {ps : List Int} (h : namesB m ps = true) : Okp m ps := by
  simp only [namesB, Bool.and_eq_true, decide_eq_true_eq] at h
  refine ⟨h.2.1, fun v hv => ?_⟩
  have := inR_at h.1 (k := v) (by omega)
  omega

end Go.Proofs.YtgpgocijacgkhaaDoor
