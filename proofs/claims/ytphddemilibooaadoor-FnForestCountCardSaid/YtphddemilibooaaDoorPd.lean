/- It is proved what full returns, and how parts are counted; conditions: those of each statement. -/
import Derived.Test.YtphddemilibooaaDoorRows
import Derived.WalkKit
import Derived.WalkSpells
import Derived.ProofKit
import Derived.OpenShut
import Derived.ShutString
import Derived.ChangeOld
import Derived.Below
import Derived.Deep.RegionHeld3
import Derived.Deep.QuietTactic
import Derived.BigQuiet
import Derived.Lib.Hide
import Derived.Lib.SmallJoins
import Derived.Outline
import Derived.Laws.MakeOwn
import Derived.Laws.OwnMore
import Derived.IntWalk
import Derived.RangeFuncNested
import Derived.RangeFuncBound
import Derived.RangeFuncCalls
import Derived.RangeFuncLeaves
import Derived.RangeFuncBox
import Derived.Shelf.Abstract
import Derived.Shelf.RegionOpen
import Derived.OwnWalkIn
import Derived.TacticsInMore
import Derived.LoopNIn
import Derived.LoopIn
import Derived.Maps.AppendAt
import Derived.Deep.AppendLies
import Derived.OwnWalk
import Derived.StillTail
import Derived.StillTactics
import Derived.OrdersIn
import Derived.TacticsIn
import Derived.Shelf.Spec.TrailingZeros
import Derived.StillTailTactics
import Derived.Test.YtphddemilibooaaDoorRaac
import Derived.Test.YtphddemilibooaaDoorRaad
import Derived.Test.YtphddemilibooaaDoorRabd
import Derived.Test.YtphddemilibooaaDoorPc
import Derived.Test.YtphddemilibooaaDoorRaaj
import Derived.Test.YtphddemilibooaaDoorTb
import Derived.Test.YtphddemilibooaaDoorRaab
namespace Go.Proofs.YtphddemilibooaaDoor
open Go.RowKit

theorem fullB_any (m : Int) (a : Option Addr) (n cap : Nat) (w : World) (h1 : 1 ≤ m) (h2 : m ≤ 6) :
    Calls Tryd.prog 38 #[.agg #[.int .i64 m, .slice a n cap]] w fun e w' => e = .returned (.int .i64 (fullI m)) ∧ Below w.heap.size w w' := by
  rcases m16 h1 h2 with rfl | rfl | rfl | rfl | rfl | rfl
  all_goals
    go_enter Tryd.func38, Tryd.ntmps38
    go_wp2
    go_ret
    exact ⟨rfl, below1 _ _⟩

theorem with0_any (p : Nat) (hp : p < 8) (w : World) :
    Calls Tryd.prog 42 #[.int .i64 0, .int .i64 (p : Int)] w fun e w' => e = .returned (.int .i64 ((2 ^ p : Nat) : Int)) ∧ w = w' := by
  have h := with_any 0 p (by decide) hp w
  rw [Nat.zero_or] at h
  exact h

/-- Members one after the other: what is met, and how many parts. -/
def stP (m : Nat) (ks us : List Nat) : Nat × Nat := us.foldl (fun p v => if p.1.testBit v = true then p else (p.1 ||| partP m ks v, p.2 + 1)) (0, 0)

theorem stP_snoc (m : Nat) (ks us : List Nat) (u : Nat) : stP m ks (us ++ [u]) = if (stP m ks us).1.testBit u = true then stP m ks us else ((stP m ks us).1 ||| partP m ks u, (stP m ks us).2 + 1) := by
  unfold stP; rw [List.foldl_append]; rfl

theorem stP_small (m : Nat) (ks : List Nat) (h : Ksm m ks) (us : List Nat) (hu : ∀ u ∈ us, u < m) : (stP m ks us).1 < 2 ^ m ∧ (stP m ks us).2 ≤ us.length := by
  have key : ∀ (l : List Nat) (p : Nat × Nat), (∀ u ∈ l, u < m) → p.1 < 2 ^ m → (l.foldl (fun p v => if p.1.testBit v = true then p else (p.1 ||| partP m ks v, p.2 + 1)) p).1 < 2 ^ m ∧ (l.foldl (fun p v => if p.1.testBit v = true then p else (p.1 ||| partP m ks v, p.2 + 1)) p).2 ≤ p.2 + l.length := by
    intro l
    induction l with
    | nil => intro p _ hp; exact ⟨hp, by simp⟩
    | cons x l ih =>
      intro p hl hp
      rw [List.foldl_cons]
      split
      · have := ih p (fun u h => hl u (by simp [h])) hp
        exact ⟨this.1, by simp only [List.length_cons]; omega⟩
      · have := ih (p.1 ||| partP m ks x, p.2 + 1) (fun u h => hl u (by simp [h])) (Nat.or_lt_two_pow hp (partP_lt h (hl x (by simp))))
        exact ⟨this.1, by simp only [List.length_cons]; have := this.2; omega⟩
  have := key us (0, 0) hu (Nat.two_pow_pos m)
  exact ⟨this.1, by have h2 := this.2; simp only [Nat.zero_add] at h2; exact h2⟩

theorem stP_range (m : Nat) (ks : List Nat) (h : Ksm m ks) : ∀ i, i ≤ m → (∀ x, x < m → ((stP m ks (List.range i)).1.testBit x = true ↔ ∃ u, u < i ∧ (partP m ks u).testBit x = true)) ∧ (stP m ks (List.range i)).2 = cntP m ks i := by
  intro i
  induction i with
  | zero => intro _; exact ⟨fun x _ => by simp [stP], rfl⟩
  | succ i ih =>
    intro hi
    obtain ⟨h1, h2⟩ := ih (by omega)
    rw [List.range_succ, stP_snoc, cntP_succ]
    have hfi := firstP_iff h (v := i) (by omega)
    by_cases hb : (stP m ks (List.range i)).1.testBit i = true
    · rw [if_pos hb]
      obtain ⟨u, hu, hub⟩ := (h1 i (by omega)).1 hb
      have hnf : ¬ firstP m ks i = true := fun hf => by
        have := hfi.1 hf u hu
        rw [hub] at this; cases this
      rw [if_neg hnf]
      refine ⟨fun x hx => ?_, by omega⟩
      rw [h1 x hx]
      constructor
      · rintro ⟨v, hv, hvb⟩; exact ⟨v, by omega, hvb⟩
      · rintro ⟨v, hv, hvb⟩
        rcases Nat.lt_succ_iff_lt_or_eq.1 hv with h3 | rfl
        · exact ⟨v, h3, hvb⟩
        · exact ⟨u, hu, partP_trans h (by omega) hub x hvb⟩
    · rw [if_neg hb]
      have hf : firstP m ks i = true := hfi.2 (fun u hu => by
        cases hc : (partP m ks u).testBit i
        · rfl
        · exact absurd ((h1 i (by omega)).2 ⟨u, hu, hc⟩) hb)
      rw [if_pos hf]
      refine ⟨fun x hx => ?_, by simp only; omega⟩
      simp only [Nat.testBit_or, Bool.or_eq_true]
      rw [h1 x hx]
      constructor
      · rintro (⟨v, hv, hvb⟩ | hvb)
        · exact ⟨v, by omega, hvb⟩
        · exact ⟨i, by omega, hvb⟩
      · rintro ⟨v, hv, hvb⟩
        rcases Nat.lt_succ_iff_lt_or_eq.1 hv with h3 | rfl
        · exact .inl ⟨v, h3, hvb⟩
        · exact .inr hvb

set_option maxRecDepth 100000 in
theorem mem_full : ∀ m, m ≤ 6 → mem (2 ^ m - 1) = List.range m := by decide +kernel

theorem ksm_of {m : Nat} {zs : List Int} (hf : famIn (m : Int) zs = true) : Ksm m (ksOf zs) := by
  have h := famIn_out hf
  refine ⟨by omega, ?_⟩
  intro k hk
  obtain ⟨z, hz, rfl⟩ := List.mem_map.1 hk
  obtain ⟨j, hj, rfl⟩ := List.getElem_of_mem hz
  have := (isClub_all hf j hj).2.2
  rwa [show ((j, zs[j]?.getD 0) : Nat × Int).2 = zs[j] from by simp [hj]] at this

/-- How many parts. -/
def partsZ (m : Int) (zs : List Int) : Int := if famIn m zs then ((cntP m.toNat (ksOf zs) m.toNat : Nat) : Int) else 0

end Go.Proofs.YtphddemilibooaaDoor
