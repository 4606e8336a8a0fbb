/- It is proved that the dual of a dual is the family; conditions: those of each statement. -/
import Derived.Test.YtacglafoahmcnaaDoorRows
import Derived.WalkKit
import Derived.WalkSpells
import Derived.ProofKit
import Derived.OpenShut
import Derived.ShutString
import Derived.ChangeOld
import Derived.Below
import Derived.Deep.RegionHeld3
import Derived.Deep.QuietTactic
import Derived.BigQuiet
import Derived.Lib.Hide
import Derived.Lib.SmallJoins
import Derived.Outline
import Derived.Laws.MakeOwn
import Derived.Laws.OwnMore
import Derived.IntWalk
import Derived.RangeFuncNested
import Derived.RangeFuncBound
import Derived.RangeFuncCalls
import Derived.RangeFuncLeaves
import Derived.RangeFuncBox
import Derived.Shelf.Abstract
import Derived.Shelf.RegionOpen
import Derived.OwnWalkIn
import Derived.TacticsInMore
import Derived.LoopNIn
import Derived.LoopIn
import Derived.Maps.AppendAt
import Derived.Deep.AppendLies
import Derived.OwnWalk
import Derived.StillTail
import Derived.StillTactics
import Derived.OrdersIn
import Derived.TacticsIn
import Derived.Shelf.Spec.TrailingZeros
import Derived.StillTailTactics
import Derived.Test.YtacglafoahmcnaaDoorD
import Derived.Test.YtacglafoahmcnaaDoorN
import Derived.Test.YtacglafoahmcnaaDoorT
import Derived.Test.YtacglafoahmcnaaDoorUa
import Derived.Test.YtacglafoahmcnaaDoorUd
namespace Go.Proofs.YtacglafoahmcnaaDoor
open Go.RowKit

theorem mem_mem (s v : Nat) : v ∈ mem s ↔ v < 6 ∧ s.testBit v = true := by simp [mem]
theorem dualBits_test (ps : List (Nat × Nat)) (v i : Nat) : (dualBits ps v).testBit i = decide ((i, v) ∈ ps) := by
  have key : ∀ (l : List (Nat × Nat)) (t : Nat), (l.foldl (fun t p => if p.2 = v then t ||| 2 ^ p.1 else t) t).testBit i = (t.testBit i || decide ((i, v) ∈ l)) := by
    intro l
    induction l with
    | nil => intro t; simp
    | cons x l ih =>
      intro t
      rw [List.foldl_cons, ih]
      by_cases h : x.2 = v
      · rw [if_pos h, Nat.testBit_or, Nat.testBit_two_pow]
        by_cases h2 : x.1 = i
        · have : x = (i, v) := by rw [← h, ← h2]
          simp [this]
        · have h3 : ¬ (i, v) = x := fun e => h2 (by rw [← e])
          simp [h2, h3]
      · rw [if_neg h]
        have h3 : ¬ (i, v) = x := fun e => h (by rw [← e])
        simp [h3]
  have := key ps 0
  simpa [dualBits] using this

theorem prs_mem (zs : List Int) (n i v : Nat) : (i, v) ∈ prsP (pairs zs n) ↔ i < n ∧ v ∈ mem (zs[i]?.getD 0).toNat := by
  simp only [prsP, List.mem_flatMap, List.mem_map, pairs, List.mem_range]
  constructor
  · rintro ⟨p, ⟨j, hj, rfl⟩, u, hu, he⟩
    injection he with e1 e2
    subst e1; subst e2
    exact ⟨hj, hu⟩
  · rintro ⟨h1, h2⟩
    exact ⟨_, ⟨i, h1, rfl⟩, v, h2, rfl⟩

theorem dualBits_pow (zs : List Int) (n v : Nat) : dualBits (prsP (pairs zs n)) v < 2 ^ n := by
  apply Nat.lt_pow_two_of_testBit
  intro i hi
  rw [dualBits_test]
  simp only [decide_eq_false_iff_not, prs_mem]
  omega

theorem dual_dual (k : Nat) (zs : List Int) (hf : famIn (k : Int) zs = true) (h1 : 1 ≤ zs.length) (h6 : zs.length ≤ 6) :
    dualIn (zs.length : Int) (dualL k (prsP (pairs zs zs.length))) = true ∧
    dualM (zs.length : Int) (dualL k (prsP (pairs zs zs.length))) = (k : Int) ∧
    dualZ (zs.length : Int) (dualL k (prsP (pairs zs zs.length))) = zs := by
  obtain ⟨hm1, hm6, hl8, hz⟩ := famIn_out hf
  obtain ⟨n, hn⟩ : ∃ n, n = zs.length := ⟨_, rfl⟩
  rw [← hn] at h1 h6 ⊢
  have hfull : ∀ m : Nat, fullI (m : Int) = ((2 ^ m : Nat) : Int) - 1 := fun m => by simp [fullI]
  have hin : dualIn (n : Int) (dualL k (prsP (pairs zs n))) = true := by
    rw [dualIn_split, dualL_length, Bool.and_eq_true]
    refine ⟨?_, inB_true (by omega) (by omega)⟩
    simp only [famIn, Bool.and_eq_true, decide_eq_true_eq, List.all_eq_true]
    refine ⟨inB_true (by omega) (by omega), by rw [dualL_length]; omega, fun z hz' => ?_⟩
    obtain ⟨v, hv, rfl⟩ := List.mem_map.1 hz'
    have := dualBits_pow zs n v
    exact inB_true (by omega) (by rw [hfull]; omega)
  refine ⟨hin, by rw [dualM, if_pos hin, dualL_length], ?_⟩
  rw [dualZ, if_pos hin, dualL_length]
  apply List.ext_getElem
  · rw [dualL_length]; omega
  · intro v g1 g2
    have hvn : v < n := by rw [dualL_length] at g1; omega
    have hzv := hz zs[v] (List.getElem_mem _)
    rw [hfull] at hzv
    have hzn : zs[v].toNat < 2 ^ k := by omega
    have e1 : (dualL ((n : Int).toNat) (prsP (pairs (dualL k (prsP (pairs zs n))) k)))[v] = ((dualBits (prsP (pairs (dualL k (prsP (pairs zs n))) k)) v : Nat) : Int) := by simp [dualL]
    rw [e1]
    have e2 : dualBits (prsP (pairs (dualL k (prsP (pairs zs n))) k)) v = zs[v].toNat := by
      apply Nat.eq_of_testBit_eq
      intro u
      rw [dualBits_test]
      have h2 : ((u, v) ∈ prsP (pairs (dualL k (prsP (pairs zs n))) k)) ↔ zs[v].toNat.testBit u = true := by
        rw [prs_mem]
        constructor
        · rintro ⟨hu, hm⟩
          rw [dualL_at _ _ _ hu, Option.getD_some, Int.toNat_natCast, mem_mem, dualBits_test, decide_eq_true_eq, prs_mem] at hm
          have h3 := (mem_mem _ _).1 hm.2.2
          rw [show zs[v]?.getD 0 = zs[v] from by simp [g2]] at h3
          exact h3.2
        · intro ht
          have hu : u < k := by
            rcases Nat.lt_or_ge u k with h | h
            · exact h
            · rw [Nat.testBit_lt_two_pow (Nat.lt_of_lt_of_le hzn (Nat.pow_le_pow_right (by decide) h))] at ht; cases ht
          refine ⟨hu, ?_⟩
          rw [dualL_at _ _ _ hu, Option.getD_some, Int.toNat_natCast, mem_mem, dualBits_test, decide_eq_true_eq, prs_mem, mem_mem]
          rw [show zs[v]?.getD 0 = zs[v] from by simp [g2]]
          exact ⟨by omega, hvn, by omega, ht⟩
      cases hb : zs[v].toNat.testBit u
      · simp only [decide_eq_false_iff_not, h2, hb]; decide
      · simp only [decide_eq_true_eq, h2, hb]
    rw [e2]
    omega

end Go.Proofs.YtacglafoahmcnaaDoor
