/- It is proved that least clubs are parts of no other one, and that each club has one of them as a part; conditions: those of each statement. -/
import Derived.Test.YtkmaebkfmljiiaaRows
import Derived.WalkKit
import Derived.WalkSpells
import Derived.ProofKit
import Derived.OpenShut
import Derived.ShutString
import Derived.ChangeOld
import Derived.Below
import Derived.Deep.RegionHeld3
import Derived.Deep.QuietTactic
import Derived.BigQuiet
import Derived.Lib.Hide
import Derived.Lib.SmallJoins
import Derived.Outline
import Derived.Laws.MakeOwn
import Derived.Laws.OwnMore
import Derived.IntWalk
import Derived.Lib.AppendZeros
import Derived.Maps.AppendAt
import Derived.Deep.AppendLies
import Derived.OwnWalk
import Derived.Lib.SlicesCompact
import Derived.Lib.OwnBridge
import Derived.Shelf.Sort.Plain
import Derived.Shelf.Slices.In.SortNone
import Derived.Shelf.Slices.CompactI
import Derived.Ground.Names2Prog
import Derived.Lib.SliceRun
import Derived.RangeFuncNested
import Derived.RangeFuncBound
import Derived.RangeFuncCalls
import Derived.RangeFuncLeaves
import Derived.RangeFuncBox
import Derived.Shelf.Abstract
import Derived.Shelf.RegionOpen
import Derived.OwnWalkIn
import Derived.TacticsInMore
import Derived.LoopNIn
import Derived.LoopIn
import Derived.Test.YtkmaebkfmljiiaaHb
import Derived.Test.YtkmaebkfmljiiaaHu
import Derived.Test.YtkmaebkfmljiiaaHw
namespace Go.Proofs.Ytkmaebkfmljiiaa
open Go.RowKit

theorem unbeaten_mem (g : Int → Int → Bool) (zs : List Int) (z : Int) : z ∈ unbeaten g zs ↔ z ∈ zs ∧ beaten g zs z = false := by
  simp [unbeaten, List.mem_filter, simpZ_mem]

theorem unbeaten_asc (g : Int → Int → Bool) (zs : List Int) : Asc (unbeaten g zs) := List.Pairwise.filter _ (simpZ_asc zs)
theorem asc_ne {xs : List Int} (h : Asc xs) {i k : Nat} (hi : i < xs.length) (hk : k < xs.length) (hne : i ≠ k) : xs[i] ≠ xs[k] := by
  have h1 := List.pairwise_iff_getElem.1 h
  rcases Nat.lt_or_gt_of_ne hne with h2 | h2
  · have := h1 i k hi hk h2; omega
  · have := h1 k i hk hi h2; omega

theorem least_apart (zs : List Int) {i k : Nat} (hi : i < (unbeaten leG zs).length) (hk : k < (unbeaten leG zs).length) (hne : i ≠ k) : leG (unbeaten leG zs)[i] (unbeaten leG zs)[k] = false := by
  have h1 := (unbeaten_mem leG zs _).1 (List.getElem_mem hi)
  have h2 := (unbeaten_mem leG zs _).1 (List.getElem_mem hk)
  have h3 := asc_ne (unbeaten_asc leG zs) hi hk hne
  have h4 := List.any_eq_false.1 h2.2 _ h1.1
  simp only [beatBy, Bool.and_eq_true, bne_iff_ne, ne_eq, not_and, Bool.not_eq_true] at h4
  exact h4 h3

set_option maxRecDepth 100000 in
theorem leG_fin : ∀ o : Fin 64, ∀ z : Fin 64, leG (o.val : Int) (z.val : Int) = decide (o.val &&& z.val = o.val) := by decide +kernel

theorem leG_nat (o z : Nat) (ho : o < 64) (hz : z < 64) : leG (o : Int) (z : Int) = decide (o &&& z = o) := leG_fin ⟨o, ho⟩ ⟨z, hz⟩
theorem least_below (zs : List Int) (hz : ∀ z ∈ zs, 0 ≤ z ∧ z < 64) : ∀ (n : Nat) (z : Int), z.toNat = n → z ∈ zs → ∃ o ∈ unbeaten leG zs, leG o z = true := by
  intro n
  induction n using Nat.strongRecOn with
  | _ n ih =>
    intro z hn hm
    have hz1 := hz z hm
    obtain ⟨a, rfl⟩ : ∃ a : Nat, z = (a : Int) := ⟨z.toNat, by omega⟩
    cases hb : beaten leG zs (a : Int)
    · exact ⟨(a : Int), (unbeaten_mem leG zs _).2 ⟨hm, hb⟩, by rw [leG_nat a a (by omega) (by omega)]; simp⟩
    · obtain ⟨o, ho, hbo⟩ := List.any_eq_true.1 hb
      simp only [beatBy, Bool.and_eq_true, bne_iff_ne, ne_eq] at hbo
      have ho1 := hz o ho
      obtain ⟨b, rfl⟩ : ∃ b : Nat, o = (b : Int) := ⟨o.toNat, by omega⟩
      have hab := hbo.2
      rw [leG_nat b a (by omega) (by omega), decide_eq_true_eq] at hab
      have hle : b ≤ a := by rw [← hab]; exact Nat.and_le_right
      have hlt : b < a := by
        have : ¬ b = a := fun e => hbo.1 (by rw [e])
        omega
      obtain ⟨q, hq, hqb⟩ := ih b (by simp at hn; omega) (b : Int) (by simp) ho
      have hq1 := hz q ((unbeaten_mem leG zs _).1 hq).1
      obtain ⟨c, rfl⟩ : ∃ c : Nat, q = (c : Int) := ⟨q.toNat, by omega⟩
      refine ⟨(c : Int), hq, ?_⟩
      rw [leG_nat c b (by omega) (by omega), decide_eq_true_eq] at hqb
      rw [leG_nat c a (by omega) (by omega), decide_eq_true_eq, ← hqb, Nat.and_assoc, hab]

theorem least_under (zs : List Int) (hz : ∀ z ∈ zs, 0 ≤ z ∧ z < 64) (i : Nat) (hi : i < zs.length) : ∃ k, ∃ hk : k < (unbeaten leG zs).length, leG (unbeaten leG zs)[k] zs[i] = true := by
  obtain ⟨o, ho, h⟩ := least_below zs hz _ zs[i] rfl (List.getElem_mem hi)
  obtain ⟨k, hk, rfl⟩ := List.getElem_of_mem ho
  exact ⟨k, hk, h⟩

end Go.Proofs.Ytkmaebkfmljiiaa
