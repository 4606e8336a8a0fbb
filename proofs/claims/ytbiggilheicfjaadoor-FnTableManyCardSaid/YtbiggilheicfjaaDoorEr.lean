/- It is proved how degrees are left behind a club, and how clubs so far are kept; conditions: those of each statement. -/
import Derived.RowKit
import Derived.Laws.CopyRow
import Derived.Lib.SlBuf
import Derived.RangeFuncNested
import Derived.RangeFuncBound
import Derived.RangeFuncCalls
import Derived.RangeFuncLeaves
import Derived.RangeFuncBox
import Derived.RangeFuncWrites
import Derived.StillTailTactics
import Derived.Test.YtbiggilheicfjaaDoorRows
import Derived.WalkKit
import Derived.WalkSpells
import Derived.ProofKit
import Derived.OpenShut
import Derived.ShutString
import Derived.ChangeOld
import Derived.Below
import Derived.Deep.RegionHeld3
import Derived.Deep.QuietTactic
import Derived.BigQuiet
import Derived.Lib.Hide
import Derived.Lib.SmallJoins
import Derived.Outline
import Derived.Laws.MakeOwn
import Derived.Laws.OwnMore
import Derived.IntWalk
import Derived.Sort.QuietIn
import Derived.Lib.AppendZeros
import Derived.Maps.AppendAt
import Derived.Deep.AppendLies
import Derived.OwnWalk
import Derived.Shelf.Abstract
import Derived.Shelf.RegionOpen
import Derived.OwnWalkIn
import Derived.TacticsInMore
import Derived.LoopNIn
import Derived.LoopIn
import Derived.StillTail
import Derived.StillTactics
import Derived.OrdersIn
import Derived.TacticsIn
import Derived.Shelf.Spec.TrailingZeros
import Derived.Test.YtbiggilheicfjaaDoorAi
import Derived.Test.YtbiggilheicfjaaDoorEc
import Derived.Test.YtbiggilheicfjaaDoorEn
import Derived.Test.YtbiggilheicfjaaDoorEp
import Derived.Test.YtbiggilheicfjaaDoorT
namespace Go.Proofs.YtbiggilheicfjaaDoor
open Go.RowKit Go.Shelf

theorem lessV_at : ∀ (us : List Nat) (xs : List Int) (v : Nat), v < xs.length → (lessV xs us)[v]?.getD 0 = xs[v]?.getD 0 - (us.count v : Nat)
  | [], xs, v, _ => by simp [lessV]
  | u :: us, xs, v, hv => by
    have ih := lessV_at us (dec1 xs u) v (by simpa [dec1] using hv)
    rw [lessV, List.foldl_cons]
    unfold lessV at ih
    rw [ih, List.count_cons]
    unfold dec1
    by_cases e : u = v
    · subst e
      rw [List.getElem?_set_self hv, Option.getD_some]
      simp; omega
    · rw [List.getElem?_set_ne e]
      have : (u == v) = false := by simpa using e
      simp [this]

theorem atL_bit (xs : List Int) (k : Int) : ∀ j v, (atL xs k j).testBit v = (decide (v < j) && decide (k ≤ xs[v]?.getD 0))
  | 0, v => by simp [atL]
  | j + 1, v => by
    rw [atL_succ]
    split
    · rename_i h
      rw [Nat.testBit_or, atL_bit xs k j v, Nat.testBit_two_pow]
      by_cases e : v = j
      · subst e; simp [h]
      · have : ¬ j = v := fun h => e h.symm
        by_cases h2 : v < j
        · simp [this, h2, show v < j + 1 by omega]
        · simp [this, h2, show ¬ v < j + 1 by omega]
    · rename_i h
      rw [atL_bit xs k j v]
      by_cases e : v = j
      · subst e; simp [h]
      · by_cases h2 : v < j
        · simp [h2, show v < j + 1 by omega]
        · simp [h2, show ¬ v < j + 1 by omega]

set_option maxRecDepth 100000 in
theorem count01_fin : ∀ s : Fin 64, ∀ v : Fin 6, (mem s.val).count v.val = if s.val.testBit v.val then 1 else 0 := by decide +kernel

theorem count01 {s v : Nat} (hs : s < 64) (hv : v < 6) : (mem s).count v = if s.testBit v then 1 else 0 := count01_fin ⟨s, hs⟩ ⟨v, hv⟩
theorem less_in {left : List Int} (hl : left.length = 5) (hB : ∀ x ∈ left, 0 ≤ x ∧ x ≤ 5) {c : Nat} (hc : c < 32) (hcc : c &&& atL left 1 5 = c) : ∀ x ∈ lessV left (mem c), 0 ≤ x ∧ x ≤ 5 := by
  intro x hx
  obtain ⟨v, hv, e⟩ := List.getElem_of_mem hx
  rw [lessV_len, hl] at hv
  have hv2 : v < left.length := by omega
  have h1 := lessV_at (mem c) left v hv2
  have e2 : x = (lessV left (mem c))[v]?.getD 0 := by rw [← e]; simp [lessV_len, hv2]
  rw [h1, count01 (by omega) (by omega)] at e2
  have hb := hB left[v] (List.getElem_mem _)
  have hg : left[v]?.getD 0 = left[v] := by simp [hv2]
  rw [hg] at e2
  cases ht : c.testBit v
  · rw [ht] at e2; simp at e2; omega
  · rw [ht] at e2
    have h2 : (c &&& atL left 1 5).testBit v = true := by rw [hcc]; exact ht
    rw [Nat.testBit_and, Bool.and_eq_true, atL_bit, Bool.and_eq_true, decide_eq_true_eq, decide_eq_true_eq] at h2
    have h3 := h2.2.2
    rw [hg] at h3
    simp at e2; omega

theorem MsOk.put {n : Nat} {p : List Nat} {ms : List Int} (h : MsOk n p ms) (hp : p.length < n) (hn : n ≤ 5) (c : Nat) : MsOk n (p ++ [c]) (ms.set p.length (c : Int)) := by
  refine ⟨by rw [List.length_set, h.len], ?_, by rw [List.drop_set_of_lt hp]; exact h.zer⟩
  rw [List.length_append, List.length_singleton, List.take_succ_eq_append_getElem (by rw [List.length_set, h.len]; omega), List.take_set_of_le (Nat.le_refl _), h.pre, nI_snoc]
  simp

theorem MsOk.off {n : Nat} {p : List Nat} {c : Nat} {ms : List Int} (h : MsOk n (p ++ [c]) ms) : MsOk n p ms := by
  refine ⟨h.len, ?_, h.zer⟩
  have h1 := congrArg (List.take p.length) h.pre
  rw [List.take_take, List.length_append, Nat.min_eq_left (by omega), nI_snoc, List.take_left' (nI_len p)] at h1
  exact h1

theorem arr8b (l : Array Bool) (h : l.size = 8) : ∃ l0 l1 l2 l3 l4 l5 l6 l7, l = #[l0, l1, l2, l3, l4, l5, l6, l7] := by
  obtain ⟨L⟩ := l
  match L, h with
  | [l0, l1, l2, l3, l4, l5, l6, l7], _ => exact ⟨_, _, _, _, _, _, _, _, rfl⟩

end Go.Proofs.YtbiggilheicfjaaDoor
