/- It is proved what ascending lists without repeats are, and what l1Simple returns; conditions: the bounds in each statement. -/
import Derived.Lib.SlicesCompact
import Derived.Lib.OwnBridge
import Derived.Test.YtfhhfilkabjhaaaDoorRows
import Derived.WalkKit
import Derived.WalkSpells
import Derived.ProofKit
import Derived.OpenShut
import Derived.ShutString
import Derived.ChangeOld
import Derived.Below
import Derived.Deep.RegionHeld3
import Derived.Deep.QuietTactic
import Derived.BigQuiet
import Derived.Lib.Hide
import Derived.Lib.SmallJoins
import Derived.Outline
import Derived.Laws.MakeOwn
import Derived.Laws.OwnMore
import Derived.IntWalk
import Derived.Lib.AppendZeros
import Derived.Maps.AppendAt
import Derived.Deep.AppendLies
import Derived.OwnWalk
import Derived.RangeFuncNested
import Derived.RangeFuncBound
import Derived.RangeFuncCalls
import Derived.RangeFuncLeaves
import Derived.RangeFuncBox
import Derived.Shelf.Abstract
import Derived.Shelf.RegionOpen
import Derived.OwnWalkIn
import Derived.TacticsInMore
import Derived.LoopNIn
import Derived.LoopIn
import Derived.Test.YtfhhfilkabjhaaaDoorRaab
import Derived.Test.YtfhhfilkabjhaaaDoorRaaf
import Derived.Shelf.Sort.Plain
import Derived.Shelf.Slices.In.SortNone
import Derived.Shelf.Slices.CompactI
import Derived.Ground.Names2Prog
import Derived.Lib.SliceRun
namespace Go.Proofs.YtfhhfilkabjhaaaDoor
open Go.RowKit

/-- Ascending, each number once. -/
def Asc (xs : List Int) : Prop := xs.Pairwise (· < ·)

theorem asc_ext : ∀ (xs ys : List Int), Asc xs → Asc ys → (∀ z, z ∈ xs ↔ z ∈ ys) → xs = ys
  | [], [], _, _, _ => rfl
  | [], y :: _, _, _, h => by have := (h y).2 (by simp); simp at this
  | x :: _, [], _, _, h => by have := (h x).1 (by simp); simp at this
  | x :: xs, y :: ys, hx, hy, h => by
    have hx' := List.pairwise_cons.1 hx
    have hy' := List.pairwise_cons.1 hy
    have e : x = y := by
      have h1 := (h x).1 (by simp)
      have h2 := (h y).2 (by simp)
      rcases List.mem_cons.1 h1 with h1 | h1
      · exact h1
      · rcases List.mem_cons.1 h2 with h2 | h2
        · exact h2.symm
        · have := hy'.1 x h1
          have := hx'.1 y h2
          omega
    subst e
    rw [asc_ext xs ys hx'.2 hy'.2 fun z => ?_]
    constructor
    · intro hz
      have hlt := hx'.1 z hz
      rcases List.mem_cons.1 ((h z).1 (List.mem_cons_of_mem _ hz)) with h1 | h1
      · omega
      · exact h1
    · intro hz
      have hlt := hy'.1 z hz
      rcases List.mem_cons.1 ((h z).2 (List.mem_cons_of_mem _ hz)) with h1 | h1
      · omega
      · exact h1

/-- All clubs in order, once. -/
def simpZ (zs : List Int) : List Int := Lib.compact (zs.mergeSort fun x y => decide (x ≤ y))

theorem compact_asc (zs : List Int) (h : zs.Pairwise (· ≤ ·)) : Asc (Lib.compact zs) := by
  unfold Asc Lib.compact Lib.compactUpTo
  rw [List.pairwise_map]
  refine List.Pairwise.imp_of_mem (R := fun a b => a < b) ?_ (List.Pairwise.filter _ List.pairwise_lt_range)
  intro i j _ hj hij
  have hj' := List.mem_filter.1 hj
  have hjl : j < zs.length := List.mem_range.1 hj'.1
  have hk : j = 0 ∨ zs.toArray[j]! ≠ zs.toArray[j - 1]! := by simpa [Lib.keeps] using hj'.2
  have hk2 : zs.toArray[j]! ≠ zs.toArray[j - 1]! := by
    rcases hk with rfl | hk
    · omega
    · exact hk
  have e1 : zs.toArray[j]! = zs[j] := by simp [hjl]
  have e2 : zs.toArray[j - 1]! = zs[j - 1]'(by omega) := by simp [show j - 1 < zs.length by omega]
  have e3 : zs.toArray[i]! = zs[i]'(by omega) := by simp [show i < zs.length by omega]
  rw [e1, e2] at hk2
  rw [e1, e3]
  have h1 : zs[j - 1]'(by omega) ≤ zs[j] := List.pairwise_iff_getElem.1 h (j - 1) j (by omega) hjl (by omega)
  have h2 : zs[i]'(by omega) ≤ zs[j - 1]'(by omega) := by
    rcases Nat.lt_or_ge i (j - 1) with hlt | hge
    · exact List.pairwise_iff_getElem.1 h i (j - 1) (by omega) (by omega) hlt
    · have e : i = j - 1 := by omega
      subst e; exact Int.le_refl _
  omega

theorem compact_mem (zs : List Int) (z : Int) : z ∈ Lib.compact zs ↔ z ∈ zs := by
  unfold Lib.compact Lib.compactUpTo
  constructor
  · intro h
    obtain ⟨i, hi, e⟩ := List.mem_map.1 h
    have hil : i < zs.length := List.mem_range.1 (List.mem_filter.1 hi).1
    rw [← e]
    simp [hil]
  · intro h
    obtain ⟨i, hi, e⟩ := List.getElem_of_mem h
    have go : ∀ n i (hi : i < zs.length), i ≤ n → zs[i] = z → z ∈ ((List.range zs.length).filter (Lib.keeps zs.toArray)).map (zs.toArray[·]!) := by
      intro n
      induction n with
      | zero =>
        intro i hi hle e
        obtain rfl : i = 0 := by omega
        exact List.mem_map.2 ⟨0, List.mem_filter.2 ⟨List.mem_range.2 hi, by simp [Lib.keeps]⟩, by simp [hi, e]⟩
      | succ n ih =>
        intro i hi hle e
        by_cases hk : Lib.keeps zs.toArray i = true
        · exact List.mem_map.2 ⟨i, List.mem_filter.2 ⟨List.mem_range.2 hi, hk⟩, by simp [hi, e]⟩
        · have hk' : ¬ (i = 0 ∨ zs.toArray[i]! ≠ zs.toArray[i - 1]!) := by simpa [Lib.keeps] using hk
          have h0 : i ≠ 0 := fun h => hk' (.inl h)
          have h1 : zs.toArray[i]! = zs.toArray[i - 1]! := Classical.byContradiction fun h => hk' (.inr h)
          have e2 : zs.toArray[i - 1]! = zs[i - 1]'(by omega) := by simp [show i - 1 < zs.length by omega]
          have e1 : zs.toArray[i]! = zs[i] := by simp [hi]
          exact ih (i - 1) (by omega) (by omega) (by rw [← e2, ← h1, e1]; exact e)
    exact go i i hi (Nat.le_refl _) e

theorem sorted_le (zs : List Int) : (zs.mergeSort fun x y => decide (x ≤ y)).Pairwise (· ≤ ·) := by
  have := List.pairwise_mergeSort (le := fun x y : Int => decide (x ≤ y)) (by intro a b c h1 h2; simp at h1 h2 ⊢; omega) (by intro a b; simp; omega) zs
  exact this.imp (by intro a b h; simpa using h)

theorem simpZ_asc (zs : List Int) : Asc (simpZ zs) := compact_asc _ (sorted_le zs)
theorem simpZ_mem (zs : List Int) (z : Int) : z ∈ simpZ zs ↔ z ∈ zs := by
  unfold simpZ; rw [compact_mem, List.mem_mergeSort]

theorem simpZ_of {zs ys : List Int} (h : Asc ys) (hm : ∀ z, z ∈ ys ↔ z ∈ zs) : ys = simpZ zs :=
  asc_ext _ _ h (simpZ_asc zs) fun z => (hm z).trans (simpZ_mem zs z).symm

theorem simpZ_le (zs : List Int) : (simpZ zs).length ≤ zs.length := by
  unfold simpZ
  exact Nat.le_trans (Lib.compact_length_le _) (by rw [List.length_mergeSort]; exact Nat.le_refl _)

theorem put_asc {zs : List Int} {x : Int} {k n : Nat} (hl : zs.length = n) (hk : k ≤ n) (ha : Asc zs) (h1 : ∀ j, k ≤ j → j < n → x < zs[j]?.getD 0) (h2 : ∀ k', k = k' + 1 → zs[k']?.getD 0 < x) :
    Asc (zs.take k ++ [x] ++ zs.drop k) := by
  have hlow : ∀ y ∈ zs.take k, y < x := by
    intro y hy
    obtain ⟨i, hi, e⟩ := List.getElem_of_mem hy
    have hik : i < k := by simp at hi; omega
    have hil : i < zs.length := by omega
    have e' : zs[i] = y := by rw [← e]; simp
    obtain ⟨k', rfl⟩ : ∃ k', k = k' + 1 := ⟨k - 1, by omega⟩
    have h := h2 k' rfl
    have hkl : k' < zs.length := by omega
    simp [hkl] at h
    rcases Nat.lt_or_ge i k' with hlt | hge
    · have := List.pairwise_iff_getElem.1 ha i k' hil hkl hlt
      omega
    · have : i = k' := by omega
      subst this; omega
  have hhigh : ∀ y ∈ zs.drop k, x < y := by
    intro y hy
    obtain ⟨i, hi, e⟩ := List.getElem_of_mem hy
    have hil : k + i < zs.length := by simp at hi; omega
    have := h1 (k + i) (by omega) (by omega)
    simp [hil] at this
    rw [List.getElem_drop] at e
    omega
  have ht : Asc (zs.take k) := List.Pairwise.sublist (List.take_sublist _ _) ha
  have hd : Asc (zs.drop k) := List.Pairwise.sublist (List.drop_sublist _ _) ha
  unfold Asc
  rw [List.pairwise_append]
  refine ⟨?_, hd, ?_⟩
  · rw [List.pairwise_append]
    exact ⟨ht, by simp, fun a ha b hb => by
      have : b = x := by simpa using hb
      subst this; exact hlow a ha⟩
  · intro a ha b hb
    rcases List.mem_append.1 ha with ha | ha
    · have := hlow a ha
      have := hhigh b hb
      omega
    · have : a = x := by simpa using ha
      subst this; exact hhigh b hb

theorem put_mem {zs : List Int} {x : Int} (k : Nat) (z : Int) : z ∈ zs.take k ++ [x] ++ zs.drop k ↔ z ∈ zs ∨ z = x := by
  have h := List.take_append_drop k zs
  constructor
  · intro hz
    rcases List.mem_append.1 hz with hz | hz
    · rcases List.mem_append.1 hz with hz | hz
      · exact .inl (List.mem_of_mem_take hz)
      · exact .inr (by simpa using hz)
    · exact .inl (List.mem_of_mem_drop hz)
  · rintro (hz | hz)
    · rw [← h] at hz
      rcases List.mem_append.1 hz with hz | hz
      · simp [hz]
      · simp [hz]
    · simp [hz]

theorem put_len {zs : List Int} {x : Int} {k n : Nat} (hl : zs.length = n) (hk : k ≤ n) : (zs.take k ++ [x] ++ zs.drop k).length = n + 1 := by
  simp; omega

/-- What a function of a list returns: a list of the call's own. -/
def RetOwn (w : World) (ys : List Int) (e : Ending) (w' : World) : Prop :=
  ∃ g c, e = .returned (.slice (some ⟨g, 0, none⟩) ys.length c) ∧ OwnN w' w.heap.size (some ⟨g, 0, none⟩) ys.length c ys ∧ Below w.heap.size w w'

theorem take_mem_succ {zs : List Int} {k : Nat} (h : k < zs.length) (z : Int) : z ∈ zs.take (k + 1) ↔ z ∈ zs.take k ∨ z = zs[k]?.getD 0 := by
  rw [List.take_succ_eq_append_getElem h, List.mem_append, List.mem_singleton]; simp only [List.getElem?_eq_getElem h, Option.getD_some]

end Go.Proofs.YtfhhfilkabjhaaaDoor

/- It is proved what the closures of FamilyLeast, FamilyGreatest and without return; conditions: those of each statement. -/
namespace Go.Proofs.YtfhhfilkabjhaaaDoor
open Go.RowKit Go.Shelf

attribute [local go_sem] Oper.semAt_some

def leG (o z : Int) : Bool := bits .andNot .i64 o z == 0
def geG (o z : Int) : Bool := leG z o
theorem partOf_any (c d : Int) (w : World) : Calls Tryd.prog 66 #[.int .i64 c, .int .i64 d] w fun e w' => e = .returned (.bool (leG c d)) ∧ w = w' := by
  go_enter Tryd.func66, Tryd.ntmps66
  go_wp2
  go_ret
  exact ⟨rfl, rfl⟩

/-- A set that another one of the clubs beats. -/
def beatBy (g : Int → Int → Bool) (z o : Int) : Bool := (o != z) && g o z

def beaten (g : Int → Int → Bool) (zs : List Int) (z : Int) : Bool := zs.any (beatBy g z)
end Go.Proofs.YtfhhfilkabjhaaaDoor

/- It is proved what the method without, FamilyLeast and FamilyGreatest of the program return; conditions: those of each statement. -/
namespace Go.Proofs.YtfhhfilkabjhaaaDoor
open Go.RowKit

/-- The clubs in order, once, that no other one beats. -/
def unbeaten (g : Int → Int → Bool) (zs : List Int) : List Int := (simpZ zs).filter fun z => !beaten g zs z

theorem unbeaten_le (g : Int → Int → Bool) (zs : List Int) : (unbeaten g zs).length ≤ zs.length := Nat.le_trans (List.length_filter_le _ _) (simpZ_le zs)
theorem ownBlock_len {a : Option Addr} {n k cap : Nat} {b : Nat} (h : (Value.slice a n cap).ownBlock ≠ some b) : (Value.slice a k cap).ownBlock ≠ some b := by
  cases a with
  | none => simp [Value.ownBlock]
  | some x => exact h

end Go.Proofs.YtfhhfilkabjhaaaDoor

/- It is proved that least clubs are parts of no other one, and that each club has one of them as a part; conditions: those of each statement. -/
namespace Go.Proofs.YtfhhfilkabjhaaaDoor
open Go.RowKit

theorem unbeaten_mem (g : Int → Int → Bool) (zs : List Int) (z : Int) : z ∈ unbeaten g zs ↔ z ∈ zs ∧ beaten g zs z = false := by
  simp [unbeaten, List.mem_filter, simpZ_mem]

theorem unbeaten_asc (g : Int → Int → Bool) (zs : List Int) : Asc (unbeaten g zs) := List.Pairwise.filter _ (simpZ_asc zs)
theorem asc_ne {xs : List Int} (h : Asc xs) {i k : Nat} (hi : i < xs.length) (hk : k < xs.length) (hne : i ≠ k) : xs[i] ≠ xs[k] := by
  have h1 := List.pairwise_iff_getElem.1 h
  rcases Nat.lt_or_gt_of_ne hne with h2 | h2
  · have := h1 i k hi hk h2; omega
  · have := h1 k i hk hi h2; omega

theorem least_apart (zs : List Int) {i k : Nat} (hi : i < (unbeaten leG zs).length) (hk : k < (unbeaten leG zs).length) (hne : i ≠ k) : leG (unbeaten leG zs)[i] (unbeaten leG zs)[k] = false := by
  have h1 := (unbeaten_mem leG zs _).1 (List.getElem_mem hi)
  have h2 := (unbeaten_mem leG zs _).1 (List.getElem_mem hk)
  have h3 := asc_ne (unbeaten_asc leG zs) hi hk hne
  have h4 := List.any_eq_false.1 h2.2 _ h1.1
  simp only [beatBy, Bool.and_eq_true, bne_iff_ne, ne_eq, not_and, Bool.not_eq_true] at h4
  exact h4 h3

set_option maxRecDepth 100000 in
theorem leG_fin : ∀ o : Fin 64, ∀ z : Fin 64, leG (o.val : Int) (z.val : Int) = decide (o.val &&& z.val = o.val) := by decide +kernel

theorem leG_nat (o z : Nat) (ho : o < 64) (hz : z < 64) : leG (o : Int) (z : Int) = decide (o &&& z = o) := leG_fin ⟨o, ho⟩ ⟨z, hz⟩
theorem least_below (zs : List Int) (hz : ∀ z ∈ zs, 0 ≤ z ∧ z < 64) : ∀ (n : Nat) (z : Int), z.toNat = n → z ∈ zs → ∃ o ∈ unbeaten leG zs, leG o z = true := by
  intro n
  induction n using Nat.strongRecOn with
  | _ n ih =>
    intro z hn hm
    have hz1 := hz z hm
    obtain ⟨a, rfl⟩ : ∃ a : Nat, z = (a : Int) := ⟨z.toNat, by omega⟩
    cases hb : beaten leG zs (a : Int)
    · exact ⟨(a : Int), (unbeaten_mem leG zs _).2 ⟨hm, hb⟩, by rw [leG_nat a a (by omega) (by omega)]; simp⟩
    · obtain ⟨o, ho, hbo⟩ := List.any_eq_true.1 hb
      simp only [beatBy, Bool.and_eq_true, bne_iff_ne, ne_eq] at hbo
      have ho1 := hz o ho
      obtain ⟨b, rfl⟩ : ∃ b : Nat, o = (b : Int) := ⟨o.toNat, by omega⟩
      have hab := hbo.2
      rw [leG_nat b a (by omega) (by omega), decide_eq_true_eq] at hab
      have hle : b ≤ a := by rw [← hab]; exact Nat.and_le_right
      have hlt : b < a := by
        have : ¬ b = a := fun e => hbo.1 (by rw [e])
        omega
      obtain ⟨q, hq, hqb⟩ := ih b (by simp at hn; omega) (b : Int) (by simp) ho
      have hq1 := hz q ((unbeaten_mem leG zs _).1 hq).1
      obtain ⟨c, rfl⟩ : ∃ c : Nat, q = (c : Int) := ⟨q.toNat, by omega⟩
      refine ⟨(c : Int), hq, ?_⟩
      rw [leG_nat c b (by omega) (by omega), decide_eq_true_eq] at hqb
      rw [leG_nat c a (by omega) (by omega), decide_eq_true_eq, ← hqb, Nat.and_assoc, hab]

theorem least_under (zs : List Int) (hz : ∀ z ∈ zs, 0 ≤ z ∧ z < 64) (i : Nat) (hi : i < zs.length) : ∃ k, ∃ hk : k < (unbeaten leG zs).length, leG (unbeaten leG zs)[k] zs[i] = true := by
  obtain ⟨o, ho, h⟩ := least_below zs hz _ zs[i] rfl (List.getElem_mem hi)
  obtain ⟨k, hk, rfl⟩ := List.getElem_of_mem ho
  exact ⟨k, hk, h⟩

end Go.Proofs.YtfhhfilkabjhaaaDoor
