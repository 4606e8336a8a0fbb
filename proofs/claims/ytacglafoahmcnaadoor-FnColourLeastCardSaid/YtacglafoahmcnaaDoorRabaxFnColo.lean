/- It is proved that the greatest pack told club by club is the greatest one of all sets of places; conditions: those of each statement. -/
import Derived.Test.YtacglafoahmcnaaDoorRows
import Derived.WalkKit
import Derived.WalkSpells
import Derived.ProofKit
import Derived.OpenShut
import Derived.ShutString
import Derived.ChangeOld
import Derived.Below
import Derived.Deep.RegionHeld3
import Derived.Deep.QuietTactic
import Derived.BigQuiet
import Derived.Lib.Hide
import Derived.Lib.SmallJoins
import Derived.Outline
import Derived.Laws.MakeOwn
import Derived.Laws.OwnMore
import Derived.IntWalk
import Derived.Lib.AppendZeros
import Derived.Maps.AppendAt
import Derived.Deep.AppendLies
import Derived.OwnWalk
import Derived.Lib.SlicesCompact
import Derived.Lib.OwnBridge
import Derived.Shelf.Sort.Plain
import Derived.Shelf.Slices.In.SortNone
import Derived.Shelf.Slices.CompactI
import Derived.Ground.Names2Prog
import Derived.Lib.SliceRun
import Derived.RangeFuncNested
import Derived.RangeFuncBound
import Derived.RangeFuncCalls
import Derived.RangeFuncLeaves
import Derived.RangeFuncBox
import Derived.Shelf.Abstract
import Derived.Shelf.RegionOpen
import Derived.OwnWalkIn
import Derived.TacticsInMore
import Derived.LoopNIn
import Derived.LoopIn
import Derived.StillTail
import Derived.StillTactics
import Derived.OrdersIn
import Derived.TacticsIn
import Derived.Shelf.Spec.TrailingZeros
import Derived.StillTailTactics
import Derived.Test.YtacglafoahmcnaaDoorRaae
import Derived.Test.YtacglafoahmcnaaDoorRaaa
import Derived.Test.YtacglafoahmcnaaDoorRaab
import Derived.Test.YtacglafoahmcnaaDoorRaac
import Derived.Test.YtacglafoahmcnaaDoorRaad
import Derived.Test.YtacglafoahmcnaaDoorTb
namespace Go.Proofs.YtacglafoahmcnaaDoor
open Go.RowKit

/-- The places of a set, of the first k. -/
def memK (k p : Nat) : List Nat := (List.range k).filter fun i => p.testBit i

theorem memK_two (k b q : Nat) (hb : b < 2) : memK (k + 1) (2 * q + b) = (if b = 1 then [0] else []) ++ (memK k q).map (· + 1) := by
  unfold memK
  rw [List.range_succ_eq_map, List.filter_cons, List.filter_map]
  have h0 : (2 * q + b).testBit 0 = decide (b = 1) := by
    rw [Nat.testBit_zero]
    congr 1
    rw [eq_iff_iff]
    omega
  have h1 : ((fun i => (2 * q + b).testBit i) ∘ Nat.succ) = fun i => q.testBit i := by
    funext i
    simp only [Function.comp, Nat.succ_eq_add_one, Nat.testBit_succ]
    rw [show (2 * q + b) / 2 = q by omega]
  rw [h0, h1]
  by_cases h : b = 1
  · simp [h]
  · simp [h]

/-- No two clubs at some places have a common member, nor one with a set. -/
def packB (zs : List Int) : List Nat → Nat → Bool
  | [], _ => true
  | p :: ps, met => decide ((zs[p]?.getD 0).toNat &&& met = 0) && packB zs ps (met ||| (zs[p]?.getD 0).toNat)

theorem packB_shift (z : Int) (zs : List Int) : ∀ (ps : List Nat) (met : Nat), packB (z :: zs) (ps.map (· + 1)) met = packB zs ps met
  | [], _ => rfl
  | p :: ps, met => by
    rw [List.map_cons, packB, packB, packB_shift z zs ps]
    rfl

/-- .. told club by club. -/
def packM : List Int → Nat → Nat
  | [], _ => 0
  | z :: zs, used => if z.toNat &&& used = 0 then max (packM zs used) (1 + packM zs (used ||| z.toNat)) else packM zs used

def IsMost (zs : List Int) (met n : Nat) : Prop := (∀ q, q < 2 ^ zs.length → packB zs (memK zs.length q) met = true → (memK zs.length q).length ≤ n) ∧ ∃ q, q < 2 ^ zs.length ∧ packB zs (memK zs.length q) met = true ∧ (memK zs.length q).length = n
theorem packM_most : ∀ (zs : List Int) (met : Nat), IsMost zs met (packM zs met)
  | [], met => ⟨fun q _ _ => by simp [memK], 0, by simp, rfl, rfl⟩
  | z :: zs, met => by
    obtain ⟨a1, q1, a2, a3, a4⟩ := packM_most zs met
    obtain ⟨b1, q2, b2, b3, b4⟩ := packM_most zs (met ||| z.toNat)
    have h00 : ∀ q, packB (z :: zs) (memK (zs.length + 1) (2 * q + 0)) met = packB zs (memK zs.length q) met := fun q => by
      rw [memK_two _ 0 q (by decide), if_neg (by decide), List.nil_append, packB_shift]
    have h01 : ∀ q, (memK (zs.length + 1) (2 * q + 0)).length = (memK zs.length q).length := fun q => by
      rw [memK_two _ 0 q (by decide), if_neg (by decide), List.nil_append, List.length_map]
    have h10 : ∀ q, packB (z :: zs) (memK (zs.length + 1) (2 * q + 1)) met = (decide (z.toNat &&& met = 0) && packB zs (memK zs.length q) (met ||| z.toNat)) := fun q => by
      rw [memK_two _ 1 q (by decide), if_pos rfl, List.singleton_append, packB, packB_shift]
      rfl
    have h11 : ∀ q, (memK (zs.length + 1) (2 * q + 1)).length = 1 + (memK zs.length q).length := fun q => by
      rw [memK_two _ 1 q (by decide), if_pos rfl, List.singleton_append, List.length_cons, List.length_map]; omega
    have hp : 2 ^ (z :: zs).length = 2 * 2 ^ zs.length := by rw [List.length_cons, Nat.pow_succ]; omega
    constructor
    · intro q hq hb
      rw [List.length_cons] at hb ⊢
      rcases Nat.mod_two_eq_zero_or_one q with h | h
      · obtain ⟨r, rfl⟩ : ∃ r, q = 2 * r + 0 := ⟨q / 2, by omega⟩
        rw [h00] at hb
        rw [h01]
        have := a1 r (by omega) hb
        rw [packM]; split <;> omega
      · obtain ⟨r, rfl⟩ : ∃ r, q = 2 * r + 1 := ⟨q / 2, by omega⟩
        rw [h10, Bool.and_eq_true, decide_eq_true_eq] at hb
        rw [h11, packM, if_pos hb.1]
        have := b1 r (by omega) hb.2
        omega
    · rw [packM]
      by_cases hz : z.toNat &&& met = 0
      · rw [if_pos hz]
        by_cases hm : packM zs met ≤ 1 + packM zs (met ||| z.toNat)
        · refine ⟨2 * q2 + 1, by omega, ?_, ?_⟩
          · rw [List.length_cons, h10, b3, hz]; rfl
          · rw [List.length_cons, h11, b4]; omega
        · refine ⟨2 * q1 + 0, by omega, ?_, ?_⟩
          · rw [List.length_cons, h00, a3]
          · rw [List.length_cons, h01, a4]; omega
      · rw [if_neg hz]
        refine ⟨2 * q1 + 0, by omega, ?_, ?_⟩
        · rw [List.length_cons, h00, a3]
        · rw [List.length_cons, h01, a4]

/-- .. and set by set. -/
def mostTo (zs : List Int) (n : Nat) : Nat := (List.range n).foldl (fun b q => if packB zs (memK zs.length q) 0 then max b (memK zs.length q).length else b) 0

theorem mostTo_succ (zs : List Int) (n : Nat) : mostTo zs (n + 1) = if packB zs (memK zs.length n) 0 then max (mostTo zs n) (memK zs.length n).length else mostTo zs n := by
  simp [mostTo, List.range_succ]

theorem mostTo_ge (zs : List Int) : ∀ n q, q < n → packB zs (memK zs.length q) 0 = true → (memK zs.length q).length ≤ mostTo zs n
  | 0, q, h, _ => by omega
  | n + 1, q, h, hb => by
    rw [mostTo_succ]
    by_cases e : q = n
    · subst e; rw [if_pos hb]; omega
    · have := mostTo_ge zs n q (by omega) hb
      split <;> omega

theorem mostTo_le (zs : List Int) (N : Nat) (h : ∀ q, q < 2 ^ zs.length → packB zs (memK zs.length q) 0 = true → (memK zs.length q).length ≤ N) : ∀ n, n ≤ 2 ^ zs.length → mostTo zs n ≤ N
  | 0, _ => by simp [mostTo]
  | n + 1, hn => by
    have h1 := mostTo_le zs N h n (by omega)
    rw [mostTo_succ]
    split
    · rename_i hb
      have := h n (by omega) hb
      omega
    · exact h1

theorem most_all (zs : List Int) : mostTo zs (2 ^ zs.length) = packM zs 0 := by
  obtain ⟨h1, q, h2, h3, h4⟩ := packM_most zs 0
  have := mostTo_ge zs _ q h2 h3
  have := mostTo_le zs _ h1 _ (Nat.le_refl _)
  omega

end Go.Proofs.YtacglafoahmcnaaDoor

/- It is proved that both sides look at names alike; conditions: those of each statement. -/
namespace Go.Proofs.YtacglafoahmcnaaDoor
open Go.RowKit

/-- How many members a set has. -/
def popS (s : Nat) : Nat := (mem s).length

end Go.Proofs.YtacglafoahmcnaaDoor

/- It is proved that parts of the members are alike whoever tells them; conditions: those of each statement. -/
namespace Go.Proofs.YtacglafoahmcnaaDoor

/-- One club is let in where it meets. -/
def meet1 (t k : Nat) : Nat := if k &&& t = 0 then t else t ||| k

/-- All clubs, one behind the other. -/
def stepP (ks : List Nat) (s : Nat) : Nat := ks.foldl meet1 s

theorem stepP_snoc (ks : List Nat) (k s : Nat) : stepP (ks ++ [k]) s = meet1 (stepP ks s) k := by simp [stepP]
theorem meet1_ge (t k i : Nat) (h : t.testBit i = true) : (meet1 t k).testBit i = true := by
  unfold meet1; split
  · exact h
  · simp [h]

theorem stepP_ge (ks : List Nat) : ∀ (s i : Nat), s.testBit i = true → (stepP ks s).testBit i = true := by
  induction ks with
  | nil => intro s i h; exact h
  | cons k ks ih => intro s i h; exact ih _ i (meet1_ge s k i h)

/-- What a club meets it has whole. -/
def ClosedP (ks : List Nat) (C : Nat → Prop) : Prop := ∀ k ∈ ks, (∃ i, k.testBit i = true ∧ C i) → ∀ i, k.testBit i = true → C i

theorem and_ne {k t : Nat} (h : k &&& t ≠ 0) : ∃ i, k.testBit i = true ∧ t.testBit i = true := by
  obtain ⟨i, hi⟩ := Nat.exists_testBit_of_ne_zero h
  rw [Nat.testBit_and, Bool.and_eq_true] at hi
  exact ⟨i, hi⟩

theorem and_zero {k t : Nat} (h : k &&& t = 0) (i : Nat) (hk : k.testBit i = true) : t.testBit i = false := by
  have h1 : (k &&& t).testBit i = false := by rw [h]; simp
  rw [Nat.testBit_and, hk, Bool.true_and] at h1
  exact h1

theorem stepP_in {C : Nat → Prop} : ∀ (ks : List Nat) (s : Nat), ClosedP ks C → (∀ i, s.testBit i = true → C i) → ∀ i, (stepP ks s).testBit i = true → C i
  | [], _, _, h, i, hi => h i hi
  | k :: ks, s, hc, h, i, hi => by
    refine stepP_in ks (meet1 s k) (fun k' hk' => hc k' (by simp [hk'])) ?_ i hi
    intro j hj
    unfold meet1 at hj
    split at hj
    · exact h j hj
    · rename_i hne
      rw [Nat.testBit_or, Bool.or_eq_true] at hj
      rcases hj with hj | hj
      · exact h j hj
      · obtain ⟨x, hx1, hx2⟩ := and_ne hne
        exact hc k (by simp) ⟨x, hx1, h x hx2⟩ j hj

theorem stepP_closed : ∀ (ks : List Nat) (s : Nat), stepP ks s = s → ClosedP ks (fun i => s.testBit i = true)
  | [], _, _ => fun k hk => by simp at hk
  | k :: ks, s, h => by
    have h1 : meet1 s k = s := by
      apply Nat.eq_of_testBit_eq
      intro i
      cases hb : s.testBit i
      · cases hm : (meet1 s k).testBit i
        · rfl
        · have := stepP_ge ks _ i hm
          rw [show stepP ks (meet1 s k) = stepP (k :: ks) s from rfl, h, hb] at this
          exact this.symm
      · exact meet1_ge s k i hb
    have h2 : stepP ks s = s := by
      have : stepP (k :: ks) s = stepP ks (meet1 s k) := rfl
      rw [h1] at this
      rw [← this]; exact h
    intro k' hk' hm i hi
    rcases List.mem_cons.1 hk' with rfl | hk'
    · obtain ⟨x, hx1, hx2⟩ := hm
      have hne : ¬ (k' &&& s = 0) := fun e => by rw [and_zero e x hx1] at hx2; cases hx2
      unfold meet1 at h1
      rw [if_neg hne] at h1
      show s.testBit i = true
      rw [← h1, Nat.testBit_or, hi, Bool.or_true]
    · exact stepP_closed ks s h2 k' hk' hm i hi

def iterP (ks : List Nat) : Nat → Nat → Nat
  | 0, s => s
  | n + 1, s => stepP ks (iterP ks n s)

theorem iterP_ge (ks : List Nat) (s i : Nat) (h : s.testBit i = true) : ∀ n, (iterP ks n s).testBit i = true
  | 0 => h
  | n + 1 => stepP_ge ks _ i (iterP_ge ks s i h n)

theorem iterP_in {C : Nat → Prop} (ks : List Nat) (hc : ClosedP ks C) (s : Nat) (h : ∀ i, s.testBit i = true → C i) : ∀ n i, (iterP ks n s).testBit i = true → C i
  | 0 => h
  | n + 1 => stepP_in ks _ hc (iterP_in ks hc s h n)

theorem iterP_fix (ks : List Nat) (s n : Nat) (h : stepP ks (iterP ks n s) = iterP ks n s) : ∀ k, iterP ks (n + k) s = iterP ks n s
  | 0 => rfl
  | k + 1 => by
    have : iterP ks (n + (k + 1)) s = stepP ks (iterP ks (n + k) s) := rfl
    rw [this, iterP_fix ks s n h k, h]

set_option maxRecDepth 100000 in
theorem pop_grow : ∀ s, s < 64 → ∀ t, t < 64 → s ||| t = t → s ≠ t → popS s < popS t := by decide +kernel

set_option maxRecDepth 100000 in
theorem pop_le : ∀ m, m ≤ 6 → ∀ s, s < 2 ^ m → popS s ≤ m := by decide +kernel

theorem stepP_lt (m : Nat) (ks : List Nat) (hk : ∀ k ∈ ks, k < 2 ^ m) : ∀ s, s < 2 ^ m → stepP ks s < 2 ^ m := by
  induction ks with
  | nil => intro s h; exact h
  | cons k ks ih =>
    intro s h
    refine ih (fun k' h' => hk k' (by simp [h'])) _ ?_
    unfold meet1; split
    · exact h
    · exact Nat.or_lt_two_pow h (hk k (by simp))

theorem stepP_or (ks : List Nat) (s : Nat) : s ||| stepP ks s = stepP ks s := by
  apply Nat.eq_of_testBit_eq
  intro i
  rw [Nat.testBit_or]
  cases hb : s.testBit i
  · simp
  · rw [stepP_ge ks s i hb]; rfl

theorem iterP_lt (m : Nat) (ks : List Nat) (hk : ∀ k ∈ ks, k < 2 ^ m) (s : Nat) (hs : s < 2 ^ m) : ∀ n, iterP ks n s < 2 ^ m
  | 0 => hs
  | n + 1 => stepP_lt m ks hk _ (iterP_lt m ks hk s hs n)

/-- After m rounds nothing grows. -/
theorem iterP_done (m : Nat) (hm : m ≤ 6) (ks : List Nat) (hk : ∀ k ∈ ks, k < 2 ^ m) (s : Nat) (hs : s < 2 ^ m) (h1 : 1 ≤ popS s) : stepP ks (iterP ks m s) = iterP ks m s := by
  have h64 : ∀ n, iterP ks n s < 64 := fun n => Nat.lt_of_lt_of_le (iterP_lt m ks hk s hs n) (Nat.pow_le_pow_right (by decide) hm : 2 ^ m ≤ 2 ^ 6)
  have key : ∀ n, stepP ks (iterP ks n s) = iterP ks n s ∨ n + 1 ≤ popS (iterP ks n s) := by
    intro n
    induction n with
    | zero => exact .inr h1
    | succ n ih =>
      by_cases hf : stepP ks (iterP ks n s) = iterP ks n s
      · left
        show stepP ks (stepP ks (iterP ks n s)) = stepP ks (iterP ks n s)
        rw [hf, hf]
      · right
        rcases ih with h | h
        · exact absurd h hf
        · have := pop_grow _ (h64 n) _ (h64 (n + 1)) (stepP_or ks _) (fun e => hf e.symm)
          omega
  rcases key m with h | h
  · exact h
  · have := pop_le m hm _ (iterP_lt m ks hk s hs m)
    omega

/-- The part of a member. -/
def partP (m : Nat) (ks : List Nat) (v : Nat) : Nat := iterP ks m (2 ^ v)

structure Ksm (m : Nat) (ks : List Nat) : Prop where
  six : m ≤ 6
  lt : ∀ k ∈ ks, k < 2 ^ m

set_option maxRecDepth 100000 in
theorem pop_one : ∀ v, v < 6 → popS (2 ^ v) = 1 := by decide +kernel

theorem partP_lt {m : Nat} {ks : List Nat} (h : Ksm m ks) {v : Nat} (hv : v < m) : partP m ks v < 2 ^ m := iterP_lt m ks h.lt _ (Nat.pow_lt_pow_right (by decide) hv) m
theorem partP_closed {m : Nat} {ks : List Nat} (h : Ksm m ks) {v : Nat} (hv : v < m) : ClosedP ks (fun i => (partP m ks v).testBit i = true) :=
  stepP_closed ks _ (iterP_done m h.six ks h.lt _ (Nat.pow_lt_pow_right (by decide) hv) (by rw [pop_one v (by have := h.six; omega)]; omega))

theorem partP_self {m : Nat} {ks : List Nat} (v : Nat) : (partP m ks v).testBit v = true := iterP_ge ks _ v (by simp) m
theorem partP_min {m : Nat} {ks : List Nat} {v : Nat} {C : Nat → Prop} (hc : ClosedP ks C) (hv : C v) : ∀ i, (partP m ks v).testBit i = true → C i :=
  iterP_in ks hc _ (fun i hi => by
    rw [Nat.testBit_two_pow, decide_eq_true_eq] at hi
    rw [← hi]; exact hv) m

theorem partP_sym {m : Nat} {ks : List Nat} (h : Ksm m ks) {u v : Nat} (hu : u < m) (huv : (partP m ks v).testBit u = true) : (partP m ks u).testBit v = true := by
  cases hb : (partP m ks u).testBit v
  · have hc : ClosedP ks (fun i => (partP m ks u).testBit i = false) := by
      intro k hk hm i hi
      obtain ⟨x, hx1, hx2⟩ := hm
      cases hb2 : (partP m ks u).testBit i
      · rfl
      · have h3 : (partP m ks u).testBit x = true := partP_closed h hu k hk ⟨i, hi, hb2⟩ x hx1
        rw [hx2] at h3; cases h3
    have h4 : (partP m ks u).testBit u = false := partP_min (m := m) hc hb u huv
    rw [partP_self u] at h4; cases h4
  · rfl

theorem partP_trans {m : Nat} {ks : List Nat} (h : Ksm m ks) {u v : Nat} (hv : v < m) (huv : (partP m ks v).testBit u = true) : ∀ i, (partP m ks u).testBit i = true → (partP m ks v).testBit i = true :=
  partP_min (m := m) (partP_closed h hv) huv

/-- No member of v's part is ahead of v. -/
def firstP (m : Nat) (ks : List Nat) (v : Nat) : Bool := decide (partP m ks v &&& (2 ^ v - 1) = 0)

theorem firstP_iff {m : Nat} {ks : List Nat} (h : Ksm m ks) {v : Nat} (hv : v < m) : firstP m ks v = true ↔ ∀ u, u < v → (partP m ks u).testBit v = false := by
  unfold firstP
  rw [decide_eq_true_eq]
  constructor
  · intro h0 u hu
    cases hb : (partP m ks u).testBit v
    · rfl
    · have h1 := partP_sym h hv hb
      have := and_zero h0 u h1
      rw [Nat.testBit_two_pow_sub_one] at this
      simp at this
      omega
  · intro h0
    apply Nat.eq_of_testBit_eq
    intro i
    rw [Nat.testBit_and, Nat.testBit_two_pow_sub_one, Nat.zero_testBit]
    by_cases hi : i < v
    · cases hb : (partP m ks v).testBit i
      · simp
      · have h1 := partP_sym h (by omega) hb
        rw [h0 i hi] at h1; cases h1
    · simp [hi]

/-- How many members are first of their parts. -/
def cntP (m : Nat) (ks : List Nat) (v : Nat) : Nat := ((List.range v).filter (firstP m ks)).length

theorem cntP_succ (m : Nat) (ks : List Nat) (v : Nat) : cntP m ks (v + 1) = cntP m ks v + (if firstP m ks v = true then 1 else 0) := by
  unfold cntP
  rw [List.range_succ, List.filter_append, List.length_append]
  by_cases h : firstP m ks v = true
  · simp [h]
  · simp [h]

theorem cntP_le (m : Nat) (ks : List Nat) (v : Nat) : cntP m ks v ≤ v := by
  unfold cntP
  exact Nat.le_trans (List.length_filter_le _ _) (by simp)

end Go.Proofs.YtacglafoahmcnaaDoor

/- It is proved what meets and reached return; conditions: those of each statement. -/
namespace Go.Proofs.YtacglafoahmcnaaDoor
open Go.RowKit Go.Shelf

attribute [local go_sem] Oper.semAt_some

set_option maxRecDepth 100000 in
theorem and_fin : ∀ x : Fin 64, ∀ y : Fin 64, bits BinOp.and IntKind.i64 (x.val : Int) (y.val : Int) = ((x.val &&& y.val : Nat) : Int) := by decide +kernel

set_option maxRecDepth 100000 in
theorem or6_fin : ∀ x : Fin 64, ∀ y : Fin 64, bits BinOp.or IntKind.i64 (x.val : Int) (y.val : Int) = ((x.val ||| y.val : Nat) : Int) := by decide +kernel

theorem and6_at (x y : Nat) (hx : x < 64) (hy : y < 64) : bits BinOp.and IntKind.i64 (x : Int) (y : Int) = ((x &&& y : Nat) : Int) := and_fin ⟨x, hx⟩ ⟨y, hy⟩
theorem or6_at (x y : Nat) (hx : x < 64) (hy : y < 64) : bits BinOp.or IntKind.i64 (x : Int) (y : Int) = ((x ||| y : Nat) : Int) := or6_fin ⟨x, hx⟩ ⟨y, hy⟩
theorem meets_any (x y : Nat) (hx : x < 64) (hy : y < 64) (w : World) :
    Calls Tryd.prog 137 #[.int .i64 (x : Int), .int .i64 (y : Int)] w fun e w' => e = .returned (.bool (!decide (x &&& y = 0))) ∧ w = w' := by
  have HA := Lib.hid (and6_at x y hx hy)
  have HE : Hid ((((x &&& y : Nat) : Int) != 0) = !decide (x &&& y = 0)) := Lib.hid (by
    by_cases h : x &&& y = 0
    · rw [h]; rfl
    · rw [decide_eq_false h, bne_iff_ne.2 (by omega)]; rfl)
  go_enter Tryd.func137, Tryd.ntmps137
  go_wp2
  go_ret
  exact ⟨by rw [← HE.out, ← HA.out]; rfl, rfl⟩

/-- The mark of a loop over a function. -/
def mkD (D : Nat) : Deferred := { target := .collected D, args := #[] }

/-- Marks that hold nothing, each once. -/
structure Marks (lo hi : Nat) (Ds : List Nat) (W : World) : Prop where
  once : Ds.Nodup
  at_ : ∀ D ∈ Ds, lo ≤ D ∧ D < hi ∧ W.heap[D]? = some (.deferred (some []))

theorem Marks.own {β : Type} (lo hi : Nat) (Ds : List Nat) {B : Nat} (hB : hi ≤ B) : OwnFrom B (fun (_ : β) W => Marks lo hi Ds W) :=
  fun _ X Y row hs hg hr => ⟨hs.once, fun D hD => by
    obtain ⟨h1, h2, h3⟩ := hs.at_ D hD
    exact ⟨h1, h2, (hg.block D (lt_of_some h3) (fun e => by have := (hr D e.symm).1; omega)).trans h3⟩⟩

theorem Marks.setCell {lo hi : Nat} {Ds : List Nat} {W : World} (h : Marks lo hi Ds W) {p : Addr} (hp : p.block < lo) (u : Value) : Marks lo hi Ds (W.setCell p u) :=
  ⟨h.once, fun D hD => by
    obtain ⟨h1, h2, h3⟩ := h.at_ D hD
    exact ⟨h1, h2, (Below.heap_setCell W p u D (by omega)).trans h3⟩⟩

theorem Marks.alloc {lo hi : Nat} {Ds : List Nat} {W : World} (h : Marks lo hi Ds W) (o : Obj) : Marks lo hi Ds (W.alloc o) :=
  ⟨h.once, fun D hD => by
    obtain ⟨h1, h2, h3⟩ := h.at_ D hD
    exact ⟨h1, h2, (alloc_old W o D (lt_of_some h3)).trans h3⟩⟩

theorem Marks.cons {lo hi : Nat} {Ds : List Nat} {W : World} (h : Marks lo hi Ds W) {D : Nat} (hD : hi ≤ D) (hlo : lo ≤ D) (hk : W.heap[D]? = some (.deferred (some []))) : Marks lo (D + 1) (D :: Ds) W :=
  ⟨List.nodup_cons.2 ⟨fun hm => by have := (h.at_ D hm).2.1; omega, h.once⟩, fun E hE => by
    rcases List.mem_cons.1 hE with rfl | hE
    · exact ⟨hlo, by omega, hk⟩
    · obtain ⟨h1, h2, h3⟩ := h.at_ E hE
      exact ⟨h1, by omega, h3⟩⟩

theorem Marks.mono {lo hi hi' : Nat} {Ds : List Nat} {W : World} (h : Marks lo hi Ds W) (hh : hi ≤ hi') : Marks lo hi' Ds W :=
  ⟨h.once, fun D hD => by obtain ⟨h1, h2, h3⟩ := h.at_ D hD; exact ⟨h1, by omega, h3⟩⟩

theorem leaves_marks {F : Fence} {n : Nat} {P : Program} {fn : Func} {tmps : Array Value} {R : Ending → World → Prop} {v : Value} {lo hi : Nat} (hres : ∀ W, (results fn tmps).run P W = .ok v W) :
    ∀ (Ds : List Nat) (W : World), Marks lo hi Ds W → (∀ W', Below lo W W' → R (.returned v) W') → LeavesInM F n P fn tmps R (Ds.map mkD) .returning W
  | [], W, _, hR => ⟨v, hres W, hR W (Below.refl _ _)⟩
  | D :: Ds, W, h, hR => by
    obtain ⟨h1, h2, h3⟩ := h.at_ D (by simp)
    have hn := List.nodup_cons.1 h.once
    refine ⟨by simp, .inl ⟨D, _, rfl, run_takeDeferred h3, ?_⟩⟩
    have hb : Below lo W (W.putObj D (.deferred none)) := (Below.refl lo W).grown (grownBy_putObj' W D _) (Nat.le_trans h1 (Nat.le_of_lt (lt_of_some h3))) (fun k e => by cases e; exact h1)
    refine leaves_marks (hi := hi) hres Ds _ ⟨hn.2, fun E hE => ?_⟩ (fun W' hW' => hR W' (hb.trans hW'))
    obtain ⟨g1, g2, g3⟩ := h.at_ E (by simp [hE])
    refine ⟨g1, g2, ?_⟩
    rw [World.putObj_heap_other (fun e => hn.1 (by rw [← e]; exact hE))]
    exact g3

end Go.Proofs.YtacglafoahmcnaaDoor

/- It is proved what reached returns; conditions: those of each statement. -/
namespace Go.Proofs.YtacglafoahmcnaaDoor
open Go.RowKit Go.Shelf

attribute [local go_sem] Oper.semAt_some

/-- The clubs as sets. -/
def ksOf (zs : List Int) : List Nat := zs.map Int.toNat

theorem iterP_same (m : Nat) (hm : m ≤ 6) (ks : List Nat) (hk : ∀ k ∈ ks, k < 2 ^ m) (s : Nat) (hs : s < 2 ^ m) (h1 : 1 ≤ popS s) (j : Nat) (h : stepP ks (iterP ks j s) = iterP ks j s) : iterP ks j s = iterP ks m s := by
  rcases Nat.le_total j m with h2 | h2
  · have := iterP_fix ks s j h (m - j)
    rw [show j + (m - j) = m from by omega] at this
    exact this.symm
  · have := iterP_fix ks s m (iterP_done m hm ks hk s hs h1) (j - m)
    rw [show m + (j - m) = j from by omega] at this
    exact this

set_option maxRecDepth 100000 in
set_option maxHeartbeats 4000000 in
theorem reached_any (m : Nat) (hm : m ≤ 6) (s : Nat) (hs : s < 2 ^ m) (h1 : 1 ≤ popS s) (a : Option Addr) (c : Nat) (zs : List Int) (w : World) (ha : Ints w w.heap.size a zs) (hf : famIn (m : Int) zs = true) :
    Calls Tryd.prog 109 #[.agg #[.int .i64 (m : Int), .slice a zs.length c], .int .i64 (s : Int)] w fun e w' => e = .returned (.int .i64 ((iterP (ksOf zs) m s : Nat) : Int)) ∧ Below w.heap.size w w' := by
  have HI := Lib.hid ha
  have HPc := Lib.hid (isClub_all hf)
  obtain ⟨hm1, hm6, hl8, -⟩ := famIn_out hf
  obtain ⟨n, hn⟩ : ∃ n, n = zs.length := ⟨_, rfl⟩
  have HN := Lib.hid hn
  have hx : n ≤ 8 := by omega
  rw [← hn]
  clear ha hf hn hl8
  refine (callsIn_wide (n := 6)).1 ?_
  refine callsIn_of_wp_marks Tryd.func109 rfl trivial ?_ rfl
  simp only [Tryd.ntmps109, List.size_toArray, List.length_cons, List.length_nil, Nat.reduceAdd, Nat.reduceSub, Array.replicate_succ, Array.replicate_zero, List.push_toArray, List.append_toArray, List.nil_append, List.cons_append]
  gi_wp2
  have hb2 := below2 w (.cells #[.int .i64 (m : Int), .slice a n c] 25) (.cells #[.int .i64 (s : Int)] 50)
  have q0 : HasBlk ((w.alloc (.cells #[.int .i64 (m : Int), .slice a n c] 25)).alloc (.cells #[.int .i64 (s : Int)] 50)) w.heap.size #[.int .i64 (m : Int), .slice a n c] 25 := alloc2_0 w _ _
  have q1 : Boxed ((w.alloc (.cells #[.int .i64 (m : Int), .slice a n c] 25)).alloc (.cells #[.int .i64 (s : Int)] 50)) (w.heap.size + 1) 50 (.int .i64 (s : Int)) := alloc2_1 w _ _
  have hmk : Marks (w.heap.size + 2) ((w.alloc (.cells #[.int .i64 (m : Int), .slice a n c] 25)).alloc (.cells #[.int .i64 (s : Int)] 50)).heap.size [] ((w.alloc (.cells #[.int .i64 (m : Int), .slice a n c] 25)).alloc (.cells #[.int .i64 (s : Int)] 50)) := ⟨List.nodup_nil, fun D h => by simp at h⟩
  have hks : ∀ k ∈ ksOf zs, k < 2 ^ m := by
    intro k hk
    obtain ⟨z, hz, rfl⟩ := List.mem_map.1 hk
    obtain ⟨j, hj, rfl⟩ := List.getElem_of_mem hz
    have := (HPc.out j hj).2.2
    rwa [show ((j, zs[j]?.getD 0) : Nat × Int).2 = zs[j] from by simp [hj]] at this
  have hp64 : 2 ^ m ≤ 64 := Nat.pow_le_pow_right (by decide) hm
  obtain ⟨W0, hW0⟩ : ∃ W0, ((w.alloc (.cells #[.int .i64 (m : Int), .slice a n c] 25)).alloc (.cells #[.int .i64 (s : Int)] 50)) = W0 := ⟨_, rfl⟩
  have hso : W0.heap.size = w.heap.size + 2 := by rw [← hW0]; simp
  rw [hW0] at q0 q1 hb2 hmk ⊢
  have HSO := Lib.hid hso
  have HB0 := Lib.hid hb2
  have Q0 := Lib.hid q0
  have HKS := Lib.hid hks
  have HP := Lib.hid hp64
  have Q1 := Lib.hid q1
  have HMK := Lib.hid hmk
  clear hW0 hb2 hso q0 hks hp64 q1 hmk
  refine wpIn_loop (fun A W => ∃ (j t : Nat) (Ds : List Nat) (u5 u8 u9 u10 u19 u20 u21 : Value), A = { tmps := #[.agg #[.int .i64 (m : Int), .slice a n c], .int .i64 (s : Int), .pointer (some ⟨w.heap.size, 0, none⟩), .pointer (some ⟨w.heap.size + 1, 0, none⟩), .int .i64 0, u5, undef, undef, u8, u9, u10, undef, undef, undef, undef, undef, undef, undef, undef, u19, u20, u21, undef], defers := Ds.map mkD } ∧ t = iterP (ksOf zs) j s ∧ Boxed W (w.heap.size + 1) 50 (.int .i64 (t : Int)) ∧ Below (w.heap.size + 1) W0 W ∧ Marks (w.heap.size + 2) W.heap.size Ds W)
    (fun _ W => 64 - (intOf ((W.cell? ⟨w.heap.size + 1, 0, none⟩).getD undef)).toNat) ⟨0, s, [], undef, undef, undef, undef, undef, undef, undef, rfl, rfl, Q1.out, Below.refl _ _, HMK.out⟩ ?_
  rintro A W ⟨j, t, Ds, u5, u8, u9, u10, u19, u20, u21, rfl, ht, hv, hB, hM⟩
  have q0 := (hB.block w.heap.size (by omega)).trans Q0.out
  have x0 := (blk_cell q0 0).trans (cell2_0 _ _)
  have x1 := (blk_cell q0 1).trans (cell2_1 _ _)
  have c1 := hv.cell
  have hsz : w.heap.size + 2 ≤ W.heap.size := by have := hB.size; have := HSO.out; omega
  have ht2 : t < 2 ^ m := by rw [ht]; exact iterP_lt m _ HKS.out s hs j
  have HV := Lib.hid hv
  have HBW := Lib.hid hB
  have HM := Lib.hid hM
  have HTJ := Lib.hid ht
  clear q0 hv hB hM ht
  gi_wp2_with (refine ⟨trivial, ?_⟩; gi_at_call 48; refine (callsIn_wide.2 (clubs_any _ _ _ _ _)).mono ?_; rintro e w' ⟨rfl, rfl⟩)
  have h16 : 1 ≤ 6 := by omega
  have HBw : Hid (Below w.heap.size w W) := Lib.hid (HB0.out.trans (HBW.out.mono (by omega)))
  have hst := clubsP_stops (IsClub m) (6 - 1) (by omega) W.heap.size (w.heap.size + 1) a c zs (by have := HN.out; omega) HPc.out (W.alloc (.cells #[.int .i64 (m : Int), .slice a n c] 25)) (by simp) (by simp; omega)
    (by rw [← HN.out]; simp) ((HI.out.below (HBw.out.alloc (by omega) _)).mono (by omega))
  rw [← HN.out] at hst
  refine wpIn_rangeFunc_ownG rfl h16 (gf := 88) (lb := #[.pointer (some ⟨W.heap.size, 0, none⟩)]) rfl trivial (enters_of Tryd.func88 (by kernel_rfl) rfl)
    hst belowK_t (belowK_b (by simp; omega)) (Below.refl _ _) (fun _ => rfl)
    (fun pre Wr => (Boxed Wr (w.heap.size + 1) 50 (.int .i64 ((stepP (ksOf (sets pre)) t : Nat) : Int)) ∧ Marks (w.heap.size + 2) W.heap.size Ds Wr) ∧ Below (w.heap.size + 1) W0 Wr)
    (fun _ _ _ => False)
    (OwnFrom.and (OwnFrom.and (Own.from (boxed_own _ _ (fun pre : List { p // IsClub m p } => Value.int .i64 ((stepP (ksOf (sets pre)) t : Nat) : Int))) _) (Marks.own _ _ _ (by simp))) (ownFrom_below (by have := HSO.out; omega) (by simp; omega)))
    (fun _ _ _ _ _ hs _ _ => hs)
    ⟨⟨HV.out.alloc _, HM.out.alloc _⟩, HBW.out.alloc (by omega) _⟩
    (fun x => { tmps := #[.agg #[.int .i64 (m : Int), .slice a n c], .int .i64 (s : Int), .pointer (some ⟨w.heap.size, 0, none⟩), .pointer (some ⟨w.heap.size + 1, 0, none⟩), .int .i64 0, .int .i64 (t : Int), undef, .int .i64 x.1.2, .int .i64 (t : Int), .agg #[.int .i64 (m : Int), .slice a n c], .func (.func 88) #[] #[.pointer (some ⟨W.heap.size, 0, none⟩)], .int .i64 (x.1.1 : Int), .int .i64 x.1.2, undef, undef, undef, undef, undef, undef, u19, u20, u21, undef], defers := [] }) ?assign ?body ?done ?stop
  case assign =>
    intro l x Wr K hK
    gi_wp2
    exact hK
  case body =>
    rintro l pre x Wr ⟨⟨hv, hM⟩, hB⟩ hlt
    obtain ⟨q, hq⟩ : ∃ q : Nat, x.1.2 = (q : Int) := ⟨x.1.2.toNat, by have := x.2.2.1; omega⟩
    have hq2 : q < 2 ^ m := by have := x.2.2.2; rw [hq] at this; simpa using this
    have hpre : ∀ k ∈ ksOf (sets pre), k < 2 ^ m := by
      intro k hk
      obtain ⟨z, hz, rfl⟩ := List.mem_map.1 hk
      obtain ⟨y, _, rfl⟩ := List.mem_map.1 hz
      exact y.2.2.2
    obtain ⟨d, hd⟩ : ∃ d, d = stepP (ksOf (sets pre)) t := ⟨_, rfl⟩
    have hd2 : d < 2 ^ m := by rw [hd]; exact stepP_lt m _ hpre t ht2
    have hsn : Hid (stepP (ksOf (sets (pre ++ [x]))) t = meet1 d q) := Lib.hid (by
      rw [sets_snoc, show ksOf (sets pre ++ [x.1.2]) = ksOf (sets pre) ++ [q] from by simp [ksOf, hq], stepP_snoc, hd])
    have hd64 : d < 64 := by have := HP.out; omega
    have hq64 : q < 64 := by have := HP.out; omega
    rw [hq]
    rw [← hd] at hv
    have c1 := hv.cell
    have f1 := hv.frozen
    have HO := Lib.hid (or6_at d q hd64 hq64)
    have HV2 := Lib.hid hv
    have HM2 := Lib.hid hM
    have HB2 := Lib.hid hB
    clear hv hM hB hd hpre
    by_cases hm0 : q &&& d = 0
    · have HC : Hid ((!decide (q &&& d = 0)) = false) := Lib.hid (by simp [hm0])
      have HMT : Hid (meet1 d q = d) := Lib.hid (by simp [meet1, hm0])
      clear hm0
      gi_wp2_with (refine ⟨trivial, ?_⟩; gi_at_call 137; refine (CallsIn.inRound l (callsIn_wide.2 (meets_any q d hq64 hd64 _))).mono ?_; rintro e w' ⟨rfl, rfl⟩; rw [HC.out])
      refine ⟨KeepsFrom.refl _ _, Below.refl _ _, ⟨?_, HM2.out⟩, HB2.out⟩
      rw [hsn.out, HMT.out]; exact HV2.out
    · have HC : Hid ((!decide (q &&& d = 0)) = true) := Lib.hid (by simp [hm0])
      have HMT : Hid (meet1 d q = d ||| q) := Lib.hid (by simp [meet1, hm0])
      clear hm0
      gi_wp2_with (refine ⟨trivial, ?_⟩; gi_at_call 137; refine (CallsIn.inRound l (callsIn_wide.2 (meets_any q d hq64 hd64 _))).mono ?_; rintro e w' ⟨rfl, rfl⟩; rw [HC.out])
      rw [HO.out]
      refine ⟨(KeepsOthers.setCell _ _ _).from _, (Below.refl _ Wr).setCell (p := ⟨w.heap.size + 1, 0, none⟩) (Nat.le_refl _) _, ⟨?_, HM2.out.setCell (p := ⟨w.heap.size + 1, 0, none⟩) (show w.heap.size + 1 < w.heap.size + 2 by omega) _⟩, HB2.out.setCell (p := ⟨w.heap.size + 1, 0, none⟩) (Nat.le_refl _) _⟩
      rw [hsn.out, HMT.out]; exact HV2.out.set _
  case done =>
    rintro D ys Wr hD hys ⟨⟨hv, hM⟩, hB⟩ hK
    rw [sets_all (zs := zs) (by rw [hys, HN.out])] at hv
    have hD2 : W.heap.size + 1 ≤ D := by simpa using hD
    have c1 := hv.cell
    have HM2 := Lib.hid (hM.cons (D := D) (by omega) (by omega) hK)
    have HB2 := Lib.hid hB
    have HV2 := Lib.hid hv
    obtain ⟨t', ht'⟩ : ∃ t', t' = stepP (ksOf zs) t := ⟨_, rfl⟩
    rw [← ht'] at c1 HV2
    have HT' := Lib.hid ht'
    have ht'2 : t' < 2 ^ m := by rw [ht']; exact stepP_lt m _ HKS.out t ht2
    clear hv hM hB ht'
    by_cases heq : t' = t
    · have heqI : (t' : Int) = (t : Int) := by rw [heq]
      have hfin : Hid (((t : Nat) : Int) = ((iterP (ksOf zs) m s : Nat) : Int)) := Lib.hid (by
        have h2 : stepP (ksOf zs) t = t := by rw [← HT'.out]; exact heq
        rw [HTJ.out] at h2 ⊢
        rw [iterP_same m hm (ksOf zs) HKS.out s hs h1 j h2])
      gi_wp2
      refine leaves_marks (hi := D + 1) (v := .int .i64 (t : Int)) (fun W => results_tmp (fn := Tryd.f109) (t := 4) rfl _ _ W) (D :: Ds) Wr HM2.out (fun W' hW' => ⟨by rw [hfin.out], ?_⟩)
      exact (HB0.out.trans (HB2.out.mono (by omega))).trans (hW'.mono (by omega))
    · have hneI : ¬ ((t' : Int) = (t : Int)) := by omega
      have hlt : t < t' := by
        have h2 : t ||| t' = t' := by rw [HT'.out]; exact stepP_or _ _
        have h3 : t ≤ t' := by rw [← h2]; exact Nat.left_le_or
        omega
      gi_wp2
      refine ⟨⟨j + 1, t', D :: Ds, rfl, by rw [HT'.out, HTJ.out]; rfl, HV2.out, HB2.out, HM2.out.mono (lt_of_some hK)⟩, ?_⟩
      have := HP.out
      simp only [intOf, Int.toNat_natCast]
      omega
  case stop =>
    rintro D c pre W _ _ h _
    exact h.elim

end Go.Proofs.YtacglafoahmcnaaDoor
