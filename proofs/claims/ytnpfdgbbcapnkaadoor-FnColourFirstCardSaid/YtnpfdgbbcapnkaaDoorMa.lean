/- It is proved that the most clubs that get a member of a set are all clubs but as many as the worst set of places falls short by; conditions: those of each statement. -/
import Derived.RowKit
import Derived.Laws.CopyRow
import Derived.Lib.SlBuf
import Derived.Deep.QuietTactic
import Derived.RangeFuncNested
import Derived.RangeFuncBound
import Derived.RangeFuncCalls
import Derived.RangeFuncLeaves
import Derived.RangeFuncBox
import Derived.RangeFuncWrites
import Derived.StillTailTactics
import Derived.Maps.OwnIn
import Derived.Maps.Ext
import Derived.DeepKeys4
import Derived.MapKept
import Derived.Test.YtnpfdgbbcapnkaaDoorRows
import Derived.WalkKit
import Derived.WalkSpells
import Derived.ProofKit
import Derived.OpenShut
import Derived.ShutString
import Derived.ChangeOld
import Derived.Below
import Derived.Deep.RegionHeld3
import Derived.BigQuiet
import Derived.Lib.Hide
import Derived.Lib.SmallJoins
import Derived.Outline
import Derived.Laws.MakeOwn
import Derived.Laws.OwnMore
import Derived.IntWalk
import Derived.Lib.AppendZeros
import Derived.Maps.AppendAt
import Derived.Deep.AppendLies
import Derived.OwnWalk
import Derived.Lib.SlicesCompact
import Derived.Lib.OwnBridge
import Derived.OrdersIn
import Derived.TacticsIn
import Derived.Shelf.Sort.Plain
import Derived.Shelf.Slices.In.SortNone
import Derived.Shelf.Slices.CompactI
import Derived.Ground.Names2Prog
import Derived.Lib.SliceRun
import Derived.Shelf.Abstract
import Derived.Shelf.RegionOpen
import Derived.OwnWalkIn
import Derived.TacticsInMore
import Derived.LoopNIn
import Derived.LoopIn
import Derived.StillTail
import Derived.StillTactics
import Derived.Shelf.Spec.TrailingZeros
import Derived.Test.YtnpfdgbbcapnkaaDoorRbab
import Derived.Test.YtnpfdgbbcapnkaaDoorRbak
import Derived.Test.YtnpfdgbbcapnkaaDoorKr
import Derived.Test.YtnpfdgbbcapnkaaDoorRbae
namespace Go.Proofs.YtnpfdgbbcapnkaaDoor
open Go.RowKit

set_option maxRecDepth 100000 in
theorem woP_bit_fin : ∀ s : Fin 64, ∀ v : Fin 6, ∀ i : Fin 6, (woP s.val v.val).testBit i.val = (s.val.testBit i.val && decide (i ≠ v)) := by decide +kernel

/-- How many of the first k numbers a set has. -/
def cntK (k s : Nat) : Nat := (memK k s).length

theorem flt_ie (p q : Nat → Bool) : ∀ l : List Nat, (l.filter fun i => p i || q i).length + (l.filter fun i => p i && q i).length = (l.filter p).length + (l.filter q).length
  | [] => rfl
  | x :: l => by
    have ih := flt_ie p q l
    simp only [List.filter_cons]
    cases p x <;> cases q x <;> simp <;> omega

theorem flt_le {p q : Nat → Bool} : ∀ l : List Nat, (∀ i ∈ l, p i = true → q i = true) → (l.filter p).length ≤ (l.filter q).length
  | [], _ => Nat.le_refl _
  | x :: l, h => by
    have ih := flt_le (p := p) (q := q) l fun i hi => h i (List.mem_cons_of_mem _ hi)
    have hx := h x (List.mem_cons_self ..)
    simp only [List.filter_cons]
    cases hp : p x
    · cases q x <;> simp <;> omega
    · rw [hx hp]; simp; omega

theorem flt_lt {p q : Nat → Bool} (v : Nat) : ∀ l : List Nat, (∀ i ∈ l, p i = true → q i = true) → v ∈ l → p v = false → q v = true → (l.filter p).length + 1 ≤ (l.filter q).length
  | [], _, hv, _, _ => by cases hv
  | x :: l, h, hv, hp, hq => by
    have hh : ∀ i ∈ l, p i = true → q i = true := fun i hi => h i (List.mem_cons_of_mem _ hi)
    have hx := h x (List.mem_cons_self ..)
    simp only [List.filter_cons]
    by_cases e : v = x
    · subst e
      have := flt_le l hh
      rw [hp, hq]; simp; omega
    · have ih := flt_lt v l hh (by rcases List.mem_cons.1 hv with h | h; exact absurd h e; exact h) hp hq
      cases hpx : p x
      · cases q x <;> simp <;> omega
      · rw [hx hpx]; simp; omega

theorem flt_drop {p q : Nat → Bool} (v : Nat) : ∀ l : List Nat, l.Nodup → (∀ i ∈ l, i ≠ v → p i = true → q i = true) → (l.filter p).length ≤ (l.filter q).length + (if v ∈ l ∧ p v = true ∧ q v = false then 1 else 0)
  | [], _, _ => by simp
  | x :: l, hn, h => by
    have hn' := List.nodup_cons.1 hn
    have hh : ∀ i ∈ l, i ≠ v → p i = true → q i = true := fun i hi => h i (List.mem_cons_of_mem _ hi)
    have ih := flt_drop v l hn'.2 hh
    by_cases e : v = x
    · subst e
      have h0 : (if v ∈ l ∧ p v = true ∧ q v = false then 1 else 0) = 0 := if_neg fun k => hn'.1 k.1
      rw [h0] at ih
      simp only [List.filter_cons]
      cases p v <;> cases q v <;> simp <;> omega
    · have hx := h x (List.mem_cons_self ..) (fun k => e k.symm)
      have e2 : (if v ∈ x :: l ∧ p v = true ∧ q v = false then 1 else 0) = (if v ∈ l ∧ p v = true ∧ q v = false then 1 else 0) := by simp [e]
      rw [e2]
      simp only [List.filter_cons]
      cases hp : p x
      · cases q x <;> simp <;> omega
      · rw [hx hp]; simp; omega

theorem cnt_ie (k a b : Nat) : cntK k (a ||| b) + cntK k (a &&& b) = cntK k a + cntK k b := by
  unfold cntK memK
  simp only [Nat.testBit_or, Nat.testBit_and]
  exact flt_ie _ _ _

theorem cntK_le {k a b : Nat} (h : ∀ i, a.testBit i = true → b.testBit i = true) : cntK k a ≤ cntK k b := flt_le _ fun i _ hi => h i hi
theorem cnt_two (k b q : Nat) (hb : b < 2) : cntK (k + 1) (2 * q + b) = b + cntK k q := by
  unfold cntK
  rw [memK_two k b q hb, List.length_append, List.length_map]
  by_cases h : b = 1
  · rw [h]; simp
  · rw [if_neg h]; simp; omega

theorem metU_bit (zs : List Int) (v : Nat) : ∀ (ps : List Nat) (t : Nat), (metU zs t ps).testBit v = (t.testBit v || ps.any fun p => (zs[p]?.getD 0).toNat.testBit v)
  | [], t => by simp [metU]
  | p :: ps, t => by
    have := metU_bit zs v ps (t ||| (zs[p]?.getD 0).toNat)
    rw [show metU zs t (p :: ps) = metU zs (t ||| (zs[p]?.getD 0).toNat) ps from rfl, this, Nat.testBit_or, List.any_cons, Bool.or_assoc]

/-- The members of the clubs at some places. -/
def togK (zs : List Int) (p : Nat) : Nat := metU zs 0 (memK zs.length p)

theorem tog_bit {zs : List Int} {p v : Nat} : (togK zs p).testBit v = true ↔ ∃ i, i < zs.length ∧ p.testBit i = true ∧ (zs[i]?.getD 0).toNat.testBit v = true := by
  unfold togK
  rw [metU_bit, Nat.zero_testBit, Bool.false_or, List.any_eq_true]
  constructor
  · rintro ⟨i, hi, h⟩
    simp only [memK, List.mem_filter, List.mem_range] at hi
    exact ⟨i, hi.1, hi.2, h⟩
  · rintro ⟨i, h1, h2, h⟩
    exact ⟨i, by simp only [memK, List.mem_filter, List.mem_range]; exact ⟨h1, h2⟩, h⟩

theorem tog_or (zs : List Int) (p q : Nat) : togK zs (p ||| q) = togK zs p ||| togK zs q := by
  apply Nat.eq_of_testBit_eq; intro v
  rw [Bool.eq_iff_iff, Nat.testBit_or, Bool.or_eq_true, tog_bit, tog_bit, tog_bit]
  constructor
  · rintro ⟨i, h1, h2, h3⟩
    rw [Nat.testBit_or, Bool.or_eq_true] at h2
    rcases h2 with h2 | h2
    · exact .inl ⟨i, h1, h2, h3⟩
    · exact .inr ⟨i, h1, h2, h3⟩
  · rintro (⟨i, h1, h2, h3⟩ | ⟨i, h1, h2, h3⟩)
    · exact ⟨i, h1, by rw [Nat.testBit_or, h2]; rfl, h3⟩
    · exact ⟨i, h1, by rw [Nat.testBit_or, h2]; simp, h3⟩

theorem tog_and {zs : List Int} {p q v : Nat} (h : (togK zs (p &&& q)).testBit v = true) : (togK zs p &&& togK zs q).testBit v = true := by
  obtain ⟨i, h1, h2, h3⟩ := tog_bit.1 h
  rw [Nat.testBit_and, Bool.and_eq_true] at h2
  rw [Nat.testBit_and, tog_bit.2 ⟨i, h1, h2.1, h3⟩, tog_bit.2 ⟨i, h1, h2.2, h3⟩]; rfl

theorem tog_two (z : Int) (zs : List Int) (q b v : Nat) (hb : b < 2) : (togK (z :: zs) (2 * q + b)).testBit v = ((decide (b = 1) && z.toNat.testBit v) || (togK zs q).testBit v) := by
  unfold togK
  rw [List.length_cons, memK_two _ b q hb, metU_bit, metU_bit, Nat.zero_testBit, Bool.false_or, Bool.false_or, List.any_append, List.any_map]
  have : ((fun p => ((z :: zs)[p]?.getD 0).toNat.testBit v) ∘ fun x => x + 1) = fun p => (zs[p]?.getD 0).toNat.testBit v := by
    funext p; simp [Function.comp]
  rw [this]
  by_cases h : b = 1
  · simp [h]
  · simp [h]

/-- By how much a set of places has more places than its clubs have members in a set. -/
def overK (zs : List Int) (L p : Nat) : Int := (cntK zs.length p : Int) - (cntK 8 (togK zs p &&& L) : Int)

theorem over_sup (zs : List Int) (L p q : Nat) : overK zs L p + overK zs L q ≤ overK zs L (p ||| q) + overK zs L (p &&& q) := by
  have h1 := cnt_ie zs.length p q
  have h2 := cnt_ie 8 (togK zs p &&& L) (togK zs q &&& L)
  have h3 : togK zs p &&& L ||| togK zs q &&& L = togK zs (p ||| q) &&& L := by rw [tog_or]; apply Nat.eq_of_testBit_eq; intro v; simp only [Nat.testBit_or, Nat.testBit_and]; cases L.testBit v <;> simp
  have h4 : cntK 8 (togK zs (p &&& q) &&& L) ≤ cntK 8 (togK zs p &&& L &&& (togK zs q &&& L)) := cntK_le fun v hv => by
    rw [Nat.testBit_and, Bool.and_eq_true] at hv
    have := tog_and hv.1
    rw [Nat.testBit_and, Bool.and_eq_true] at this
    simp only [Nat.testBit_and, this.1, this.2, hv.2]; rfl
  rw [h3] at h2
  unfold overK
  omega

/-- The most clubs that get a member of a set, told club by club. -/
def matM : List Int → Nat → Nat
  | [], _ => 0
  | z :: zs, L => (memK 6 (z.toNat &&& L)).foldl (fun b v => max b (1 + matM zs (woP L v))) (matM zs L)

theorem fmax_ge (f : Nat → Nat) : ∀ (vs : List Nat) (b : Nat), b ≤ vs.foldl (fun b v => max b (f v)) b ∧ ∀ v ∈ vs, f v ≤ vs.foldl (fun b v => max b (f v)) b
  | [], b => ⟨Nat.le_refl _, fun v h => by cases h⟩
  | u :: vs, b => by
    obtain ⟨h1, h2⟩ := fmax_ge f vs (max b (f u))
    rw [List.foldl_cons]
    refine ⟨by omega, fun v hv => ?_⟩
    rcases List.mem_cons.1 hv with rfl | hv
    · omega
    · exact h2 v hv

theorem fmax_or (f : Nat → Nat) : ∀ (vs : List Nat) (b : Nat), vs.foldl (fun b v => max b (f v)) b = b ∨ ∃ v ∈ vs, vs.foldl (fun b v => max b (f v)) b = f v
  | [], b => .inl rfl
  | u :: vs, b => by
    rw [List.foldl_cons]
    rcases fmax_or f vs (max b (f u)) with h | ⟨v, hv, h⟩
    · rw [h]
      by_cases e : f u ≤ b
      · exact .inl (by omega)
      · exact .inr ⟨u, List.mem_cons_self .., by omega⟩
    · exact .inr ⟨v, List.mem_cons_of_mem _ hv, h⟩

theorem bit_hi {s v : Nat} (hs : s < 64) (h : s.testBit v = true) : v < 6 := Classical.byContradiction fun hv => by
  have : s.testBit v = false := Nat.testBit_lt_two_pow (Nat.lt_of_lt_of_le hs (Nat.pow_le_pow_right (n := 2) (i := 6) (by decide) (by omega)))
  rw [this] at h; cases h

theorem woP_bit {s v i : Nat} (hs : s < 64) (hv : v < 6) : (woP s v).testBit i = (s.testBit i && decide (i ≠ v)) := by
  by_cases hi : i < 6
  · have := woP_bit_fin ⟨s, hs⟩ ⟨v, hv⟩ ⟨i, hi⟩
    simp only [Fin.mk.injEq, ne_eq] at this
    rw [this]
  · have h1 : s.testBit i = false := Nat.testBit_lt_two_pow (Nat.lt_of_lt_of_le hs (Nat.pow_le_pow_right (n := 2) (i := 6) (by decide) (by omega)))
    rw [h1, Bool.false_and]
    unfold woP
    rw [Nat.testBit_and, h1, Bool.false_and]

theorem woP_lt {s v : Nat} (hs : s < 64) : woP s v < 64 := Nat.lt_of_le_of_lt Nat.and_le_left hs
/-- The number of clubs less the worst set of places is the most clubs that get a member. -/
theorem ore : ∀ (zs : List Int) (L : Nat), L < 64 → (∀ p, p < 2 ^ zs.length → (matM zs L : Int) + overK zs L p ≤ zs.length) ∧ ∃ p, p < 2 ^ zs.length ∧ (matM zs L : Int) + overK zs L p = zs.length
  | [], L, _ => by
    have h : ∀ p, overK [] L p = 0 := fun p => by simp [overK, cntK, memK, togK, metU]
    refine ⟨fun p _ => by rw [h]; simp [matM], 0, by simp, by rw [h]; simp [matM]⟩
  | z :: zs, L, hL => by
    obtain ⟨n, hn⟩ : ∃ n, n = zs.length := ⟨_, rfl⟩
    have hlen : (z :: zs).length = n + 1 := by rw [List.length_cons, hn]
    obtain ⟨u0, q0, hq0, e0⟩ := ore zs L hL
    rw [← hn] at u0 hq0 e0
    -- a set of places, its first place told apart
    have hov : ∀ q b, b < 2 → overK (z :: zs) L (2 * q + b) = (b : Int) + (cntK n q : Int) - (cntK 8 (togK (z :: zs) (2 * q + b) &&& L) : Int) := fun q b hb => by
      unfold overK; rw [hlen, cnt_two n b q hb]; omega
    have ht0 : ∀ q, togK (z :: zs) (2 * q + 0) = togK zs q := fun q => by
      apply Nat.eq_of_testBit_eq; intro v; rw [tog_two z zs q 0 v (by decide)]; simp
    have hov0 : ∀ q, overK (z :: zs) L (2 * q + 0) = overK zs L q := fun q => by
      rw [hov q 0 (by decide), ht0]; unfold overK; rw [← hn]; omega
    have hle1 : ∀ q, overK (z :: zs) L (2 * q + 1) ≤ 1 + overK zs L q := fun q => by
      have : cntK 8 (togK zs q &&& L) ≤ cntK 8 (togK (z :: zs) (2 * q + 1) &&& L) := cntK_le fun v hv => by
        rw [Nat.testBit_and, Bool.and_eq_true] at hv
        rw [Nat.testBit_and, tog_two z zs q 1 v (by decide), hv.1, hv.2]; simp
      rw [hov q 1 (by decide)]; unfold overK; rw [← hn]; omega
    -- without a member
    have hwo : ∀ v q, v < 6 → L.testBit v = true → overK zs L q ≤ overK zs (woP L v) q ∧ overK zs (woP L v) q ≤ overK zs L q + (if (togK zs q).testBit v = true then 1 else 0) := fun v q hv hLv => by
      have h1 : cntK 8 (togK zs q &&& woP L v) ≤ cntK 8 (togK zs q &&& L) := cntK_le fun i hi => by
        rw [Nat.testBit_and, woP_bit hL hv] at hi
        rw [Nat.testBit_and]
        simp only [Bool.and_eq_true] at hi ⊢
        exact ⟨hi.1, hi.2.1⟩
      have h2 := flt_drop (p := fun i => (togK zs q &&& L).testBit i) (q := fun i => (togK zs q &&& woP L v).testBit i) v (List.range 8) List.nodup_range (fun i _ hi h => by
        rw [Nat.testBit_and, Bool.and_eq_true] at h
        rw [Nat.testBit_and, woP_bit hL hv, h.1, h.2]; simp [hi])
      have h3 : cntK 8 (togK zs q &&& L) ≤ cntK 8 (togK zs q &&& woP L v) + (if (togK zs q).testBit v = true then 1 else 0) := by
        refine Nat.le_trans h2 (Nat.add_le_add_left ?_ _)
        by_cases e : (togK zs q).testBit v = true
        · rw [if_pos e]; split <;> omega
        · rw [if_neg e, if_neg fun k => e (by have := k.2.1; rw [Nat.testBit_and, Bool.and_eq_true] at this; exact this.1)]
          exact Nat.le_refl _
      unfold overK
      constructor
      · omega
      · split at h3 <;> simp_all <;> omega
    have hzL : ∀ v, v ∈ memK 6 (z.toNat &&& L) → v < 6 ∧ z.toNat.testBit v = true ∧ L.testBit v = true := fun v hv => by
      simp only [memK, List.mem_filter, List.mem_range, Nat.testBit_and, Bool.and_eq_true] at hv
      exact ⟨hv.1, hv.2.1, hv.2.2⟩
    obtain ⟨g1, g2⟩ := fmax_ge (fun v => 1 + matM zs (woP L v)) (memK 6 (z.toNat &&& L)) (matM zs L)
    have g3 := fmax_or (fun v => 1 + matM zs (woP L v)) (memK 6 (z.toNat &&& L)) (matM zs L)
    rw [← show matM (z :: zs) L = (memK 6 (z.toNat &&& L)).foldl (fun b v => max b (1 + matM zs (woP L v))) (matM zs L) from rfl] at g1 g2 g3
    obtain ⟨M, hM⟩ : ∃ M, M = matM (z :: zs) L := ⟨_, rfl⟩
    rw [← hM] at g1 g2 g3 ⊢
    have hpow : 2 ^ (z :: zs).length = 2 * 2 ^ n := by rw [hlen, Nat.pow_succ]; omega
    have upper : ∀ p, p < 2 ^ (z :: zs).length → (M : Int) + overK (z :: zs) L p ≤ (z :: zs).length := fun p hp => by
      rw [hpow] at hp
      obtain ⟨q, b, hb, rfl⟩ : ∃ q b, b < 2 ∧ p = 2 * q + b := ⟨p / 2, p % 2, by omega, by omega⟩
      have hq : q < 2 ^ n := by omega
      have k0 := u0 q hq
      rw [hlen]
      rcases g3 with g3 | ⟨v, hv, g3⟩
      · rw [g3]
        rcases (show b = 0 ∨ b = 1 by omega) with rfl | rfl
        · rw [hov0]; omega
        · have := hle1 q; omega
      · obtain ⟨h1, h2, h3⟩ := hzL v hv
        have k1 := (ore zs (woP L v) (woP_lt hL)).1 q (by rw [← hn]; exact hq)
        rw [← hn] at k1
        rw [g3]
        rcases (show b = 0 ∨ b = 1 by omega) with rfl | rfl
        · rw [hov0]
          have := (hwo v q h1 h3).1
          omega
        · have h4 : cntK 8 (togK zs q &&& woP L v) + 1 ≤ cntK 8 (togK (z :: zs) (2 * q + 1) &&& L) := flt_lt v _ (fun i _ hi => by
            rw [Nat.testBit_and, woP_bit hL h1, Bool.and_eq_true, Bool.and_eq_true] at hi
            rw [Nat.testBit_and, tog_two z zs q 1 i (by decide), hi.1, hi.2.1]; simp) (List.mem_range.2 (by omega)) (by rw [Nat.testBit_and, woP_bit hL h1]; simp) (by rw [Nat.testBit_and, tog_two z zs q 1 v (by decide), h2, h3]; simp)
          rw [hov q 1 (by decide)]
          unfold overK at k1
          rw [← hn] at k1
          omega
    refine ⟨upper, ?_⟩
    by_cases hc : M = matM zs L
    · -- no member helps: the sets that tell so are put together
      have tight : ∀ v, v ∈ memK 6 (z.toNat &&& L) → ∃ q, q < 2 ^ n ∧ overK zs L q = (n : Int) - M ∧ (togK zs q).testBit v = true := fun v hv => by
        obtain ⟨h1, h2, h3⟩ := hzL v hv
        obtain ⟨-, q, hq, e⟩ := ore zs (woP L v) (woP_lt hL)
        rw [← hn] at hq e
        have k1 := g2 v hv
        have k2 := u0 q hq
        have k3 := (hwo v q h1 h3).2
        by_cases ht : (togK zs q).testBit v = true
        · rw [if_pos ht] at k3
          exact ⟨q, hq, by omega, ht⟩
        · rw [if_neg ht] at k3
          omega
      have all : ∀ vs : List Nat, (∀ v ∈ vs, v ∈ memK 6 (z.toNat &&& L)) → ∃ q, q < 2 ^ n ∧ overK zs L q = (n : Int) - M ∧ ∀ v ∈ vs, (togK zs q).testBit v = true := by
        intro vs
        induction vs with
        | nil => intro _; exact ⟨q0, hq0, by omega, fun v h => by cases h⟩
        | cons v vs ih =>
          intro hvs
          obtain ⟨q1, hq1, e1, f1⟩ := ih fun u hu => hvs u (List.mem_cons_of_mem _ hu)
          obtain ⟨q2, hq2, e2, f2⟩ := tight v (hvs v (List.mem_cons_self ..))
          have hor : q1 ||| q2 < 2 ^ n := Nat.or_lt_two_pow hq1 hq2
          have hand : q1 &&& q2 < 2 ^ n := Nat.lt_of_le_of_lt Nat.and_le_left hq1
          have s1 := over_sup zs L q1 q2
          have s2 := u0 _ hor
          have s3 := u0 _ hand
          refine ⟨q1 ||| q2, hor, by omega, fun u hu => ?_⟩
          rw [tog_or, Nat.testBit_or]
          rcases List.mem_cons.1 hu with rfl | hu
          · rw [f2]; simp
          · rw [f1 u hu]; rfl
      obtain ⟨q, hq, e, f⟩ := all _ fun v h => h
      refine ⟨2 * q + 1, by rw [hpow]; omega, ?_⟩
      have hsame : togK (z :: zs) (2 * q + 1) &&& L = togK zs q &&& L := by
        apply Nat.eq_of_testBit_eq; intro v
        rw [Nat.testBit_and, Nat.testBit_and, tog_two z zs q 1 v (by decide)]
        cases hz : z.toNat.testBit v
        · simp
        · cases hl : L.testBit v
          · simp
          · rw [f v (by simp only [memK, List.mem_filter, List.mem_range, Nat.testBit_and, hz, hl]; exact ⟨bit_hi hL hl, rfl⟩)]; simp
      rw [hov q 1 (by decide), hsame, hlen]
      unfold overK at e
      rw [← hn] at e
      omega
    · refine ⟨2 * q0 + 0, by rw [hpow]; omega, ?_⟩
      rw [hov0, hlen]
      rcases g3 with g3 | ⟨v, hv, g3⟩
      · exact absurd g3 hc
      · obtain ⟨h1, h2, h3⟩ := hzL v hv
        have k1 := (ore zs (woP L v) (woP_lt hL)).1 q0 (by rw [← hn]; exact hq0)
        rw [← hn] at k1
        have k2 := (hwo v q0 h1 h3).1
        have : matM zs L < M := by omega
        omega

end Go.Proofs.YtnpfdgbbcapnkaaDoor
