/- It is proved that the orbits of a family's own names divide its members, have members of one degree, and sizes that divide the number of own names; conditions: those of each statement. -/
import Derived.RowKit
import Derived.Laws.CopyRow
import Derived.Lib.SlBuf
import Derived.Deep.QuietTactic
import Derived.RangeFuncNested
import Derived.RangeFuncBound
import Derived.RangeFuncCalls
import Derived.RangeFuncLeaves
import Derived.RangeFuncBox
import Derived.RangeFuncWrites
import Derived.StillTailTactics
import Derived.Maps.OwnIn
import Derived.Maps.Ext
import Derived.DeepKeys4
import Derived.MapKept
import Derived.Test.YtjclfpcnfmpjdaaDoorRows
import Derived.WalkKit
import Derived.WalkSpells
import Derived.ProofKit
import Derived.OpenShut
import Derived.ShutString
import Derived.ChangeOld
import Derived.Below
import Derived.Deep.RegionHeld3
import Derived.BigQuiet
import Derived.Lib.Hide
import Derived.Lib.SmallJoins
import Derived.Outline
import Derived.Laws.MakeOwn
import Derived.Laws.OwnMore
import Derived.IntWalk
import Derived.Maps.AppendAt
import Derived.Sort.MapsRangeIn
import Derived.Deep.RegionLaw
import Derived.Deep.AppendLies
import Derived.Lib.AppendZeros
import Derived.OwnWalk
import Derived.Lib.SlicesCompact
import Derived.Lib.OwnBridge
import Derived.OrdersIn
import Derived.TacticsIn
import Derived.Shelf.Sort.Plain
import Derived.Shelf.Slices.In.SortNone
import Derived.Shelf.Slices.CompactI
import Derived.Ground.Names2Prog
import Derived.Shelf.Abstract
import Derived.Shelf.RegionOpen
import Derived.OwnWalkIn
import Derived.TacticsInMore
import Derived.LoopNIn
import Derived.LoopIn
import Derived.StillTail
import Derived.StillTactics
import Derived.Shelf.Spec.TrailingZeros
import Derived.Test.YtjclfpcnfmpjdaaDoorMsa
import Derived.Test.YtjclfpcnfmpjdaaDoorMsb
import Derived.Test.YtjclfpcnfmpjdaaDoorBi
import Derived.Test.YtjclfpcnfmpjdaaDoorPm
import Derived.Test.YtjclfpcnfmpjdaaDoorPq
import Derived.Test.YtjclfpcnfmpjdaaDoorPzB
import Derived.Test.YtjclfpcnfmpjdaaDoorQb
import Derived.Test.YtjclfpcnfmpjdaaDoorQc
import Derived.Test.YtjclfpcnfmpjdaaDoorQe
import Derived.Test.YtjclfpcnfmpjdaaDoorZa
namespace Go.Proofs.YtjclfpcnfmpjdaaDoor
open Go.RowKit

theorem orF_test (v : Nat) : ∀ (L : List (List Nat)) (s i : Nat), (L.foldl (fun s p => s ||| 2 ^ (p[v]?.getD 0)) s).testBit i = (s.testBit i || L.any fun p => decide (p[v]?.getD 0 = i))
  | [], s, i => by simp
  | p :: L, s, i => by
    rw [List.foldl_cons, orF_test v L, Nat.testBit_or, Nat.testBit_two_pow, List.any_cons, Bool.or_assoc]

theorem calC_bit {k : Nat} {zs : List Int} {v i : Nat} : (calC k zs v).testBit i = true ↔ ∃ p ∈ ownL k zs, p[v]?.getD 0 = i := by
  rw [calC, orF_test, Nat.zero_testBit, Bool.false_or, List.any_eq_true]
  simp

theorem own_comp {k : Nat} (hk : k ≤ 6) {zs : List Int} (hf : famIn (k : Int) zs = true) {p q : List Nat} (hp : p ∈ ownL k zs) (hq : q ∈ ownL k zs) : compN p q ∈ ownL k zs := by
  obtain ⟨p1, p2⟩ := own_mem.1 hp
  obtain ⟨q1, q2⟩ := own_mem.1 hq
  refine own_mem.2 ⟨comp_in p1 q1, ?_⟩
  rw [← lst_comp hk p1 q1 hf, p2, lst_comp hk (range_in k) q1 hf, comp_idL q1, q2]

theorem own_inv {k : Nat} (hk : k ≤ 6) {zs : List Int} (hf : famIn (k : Int) zs = true) {p : List Nat} (hp : p ∈ ownL k zs) : invN k p ∈ ownL k zs := by
  obtain ⟨p1, p2⟩ := own_mem.1 hp
  refine own_mem.2 ⟨inv_in p1, ?_⟩
  have h1 := lst_comp hk p1 (inv_in p1) hf
  rw [comp_inv p1, p2, lst_comp hk (range_in k) (inv_in p1) hf, comp_idL (inv_in p1)] at h1
  exact h1

theorem comp_at {p q : List Nat} {v : Nat} (hv : v < p.length) : (compN p q)[v]?.getD 0 = q[p[v]?.getD 0]?.getD 0 := by simp [compN, hv]
theorem inv_at {k : Nat} {p : List Nat} (hp : p ∈ lvlL k k) {v : Nat} (hv : v < k) : (invN k p)[p[v]?.getD 0]?.getD 0 = v := by
  have h1 := comp_at (p := p) (q := invN k p) (v := v) (by rw [lvlL_in hp]; exact hv)
  rw [comp_inv hp] at h1
  rw [← h1]; simp [hv]

theorem name_lt {k : Nat} {p : List Nat} (hp : p ∈ lvlL k k) {v : Nat} (hv : v < k) : p[v]?.getD 0 < k := by
  have hl := lvlL_in hp
  have := lvlL_lt hp p[v] (List.getElem_mem _)
  simpa [show v < p.length by omega] using this

theorem calC_lt2 {k : Nat} {zs : List Int} {v i : Nat} (hv : v < k) (h : (calC k zs v).testBit i = true) : i < k := by
  obtain ⟨p, hp, rfl⟩ := calC_bit.1 h
  exact name_lt (own_mem.1 hp).1 hv

theorem calC_self {k : Nat} {zs : List Int} {v : Nat} (hv : v < k) : (calC k zs v).testBit v = true := calC_bit.2 ⟨List.range k, own_mem.2 ⟨range_in k, rfl⟩, by simp [hv]⟩
theorem calC_same {k : Nat} (hk : k ≤ 6) {zs : List Int} (hf : famIn (k : Int) zs = true) {v w : Nat} (hv : v < k) (h : (calC k zs v).testBit w = true) : calC k zs w = calC k zs v := by
  obtain ⟨p, hp, hw⟩ := calC_bit.1 h
  have p1 := (own_mem.1 hp).1
  have hwk : w < k := calC_lt2 hv h
  apply Nat.eq_of_testBit_eq
  intro i
  rw [Bool.eq_iff_iff, calC_bit, calC_bit]
  constructor
  · rintro ⟨q, hq, e⟩
    refine ⟨compN p q, own_comp hk hf hp hq, ?_⟩
    rw [comp_at (by rw [lvlL_in p1]; exact hv), hw, e]
  · rintro ⟨q, hq, e⟩
    refine ⟨compN (invN k p) q, own_comp hk hf (own_inv hk hf hp) hq, ?_⟩
    have h1 := inv_at p1 hv
    rw [hw] at h1
    rw [comp_at (by rw [lvlL_in (inv_in p1)]; exact hwk), h1, e]

/-! ### orbits as sets -/
theorem orb_seen {C : Nat → Nat} {k : Nat} (hself : ∀ v, v < k → (C v).testBit v = true) (hsame : ∀ v w, v < k → (C v).testBit w = true → C w = C v) : ∀ v, v ≤ k → ∀ i, ((orbG C v).2.testBit i = true ↔ ∃ u, u < v ∧ (C u).testBit i = true)
  | 0, _, i => by simp [orbG]
  | v + 1, hv, i => by
    have ih := orb_seen hself hsame v (by omega)
    cases ht : (orbG C v).2.testBit v
    · rw [orbG_no ht, Nat.testBit_or, Bool.or_eq_true, ih i]
      constructor
      · rintro (⟨u, hu, h⟩ | h)
        · exact ⟨u, by omega, h⟩
        · exact ⟨v, by omega, h⟩
      · rintro ⟨u, hu, h⟩
        by_cases e : u = v
        · subst e; exact .inr h
        · exact .inl ⟨u, by omega, h⟩
    · rw [orbG_yes ht, ih i]
      constructor
      · rintro ⟨u, hu, h⟩
        exact ⟨u, by omega, h⟩
      · rintro ⟨u, hu, h⟩
        by_cases e : u = v
        · subst e
          obtain ⟨x, hx, hx2⟩ := (ih u).1 ht
          exact ⟨x, hx, by rw [← hsame x u (by omega) hx2]; exact h⟩
        · exact ⟨u, by omega, h⟩

theorem orb_in {C : Nat → Nat} : ∀ v, ∀ x ∈ (orbG C v).1, ∃ u, u < v ∧ x = C u
  | 0, x, hx => by simp [orbG] at hx
  | v + 1, x, hx => by
    cases ht : (orbG C v).2.testBit v
    · rw [orbG_no ht] at hx
      rcases List.mem_append.1 hx with h | h
      · obtain ⟨u, hu, e⟩ := orb_in v x h
        exact ⟨u, by omega, e⟩
      · exact ⟨v, by omega, by simpa using h⟩
    · rw [orbG_yes ht] at hx
      obtain ⟨u, hu, e⟩ := orb_in v x hx
      exact ⟨u, by omega, e⟩

theorem orb_fold {C : Nat → Nat} {k : Nat} (hself : ∀ v, v < k → (C v).testBit v = true) (hsame : ∀ v w, v < k → (C v).testBit w = true → C w = C v) : ∀ v, v ≤ k → (orbG C v).1.foldl (· ||| ·) 0 = (orbG C v).2 ∧ ∀ i, i < (orbG C v).1.length → ((orbG C v).1.take i).foldl (· ||| ·) 0 &&& ((orbG C v).1[i]?.getD 0) = 0
  | 0, _ => by simp [orbG]
  | v + 1, hv => by
    obtain ⟨ih1, ih2⟩ := orb_fold hself hsame v (by omega)
    cases ht : (orbG C v).2.testBit v
    · rw [orbG_no ht]
      refine ⟨by rw [List.foldl_append, ih1]; rfl, fun i hi => ?_⟩
      rw [List.length_append, List.length_singleton] at hi
      by_cases e : i < (orbG C v).1.length
      · rw [List.take_append_of_le_length (by omega), List.getElem?_append_left e]
        exact ih2 i e
      · obtain rfl : i = (orbG C v).1.length := by omega
        rw [List.take_left' rfl, ih1, List.getElem?_append_right (Nat.le_refl _), Nat.sub_self]
        apply Nat.eq_of_testBit_eq
        intro x
        rw [Nat.zero_testBit, Nat.testBit_and, Bool.and_eq_false_iff]
        cases h1 : (orbG C v).2.testBit x
        · exact .inl rfl
        · right
          obtain ⟨u, hu, hx⟩ := (orb_seen hself hsame v (by omega) x).1 h1
          cases h2 : (C v).testBit x
          · simpa using h2
          · exfalso
            have e1 := hsame u x (by omega) hx
            have e2 := hsame v x (by omega) h2
            have : (orbG C v).2.testBit v = true := (orb_seen hself hsame v (by omega) v).2 ⟨u, hu, by rw [← e1, e2]; exact hself v (by omega)⟩
            rw [ht] at this; cases this
    · rw [orbG_yes ht]
      exact ⟨ih1, ih2⟩

/-! ### sizes -/
theorem len_classes {α : Type} (f : α → Nat) (g : Nat) : ∀ (ws : List Nat) (xs : List α), ws.Nodup → (∀ x ∈ xs, f x ∈ ws) → (∀ w ∈ ws, (xs.filter fun x => decide (f x = w)).length = g) → xs.length = ws.length * g
  | [], xs, _, h, _ => by
    cases xs with
    | nil => simp
    | cons x t => exact absurd (h x (by simp)) (by simp)
  | w :: ws, xs, hn, h, hg => by
    obtain ⟨hw, hn2⟩ := List.nodup_cons.1 hn
    have hsp : xs.length = (xs.filter fun y => decide (f y = w)).length + (xs.filter fun y => !decide (f y = w)).length := by
      rw [← List.countP_eq_length_filter, ← List.countP_eq_length_filter]
      have := List.length_eq_countP_add_countP (p := fun y => decide (f y = w)) (l := xs)
      simpa using this
    have ih := len_classes f g ws (xs.filter fun y => !decide (f y = w)) hn2 (fun x hx => by
      obtain ⟨h1, h2⟩ := List.mem_filter.1 hx
      rcases List.mem_cons.1 (h x h1) with e | e
      · simp [e] at h2
      · exact e) (fun u hu => by
      rw [List.filter_filter, ← hg u (List.mem_cons_of_mem _ hu)]
      congr 1
      apply List.filter_congr
      intro z _
      by_cases hz : f z = u
      · have : ¬ u = w := fun e => hw (e ▸ hu)
        simp [hz, this]
      · simp [hz])
    rw [hsp, hg w (by simp), ih, List.length_cons, Nat.succ_mul]; omega

theorem orb_class {k : Nat} (hk : k ≤ 6) {zs : List Int} (hf : famIn (k : Int) zs = true) {v : Nat} (hv : v < k) {q : List Nat} (hq : q ∈ ownL k zs) :
    ((ownL k zs).filter fun p => decide (p[v]?.getD 0 = q[v]?.getD 0)).length = ((ownL k zs).filter fun p => decide (p[v]?.getD 0 = v)).length := by
  have q1 := (own_mem.1 hq).1
  have lt_of : ∀ {p q : List Nat}, p ∈ lvlL k k → q ∈ lvlL k k → ∀ v ∈ p, v < q.length := fun hp hq v hv => by rw [lvlL_in hq]; exact lvlL_lt hp v hv
  have hown : (ownL k zs).Nodup := by rw [own_keep]; exact List.Pairwise.filter _ (lvl_nodup k)
  have h : ((ownL k zs).filter fun p => decide (p[v]?.getD 0 = q[v]?.getD 0)).Perm (((ownL k zs).filter fun p => decide (p[v]?.getD 0 = v)).map fun p => compN p q) := by
    refine (List.perm_ext_iff_of_nodup ?_ ?_).2 fun p => ?_
    · exact List.Pairwise.filter _ hown
    · unfold List.Nodup
      rw [List.pairwise_map]
      refine List.Pairwise.imp_of_mem ?_ (List.Pairwise.filter _ hown)
      intro x y hx hy hne e
      apply hne
      have x1 := (own_mem.1 (List.mem_filter.1 hx).1).1
      have y1 := (own_mem.1 (List.mem_filter.1 hy).1).1
      have e2 : compN (compN x q) (invN k q) = compN (compN y q) (invN k q) := by rw [e]
      rw [comp_assoc (lt_of x1 q1), comp_inv q1, comp_idR x1, comp_assoc (lt_of y1 q1), comp_inv q1, comp_idR y1] at e2
      exact e2
    · rw [List.mem_filter, decide_eq_true_eq, List.mem_map]
      constructor
      · rintro ⟨hp, he⟩
        have p1 := (own_mem.1 hp).1
        refine ⟨compN p (invN k q), List.mem_filter.2 ⟨own_comp hk hf hp (own_inv hk hf hq), ?_⟩, ?_⟩
        · rw [decide_eq_true_eq, comp_at (by rw [lvlL_in p1]; exact hv), he]
          exact inv_at q1 hv
        · rw [comp_assoc (lt_of p1 (inv_in q1)), inv_comp q1, comp_idR p1]
      · rintro ⟨p, hp, rfl⟩
        obtain ⟨hp1, hp2⟩ := List.mem_filter.1 hp
        rw [decide_eq_true_eq] at hp2
        refine ⟨own_comp hk hf hp1 hq, ?_⟩
        rw [comp_at (by rw [lvlL_in (own_mem.1 hp1).1]; exact hv), hp2]
  rw [h.length_eq, List.length_map]

theorem orb_dvd {k : Nat} (hk : k ≤ 6) {zs : List Int} (hf : famIn (k : Int) zs = true) {v : Nat} (hv : v < k) : (mem (calC k zs v)).length ∣ (ownL k zs).length := by
  refine ⟨((ownL k zs).filter fun p => decide (p[v]?.getD 0 = v)).length, len_classes (fun p => p[v]?.getD 0) _ _ _ ?_ ?_ ?_⟩
  · exact List.Pairwise.filter _ List.nodup_range
  · intro p hp
    rw [mem, List.mem_filter, List.mem_range]
    have := name_lt (own_mem.1 hp).1 hv
    exact ⟨by omega, calC_bit.2 ⟨p, hp, rfl⟩⟩
  · intro w hw
    rw [mem, List.mem_filter] at hw
    obtain ⟨q, hq, rfl⟩ := calC_bit.1 hw.2
    exact orb_class hk hf hv hq

/-! ### degrees -/
theorem count_bit_fin : ∀ s : Fin 64, ∀ v : Fin 6, (mem s.val).count v.val = if s.val.testBit v.val then 1 else 0 := by decide +kernel
theorem count_bit {s v : Nat} (hs : s < 64) (hv : v < 6) : (mem s).count v = if s.testBit v then 1 else 0 := count_bit_fin ⟨s, hs⟩ ⟨v, hv⟩
theorem deg_countP {v : Nat} (hv : v < 6) : ∀ (zs : List Int), (∀ z ∈ zs, z.toNat < 64) → (allMem zs).count v = zs.countP fun z => z.toNat.testBit v
  | [], _ => by simp [allMem]
  | z :: zs, h => by
    rw [allMem_cons, List.count_append, deg_countP hv zs (fun x hx => h x (by simp [hx])), count_bit (h z (by simp)) hv, List.countP_cons, Nat.add_comm]

theorem called_deg {k : Nat} (hk : k ≤ 6) {zs : List Int} (hf : famIn (k : Int) zs = true) {p : List Nat} (hp : p ∈ lvlL k k) {v : Nat} (hv : v < k) : (allMem (zs.map (callZ (nI p)))).count (p[v]?.getD 0) = (allMem zs).count v := by
  have h64 := pow64 k hk
  have hpv := name_lt hp hv
  rw [deg_countP (by omega) zs (fun z hz => by have := (fam_small hf z hz).2; omega), deg_countP (by omega) _ (fun z hz => by have := (fam_small (fam_called hk hp hf) z hz).2; omega), List.countP_map]
  apply List.countP_congr
  intro z hz
  have b := called_bit hk (perm_names hk hp) (fam_small hf z hz).2 hv
  rw [nI_at p _ (by rw [lvlL_in hp]; exact hv)] at b
  rw [Function.comp, callZ, Int.toNat_natCast, b]

theorem allMem_perm {xs ys : List Int} (h : xs.Perm ys) : (allMem xs).Perm (allMem ys) := h.flatMap_right _
theorem own_deg {k : Nat} (hk : k ≤ 6) {zs : List Int} (hf : famIn (k : Int) zs = true) {p : List Nat} (hp : p ∈ ownL k zs) {v : Nat} (hv : v < k) : (allMem zs).count (p[v]?.getD 0) = (allMem zs).count v := by
  obtain ⟨p1, p2⟩ := own_mem.1 hp
  have h1 := lst_iff.1 p2
  have h2 : zs.map (callZ (nI (List.range k))) = zs := by
    conv => rhs; rw [← List.map_id zs]
    exact List.map_congr_left fun z hz => callZ_id hk (fam_small hf z hz).1 (fam_small hf z hz).2
  rw [h2] at h1
  rw [← called_deg hk hf p1 hv]
  exact ((allMem_perm h1).count_eq _).symm

theorem orb_deg {k : Nat} (hk : k ≤ 6) {zs : List Int} (hf : famIn (k : Int) zs = true) {v w : Nat} (hv : v < k) (h : (calC k zs v).testBit w = true) : (degL k (allMem zs))[w]?.getD 0 = (degL k (allMem zs))[v]?.getD 0 := by
  obtain ⟨p, hp, rfl⟩ := calC_bit.1 h
  rw [degL_at _ _ _ (name_lt (own_mem.1 hp).1 hv), degL_at _ _ _ hv, own_deg hk hf hp hv]

/-! ### all at once -/
/-- What is known of a family's orbits. -/
structure OrbOk (k : Nat) (O : List Nat) (s : Int) (ds : List Int) : Prop where
  len : O.length ≤ k
  lt : ∀ i, i < O.length → O[i]?.getD 0 < 2 ^ k
  ne : ∀ i, i < O.length → O[i]?.getD 0 ≠ 0
  apart : ∀ i, i < O.length → (O.take i).foldl (· ||| ·) 0 &&& (O[i]?.getD 0) = 0
  all : O.foldl (· ||| ·) 0 = 2 ^ k - 1
  divides : ∀ i, i < O.length → s.tmod (pop ((O[i]?.getD 0 : Nat) : Int)) = 0
  deg : ∀ i, i < O.length → ∃ d : Int, 0 ≤ d ∧ ∀ v, v < k → (O[i]?.getD 0).testBit v = true → ds[v]?.getD 0 = d

theorem orbits_facts {m : Int} {zs : List Int} (h : famIn m zs = true) : ∃ O : List Nat, orbZ m zs = nI O ∧ OrbOk m.toNat O (sameZ m zs) (famDeg m zs) ∧ 1 ≤ sameZ m zs ∧ sameZ m zs ≤ 720 := by
  obtain ⟨hm1, hm6, -, -⟩ := famIn_out h
  obtain ⟨k, rfl⟩ : ∃ k : Nat, m = (k : Int) := ⟨m.toNat, by omega⟩
  have hk : k ≤ 6 := by omega
  have e3 : sameZ (k : Int) zs = ((ownL k zs).length : Int) := by rw [sameZ, if_pos h]; rfl
  have e4 : famDeg (k : Int) zs = degL k (allMem zs) := by rw [famDeg, if_pos h]; rfl
  have hself : ∀ v, v < k → (calC k zs v).testBit v = true := fun v hv => calC_self hv
  have hsame : ∀ v w, v < k → (calC k zs v).testBit w = true → calC k zs w = calC k zs v := fun v w hv hw => calC_same hk h hv hw
  have hat : ∀ i, i < (orbG (calC k zs) k).1.length → ∃ u, u < k ∧ (orbG (calC k zs) k).1[i]?.getD 0 = calC k zs u := fun i hi => by
    rw [List.getElem?_eq_getElem hi, Option.getD_some]
    exact orb_in k _ (List.getElem_mem _)
  have hlt : ∀ u, u < k → calC k zs u < 2 ^ k := fun u hu => Nat.lt_pow_two_of_testBit _ fun i hi => by
    cases ht : (calC k zs u).testBit i
    · rfl
    · have := calC_lt2 hu ht; omega
  obtain ⟨f1, f2⟩ := orb_fold hself hsame k (Nat.le_refl k)
  refine ⟨(orbG (calC k zs) k).1, by rw [orbZ, if_pos h]; rfl, ?_, (same_facts h).2.2.2.1, (same_facts h).2.2.2.2.1⟩
  rw [Int.toNat_natCast, e3, e4]
  refine ⟨orbG_len _ k, ?_, ?_, f2, ?_, ?_, ?_⟩
  · intro i hi
    obtain ⟨u, hu, e⟩ := hat i hi
    rw [e]; exact hlt u hu
  · intro i hi e0
    obtain ⟨u, hu, e⟩ := hat i hi
    have := calC_self (zs := zs) hu
    rw [← e, e0] at this
    simp at this
  · rw [f1]
    apply Nat.eq_of_testBit_eq
    intro i
    rw [Nat.testBit_two_pow_sub_one, Bool.eq_iff_iff, orb_seen hself hsame k (Nat.le_refl k), decide_eq_true_eq]
    exact ⟨fun ⟨u, hu, hx⟩ => calC_lt2 hu hx, fun hi => ⟨i, hi, hself i hi⟩⟩
  · intro i hi
    obtain ⟨u, hu, e⟩ := hat i hi
    have h64 := pow64 k hk
    have := hlt u hu
    rw [e, pop_mem (by omega), ← Int.ofNat_tmod]
    have := Nat.mod_eq_zero_of_dvd (orb_dvd hk h hu)
    omega
  · intro i hi
    obtain ⟨u, hu, e⟩ := hat i hi
    refine ⟨(degL k (allMem zs))[u]?.getD 0, ?_, fun v hv hb => ?_⟩
    · rw [degL_at _ _ _ hu]; simp
    · rw [e] at hb
      exact orb_deg hk h hu hb

end Go.Proofs.YtjclfpcnfmpjdaaDoor
