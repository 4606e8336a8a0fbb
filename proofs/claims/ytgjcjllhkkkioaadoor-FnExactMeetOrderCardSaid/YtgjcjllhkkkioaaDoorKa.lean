/- It is proved what least covers are, and that a list between the least covers and the covers has just them as its least sets; conditions: those of each statement. -/
import Derived.Test.YtgjcjllhkkkioaaDoorRows
import Derived.WalkKit
import Derived.WalkSpells
import Derived.ProofKit
import Derived.OpenShut
import Derived.ShutString
import Derived.ChangeOld
import Derived.Below
import Derived.Deep.RegionHeld3
import Derived.Deep.QuietTactic
import Derived.BigQuiet
import Derived.Lib.Hide
import Derived.Lib.SmallJoins
import Derived.Outline
import Derived.Laws.MakeOwn
import Derived.Laws.OwnMore
import Derived.IntWalk
import Derived.Lib.AppendZeros
import Derived.Maps.AppendAt
import Derived.Deep.AppendLies
import Derived.OwnWalk
import Derived.Lib.SlicesCompact
import Derived.Lib.OwnBridge
import Derived.Shelf.Sort.Plain
import Derived.Shelf.Slices.In.SortNone
import Derived.Shelf.Slices.CompactI
import Derived.Ground.Names2Prog
import Derived.Lib.SliceRun
import Derived.RangeFuncNested
import Derived.RangeFuncBound
import Derived.RangeFuncCalls
import Derived.RangeFuncLeaves
import Derived.RangeFuncBox
import Derived.Shelf.Abstract
import Derived.Shelf.RegionOpen
import Derived.OwnWalkIn
import Derived.TacticsInMore
import Derived.LoopNIn
import Derived.LoopIn
import Derived.StillTail
import Derived.StillTactics
import Derived.OrdersIn
import Derived.TacticsIn
import Derived.Shelf.Spec.TrailingZeros
import Derived.StillTailTactics
import Derived.Test.YtgjcjllhkkkioaaDoorRaai
import Derived.Test.YtgjcjllhkkkioaaDoorRaas
import Derived.Test.YtgjcjllhkkkioaaDoorRaaf
import Derived.Test.YtgjcjllhkkkioaaDoorRaaq
import Derived.Test.YtgjcjllhkkkioaaDoorRaac
import Derived.Test.YtgjcjllhkkkioaaDoorRaah
namespace Go.Proofs.YtgjcjllhkkkioaaDoor
open Go.RowKit

/-- All clubs have a member of a set. -/
def covB (zs : List Int) (s : Nat) : Bool := zs.all fun z => z.toNat &&& s != 0

theorem covB_iff {zs : List Int} {s : Nat} : covB zs s = true ↔ ∀ z ∈ zs, z.toNat &&& s ≠ 0 := by simp [covB]
theorem covB_mono {zs : List Int} {s t : Nat} (h : covB zs s = true) (hs : s &&& t = s) : covB zs t = true := by
  rw [covB_iff] at h ⊢
  intro z hz e
  refine h z hz ?_
  rw [← hs, Nat.and_comm s t, ← Nat.and_assoc, e, Nat.zero_and]

theorem covB_congr {zs ys : List Int} (h : ∀ z, z ∈ zs ↔ z ∈ ys) (s : Nat) : covB zs s = covB ys s := by
  rw [Bool.eq_iff_iff, covB_iff, covB_iff]
  exact ⟨fun h1 z hz => h1 z ((h z).2 hz), fun h1 z hz => h1 z ((h z).1 hz)⟩

theorem covB_snoc (zs : List Int) (z : Int) (s : Nat) : covB (zs ++ [z]) s = (covB zs s && (z.toNat &&& s != 0)) := by simp [covB]
theorem covB_nil (s : Nat) : covB [] s = true := rfl
set_option maxRecDepth 100000 in
theorem wo_sub_fin : ∀ t s : Fin 64, ∀ v : Fin 6, t.val &&& s.val = t.val → t.val.testBit v.val = false → t.val &&& woP s.val v.val = t.val := by decide +kernel

set_option maxRecDepth 100000 in
theorem wo_part_fin : ∀ s : Fin 64, ∀ v : Fin 6, woP s.val v.val &&& s.val = woP s.val v.val ∧ (woP s.val v.val).testBit v.val = false ∧ (s.val.testBit v.val = true → woP s.val v.val < s.val) ∧ (s.val.testBit v.val = false → woP s.val v.val = s.val) := by decide +kernel

theorem wo_sub {t s v : Nat} (ht : t < 64) (hs : s < 64) (hv : v < 6) (h : t &&& s = t) (hb : t.testBit v = false) : t &&& woP s v = t := wo_sub_fin ⟨t, ht⟩ ⟨s, hs⟩ ⟨v, hv⟩ h hb
theorem wo_part {s v : Nat} (hs : s < 64) (hv : v < 6) : woP s v &&& s = woP s v ∧ (woP s v).testBit v = false ∧ (s.testBit v = true → woP s v < s) ∧ (s.testBit v = false → woP s v = s) := wo_part_fin ⟨s, hs⟩ ⟨v, hv⟩
theorem sub_lt {t s : Nat} (h : t &&& s = t) : t ≤ s := by rw [← h]; exact Nat.and_le_right
/-- A smaller part misses some member. -/
theorem sub_miss {t s m : Nat} (hs : s < 2 ^ m) (h : t &&& s = t) (hne : t ≠ s) : ∃ v, v < m ∧ s.testBit v = true ∧ t.testBit v = false := by
  refine Classical.byContradiction fun hno => hne ?_
  apply Nat.eq_of_testBit_eq
  intro v
  have h1 : t.testBit v = (t.testBit v && s.testBit v) := by rw [← Nat.testBit_and, h]
  cases hsv : s.testBit v
  · rw [h1, hsv, Bool.and_false]
  · cases htv : t.testBit v
    · exfalso
      refine hno ⟨v, ?_, hsv, htv⟩
      refine Classical.byContradiction fun hvm => ?_
      have : s.testBit v = false := Nat.testBit_lt_two_pow (Nat.lt_of_lt_of_le hs (Nat.pow_le_pow_right (by decide) (by omega)))
      rw [this] at hsv; cases hsv
    · rfl

theorem p64 {m s : Nat} (hm : m ≤ 6) (hs : s < 2 ^ m) : s < 64 := Nat.lt_of_lt_of_le hs (Nat.pow_le_pow_right (n := 2) (by decide) hm)
/-- A cover of which no smaller part is one. -/
def minB (m : Nat) (zs : List Int) (s : Nat) : Bool := covB zs s && (List.range m).all fun v => !(s.testBit v) || !covB zs (woP s v)

theorem minB_iff {m : Nat} (hm : m ≤ 6) {zs : List Int} {s : Nat} (hs : s < 2 ^ m) : minB m zs s = true ↔ covB zs s = true ∧ ∀ t, covB zs t = true → t &&& s = t → t = s := by
  have hs6 := p64 hm hs
  rw [minB, Bool.and_eq_true]
  constructor
  · rintro ⟨h1, h2⟩
    refine ⟨h1, fun t ht hts => Classical.byContradiction fun hne => ?_⟩
    obtain ⟨v, hv, hsv, htv⟩ := sub_miss hs hts hne
    have h3 := List.all_eq_true.1 h2 v (List.mem_range.2 hv)
    rw [hsv, covB_mono ht (wo_sub (Nat.lt_of_le_of_lt (sub_lt hts) hs6) hs6 (by omega) hts htv)] at h3
    cases h3
  · rintro ⟨h1, h2⟩
    refine ⟨h1, List.all_eq_true.2 fun v hv => ?_⟩
    rw [List.mem_range] at hv
    obtain ⟨w1, w2, w3, w4⟩ := wo_part hs6 (show v < 6 by omega)
    cases hsv : s.testBit v
    · rfl
    · cases hc : covB zs (woP s v)
      · rfl
      · have := h2 _ hc w1
        have := w3 hsv
        omega

theorem min_below {m : Nat} (hm : m ≤ 6) {zs : List Int} : ∀ (n s : Nat), s ≤ n → s < 2 ^ m → covB zs s = true → ∃ t, t &&& s = t ∧ t < 2 ^ m ∧ minB m zs t = true
  | 0, s, hn, hs, hc => ⟨s, by simp, hs, by
      have : s = 0 := by omega
      subst this
      rw [minB_iff hm hs]
      exact ⟨hc, fun t _ h => by simpa using h.symm⟩⟩
  | n + 1, s, hn, hs, hc => by
    by_cases h : minB m zs s = true
    · exact ⟨s, by simp, hs, h⟩
    · have hs6 := p64 hm hs
      rw [minB, hc, Bool.true_and, List.all_eq_true] at h
      obtain ⟨v, hv, hsv, hcv⟩ : ∃ v, v < m ∧ s.testBit v = true ∧ covB zs (woP s v) = true := Classical.byContradiction fun hno => h fun v hv => by
        rw [List.mem_range] at hv
        cases h1 : s.testBit v
        · rfl
        · cases h2 : covB zs (woP s v)
          · rfl
          · exact absurd ⟨v, hv, h1, h2⟩ hno
      obtain ⟨w1, w2, w3, w4⟩ := wo_part hs6 (show v < 6 by omega)
      have hlt := w3 hsv
      obtain ⟨t, h1, h2, h3⟩ := min_below hm n (woP s v) (by omega) (by omega) hcv
      refine ⟨t, ?_, h2, h3⟩
      rw [← h1, Nat.and_assoc, w1]

/-- The least covers, in order. -/
def lcL (m : Nat) (zs : List Int) : List Int := ((List.range (2 ^ m)).filter (minB m zs)).map fun s => ((s : Nat) : Int)

theorem lcL_mem {m : Nat} {zs : List Int} {x : Int} : x ∈ lcL m zs ↔ ∃ s : Nat, x = (s : Int) ∧ s < 2 ^ m ∧ minB m zs s = true := by
  simp only [lcL, List.mem_map, List.mem_filter, List.mem_range]
  constructor
  · rintro ⟨s, ⟨h1, h2⟩, rfl⟩; exact ⟨s, rfl, h1, h2⟩
  · rintro ⟨s, rfl, h1, h2⟩; exact ⟨s, ⟨h1, h2⟩, rfl⟩

theorem range_asc (n : Nat) (p : Nat → Bool) : Asc (((List.range n).filter p).map fun s => ((s : Nat) : Int)) := by
  unfold Asc
  rw [List.pairwise_map]
  refine (List.Pairwise.filter _ List.pairwise_lt_range).imp ?_
  intro a b h; omega

theorem lcL_asc (m : Nat) (zs : List Int) : Asc (lcL m zs) := range_asc _ _
theorem lcL_len {m : Nat} (hm : m ≤ 6) (zs : List Int) : (lcL m zs).length ≤ 64 := by
  unfold lcL
  rw [List.length_map]
  refine Nat.le_trans (List.length_filter_le _ _) ?_
  rw [List.length_range]
  exact Nat.pow_le_pow_right (n := 2) (by decide) hm

theorem lcL_in {m : Nat} (hm : m ≤ 6) {zs : List Int} : ∀ x ∈ lcL m zs, 0 ≤ x ∧ x < 64 := fun x hx => by
  obtain ⟨s, rfl, h, -⟩ := lcL_mem.1 hx
  have := p64 hm h
  omega

theorem minB_congr {m : Nat} {zs ys : List Int} (h : ∀ s, covB zs s = covB ys s) (s : Nat) : minB m zs s = minB m ys s := by
  rw [minB, minB, h]
  simp only [h]

theorem lcL_congr {m : Nat} {zs ys : List Int} (h : ∀ s, covB zs s = covB ys s) : lcL m zs = lcL m ys := by
  rw [lcL, lcL, funext (minB_congr h)]

theorem lcL_nil : ∀ m, m ≤ 6 → lcL m [] = [0] := by
  intro m hm
  refine asc_ext _ _ (lcL_asc _ _) (by simp [Asc]) fun z => ?_
  have h0 : 0 < 2 ^ m := Nat.two_pow_pos m
  rw [lcL_mem]
  constructor
  · rintro ⟨s, rfl, hs, h⟩
    have := ((minB_iff hm hs).1 h).2 0 rfl (by simp)
    subst this; simp
  · intro h
    have : z = 0 := by simpa using h
    subst this
    exact ⟨0, rfl, h0, (minB_iff hm h0).2 ⟨rfl, fun t _ h => by simpa using h.symm⟩⟩

theorem lcL_empty {m : Nat} {zs : List Int} (h : (0 : Int) ∈ zs) : lcL m zs = [] := by
  rw [lcL, List.map_eq_nil_iff, List.filter_eq_nil_iff]
  intro s _ hs
  rw [minB, Bool.and_eq_true] at hs
  exact covB_iff.1 hs.1 0 h (by simp)

/-- A list between the least covers and the covers has just the least covers as its least sets. -/
theorem between {m : Nat} (hm : m ≤ 6) {zs L : List Int} (h1 : ∀ x ∈ L, ∃ s : Nat, x = (s : Int) ∧ s < 2 ^ m ∧ covB zs s = true) (h2 : ∀ s, s < 2 ^ m → minB m zs s = true → ((s : Nat) : Int) ∈ L) : unbeaten leG L = lcL m zs := by
  refine asc_ext _ _ (unbeaten_asc _ _) (lcL_asc _ _) fun x => ?_
  rw [unbeaten_mem, lcL_mem]
  constructor
  · rintro ⟨hx, hb⟩
    obtain ⟨s, rfl, hs, hc⟩ := h1 x hx
    refine ⟨s, rfl, hs, ?_⟩
    obtain ⟨t, ht1, ht2, ht3⟩ := min_below hm s s (Nat.le_refl _) hs hc
    have hb2 := List.any_eq_false.1 hb _ (h2 t ht2 ht3)
    by_cases e : t = s
    · rwa [← e]
    · exfalso
      refine hb2 ?_
      rw [beatBy, leG_nat t s (p64 hm ht2) (p64 hm hs), decide_eq_true ht1, Bool.and_true, bne_iff_ne]
      omega
  · rintro ⟨s, rfl, hs, h⟩
    refine ⟨h2 s hs h, List.any_eq_false.2 fun o ho hbo => ?_⟩
    obtain ⟨t, rfl, ht, hc⟩ := h1 o ho
    rw [beatBy, leG_nat t s (p64 hm ht) (p64 hm hs), Bool.and_eq_true, decide_eq_true_eq, bne_iff_ne] at hbo
    exact hbo.1 (by rw [((minB_iff hm hs).1 h).2 t hc hbo.2])

/-- All covers, in order. -/
def covL (m : Nat) (zs : List Int) : List Int := ((List.range (2 ^ m)).filter (covB zs)).map fun s => ((s : Nat) : Int)

theorem covL_least {m : Nat} (hm : m ≤ 6) (zs : List Int) : unbeaten leG (covL m zs) = lcL m zs := by
  refine between hm (fun x hx => ?_) (fun s hs h => ?_)
  · simp only [covL, List.mem_map, List.mem_filter, List.mem_range] at hx
    obtain ⟨s, ⟨h1, h2⟩, rfl⟩ := hx
    exact ⟨s, rfl, h1, h2⟩
  · simp only [covL, List.mem_map, List.mem_filter, List.mem_range]
    rw [minB, Bool.and_eq_true] at h
    exact ⟨s, ⟨hs, h.1⟩, rfl⟩

set_option maxRecDepth 100000 in
theorem or_lt_fin : ∀ m : Fin 7, ∀ s : Fin 64, ∀ v : Fin 6, s.val < 2 ^ m.val → v.val < m.val → s.val ||| 2 ^ v.val < 2 ^ m.val := by decide +kernel

theorem or_lt {m s v : Nat} (hm : m ≤ 6) (hs : s < 2 ^ m) (hv : v < m) : s ||| 2 ^ v < 2 ^ m := or_lt_fin ⟨m, by omega⟩ ⟨s, p64 hm hs⟩ ⟨v, by omega⟩ hs hv
theorem or_bit (s v i : Nat) : (s ||| 2 ^ v).testBit i = (s.testBit i || decide (v = i)) := by rw [Nat.testBit_or, Nat.testBit_two_pow]
theorem sub_or (s v : Nat) : s &&& (s ||| 2 ^ v) = s := by
  apply Nat.eq_of_testBit_eq; intro i
  rw [Nat.testBit_and, or_bit]; cases s.testBit i <;> simp

theorem or_sub {t s v : Nat} (h : t &&& s = t) (hv : s.testBit v = true) : (t ||| 2 ^ v) &&& s = t ||| 2 ^ v := by
  apply Nat.eq_of_testBit_eq; intro i
  rw [Nat.testBit_and, or_bit]
  have h1 : t.testBit i = (t.testBit i && s.testBit i) := by rw [← Nat.testBit_and, h]
  by_cases e : v = i
  · subst e; simp [hv]
  · simp only [e, decide_false, Bool.or_false]; exact h1.symm

theorem meet_bit {a b : Nat} : a &&& b ≠ 0 ↔ ∃ v, a.testBit v = true ∧ b.testBit v = true := by
  constructor
  · intro h
    obtain ⟨v, hv⟩ := Nat.exists_testBit_of_ne_zero h
    rw [Nat.testBit_and, Bool.and_eq_true] at hv
    exact ⟨v, hv⟩
  · rintro ⟨v, h1, h2⟩ e
    have : (a &&& b).testBit v = true := by rw [Nat.testBit_and, h1, h2]; rfl
    rw [e] at this; simp at this

theorem mem_bit2 {s v : Nat} (hs : s < 64) : v ∈ mem s ↔ s.testBit v = true := by
  simp only [mem, List.mem_filter, List.mem_range]
  refine ⟨fun h => h.2, fun h => ⟨?_, h⟩⟩
  refine Classical.byContradiction fun hv => ?_
  have : s.testBit v = false := Nat.testBit_lt_two_pow (Nat.lt_of_lt_of_le hs (Nat.pow_le_pow_right (n := 2) (i := 6) (by decide) (by omega)))
  rw [this] at h; cases h

/-- Each member of a club put to each of some sets. -/
def growL (out : List Int) (z : Int) : List Int := out.flatMap fun s => (mem z.toNat).map fun v => ((s.toNat ||| 2 ^ v : Nat) : Int)

theorem grow_least {m : Nat} (hm : m ≤ 6) (zs : List Int) (z : Int) (hz : z.toNat < 2 ^ m) : unbeaten leG (growL (lcL m zs) z) = lcL m (zs ++ [z]) := by
  have hz6 := p64 hm hz
  have hbm : ∀ v, z.toNat.testBit v = true → v < m := fun v hv => Classical.byContradiction fun h => by
    have : z.toNat.testBit v = false := Nat.testBit_lt_two_pow (Nat.lt_of_lt_of_le hz (Nat.pow_le_pow_right (by decide) (by omega)))
    rw [this] at hv; cases hv
  refine between hm (fun x hx => ?_) (fun s hs h => ?_)
  · obtain ⟨o, ho, hx⟩ := List.mem_flatMap.1 hx
    obtain ⟨v, hv, rfl⟩ := List.mem_map.1 hx
    obtain ⟨t, rfl, ht, hmin⟩ := lcL_mem.1 ho
    rw [mem_bit2 hz6] at hv
    simp only [Int.toNat_natCast]
    refine ⟨_, rfl, or_lt hm ht (hbm v hv), ?_⟩
    rw [covB_snoc, covB_mono ((minB_iff hm ht).1 hmin).1 (sub_or t v), Bool.true_and, bne_iff_ne]
    exact meet_bit.2 ⟨v, hv, by rw [or_bit]; simp⟩
  · obtain ⟨hc, hmin⟩ := (minB_iff hm hs).1 h
    have hc1 := hc
    rw [covB_snoc, Bool.and_eq_true, bne_iff_ne] at hc1
    obtain ⟨t, ht1, ht2, ht3⟩ := min_below hm s s (Nat.le_refl _) hs hc1.1
    have hct := ((minB_iff hm ht2).1 ht3).1
    have key : ∃ v, z.toNat.testBit v = true ∧ t ||| 2 ^ v = s := by
      by_cases hzt : z.toNat &&& t ≠ 0
      · have e := hmin t (by rw [covB_snoc, hct, Bool.true_and, bne_iff_ne]; exact hzt) ht1
        obtain ⟨v, h1, h2⟩ := meet_bit.1 hzt
        refine ⟨v, h1, ?_⟩
        have := or_sub (t := t) (s := t) (by simp) h2
        have h3 := sub_or t v
        rw [e] at this h3 ⊢
        rw [← this, Nat.and_comm, h3]
      · obtain ⟨v, h1, h2⟩ := meet_bit.1 hc1.2
        refine ⟨v, h1, hmin _ ?_ (or_sub ht1 h2)⟩
        rw [covB_snoc, covB_mono hct (sub_or t v), Bool.true_and, bne_iff_ne]
        exact meet_bit.2 ⟨v, h1, by rw [or_bit]; simp⟩
    obtain ⟨v, hv, rfl⟩ := key
    refine List.mem_flatMap.2 ⟨(t : Int), lcL_mem.2 ⟨t, rfl, ht2, ht3⟩, List.mem_map.2 ⟨v, (mem_bit2 hz6).2 hv, by simp⟩⟩

/-- Clubs without a member, and those that have it not. -/
def cutL (v : Nat) (zs : List Int) : List Int := zs.map fun z => ((woP z.toNat v : Nat) : Int)

def offL (v : Nat) (zs : List Int) : List Int := zs.filter fun z => !(z.toNat.testBit v)
def withL (v : Nat) (zs : List Int) : List Int := zs.map fun z => ((z.toNat ||| 2 ^ v : Nat) : Int)
theorem split_least {m : Nat} (hm : m ≤ 6) (zs : List Int) (hz : ∀ z ∈ zs, z.toNat < 64) (v : Nat) (hv : v < m) : unbeaten leG (lcL m (cutL v zs) ++ withL v (lcL m (offL v zs))) = lcL m zs := by
  have cutc : ∀ t, covB (cutL v zs) t = true → covB zs t = true := fun t h => by
    rw [covB_iff] at h ⊢
    intro z hzm e
    refine h _ (List.mem_map.2 ⟨z, hzm, rfl⟩) ?_
    have h1 := (wo_part (hz z hzm) (show v < 6 by omega)).1
    rw [Int.toNat_natCast, ← h1, Nat.and_assoc, e, Nat.and_zero]
  have offc : ∀ t, covB (offL v zs) t = true → covB zs (t ||| 2 ^ v) = true := fun t h => by
    rw [covB_iff] at h ⊢
    intro z hzm
    cases hb : z.toNat.testBit v
    · obtain ⟨i, h1, h2⟩ := meet_bit.1 (h z (List.mem_filter.2 ⟨hzm, by rw [hb]; rfl⟩))
      exact meet_bit.2 ⟨i, h1, by rw [or_bit, h2]; rfl⟩
    · exact meet_bit.2 ⟨v, hb, by rw [or_bit]; simp⟩
  refine between hm (fun x hx => ?_) (fun s hs h => ?_)
  · rcases List.mem_append.1 hx with hx | hx
    · obtain ⟨t, rfl, ht, hmin⟩ := lcL_mem.1 hx
      exact ⟨t, rfl, ht, cutc t ((minB_iff hm ht).1 hmin).1⟩
    · obtain ⟨o, ho, rfl⟩ := List.mem_map.1 hx
      obtain ⟨t, rfl, ht, hmin⟩ := lcL_mem.1 ho
      rw [Int.toNat_natCast]
      exact ⟨_, rfl, or_lt hm ht hv, offc t ((minB_iff hm ht).1 hmin).1⟩
  · obtain ⟨hc, hmin⟩ := (minB_iff hm hs).1 h
    have hs6 := p64 hm hs
    cases hsv : s.testBit v
    · refine List.mem_append.2 (.inl (lcL_mem.2 ⟨s, rfl, hs, (minB_iff hm hs).2 ⟨?_, fun t ht h1 => hmin t (cutc t ht) h1⟩⟩))
      rw [covB_iff] at hc ⊢
      intro z hzm
      obtain ⟨y, hy, rfl⟩ := List.mem_map.1 hzm
      obtain ⟨i, h1, h2⟩ := meet_bit.1 (hc y hy)
      rw [Int.toNat_natCast]
      refine meet_bit.2 ⟨i, ?_, h2⟩
      have h3 := wo_sub (t := 2 ^ i) (s := y.toNat) (v := v)
      have hi6 : i < 6 := Classical.byContradiction fun hi => by
        have : s.testBit i = false := Nat.testBit_lt_two_pow (Nat.lt_of_lt_of_le hs6 (Nat.pow_le_pow_right (n := 2) (i := 6) (by decide) (by omega)))
        rw [this] at h2; cases h2
      have hp : 2 ^ i < 64 := Nat.pow_lt_pow_right (a := 2) (m := i) (n := 6) (by decide) hi6
      have hvi : i ≠ v := by rintro rfl; rw [hsv] at h2; cases h2
      have h4 := h3 hp (hz y hy) (by omega) (by
        apply Nat.eq_of_testBit_eq; intro k
        rw [Nat.testBit_and, Nat.testBit_two_pow]
        by_cases e : i = k
        · subst e; simp [h1]
        · simp [e]) (by rw [Nat.testBit_two_pow]; simp [hvi])
      have h5 : (2 ^ i &&& woP y.toNat v).testBit i = (2 ^ i).testBit i := by rw [h4]
      rw [Nat.testBit_and, Nat.testBit_two_pow] at h5
      simpa using h5
    · obtain ⟨w1, w2, w3, -⟩ := wo_part hs6 (show v < 6 by omega)
      have hco : covB (offL v zs) (woP s v) = true := by
        rw [covB_iff] at hc ⊢
        intro z hzm
        obtain ⟨hz1, hz2⟩ := List.mem_filter.1 hzm
        obtain ⟨i, h1, h2⟩ := meet_bit.1 (hc z hz1)
        have hvi : v ≠ i := by rintro rfl; rw [h1] at hz2; cases hz2
        have h4 := wo_sub (t := z.toNat &&& s) (s := s) (v := v) (Nat.lt_of_le_of_lt Nat.and_le_right hs6) hs6 (by omega) (by rw [Nat.and_assoc, Nat.and_self]) (by
          rw [Nat.testBit_and]
          have : z.toNat.testBit v = false := by simpa using hz2
          rw [this]; rfl)
        have h5 : (z.toNat &&& s &&& woP s v).testBit i = (z.toNat &&& s).testBit i := by rw [h4]
        rw [Nat.testBit_and, Nat.testBit_and, h1, h2] at h5
        exact meet_bit.2 ⟨i, h1, by simpa using h5⟩
      have hws : woP s v < 2 ^ m := Nat.lt_of_lt_of_le (w3 hsv) (Nat.le_of_lt hs)
      obtain ⟨t, ht1, ht2, ht3⟩ := min_below hm _ (woP s v) (Nat.le_refl _) hws hco
      have hts : t &&& s = t := by rw [← ht1, Nat.and_assoc, w1]
      have e := hmin _ (offc t ((minB_iff hm ht2).1 ht3).1) (or_sub hts hsv)
      refine List.mem_append.2 (.inr (List.mem_map.2 ⟨(t : Int), lcL_mem.2 ⟨t, rfl, ht2, ht3⟩, ?_⟩))
      rw [Int.toNat_natCast, e]

theorem lcL_up {n m : Nat} (hm : m ≤ 6) (hn : n ≤ m) (zs : List Int) (hz : ∀ z ∈ zs, z.toNat < 2 ^ n) : lcL m zs = lcL n zs := by
  have hp : 2 ^ n ≤ 2 ^ m := Nat.pow_le_pow_right (by decide) hn
  refine asc_ext _ _ (lcL_asc _ _) (lcL_asc _ _) fun x => ?_
  rw [lcL_mem, lcL_mem]
  constructor
  · rintro ⟨s, rfl, hs, h⟩
    obtain ⟨hc, hmin⟩ := (minB_iff hm hs).1 h
    have hc2 : covB zs (s &&& (2 ^ n - 1)) = true := by
      rw [covB_iff] at hc ⊢
      intro z hzm
      obtain ⟨i, h1, h2⟩ := meet_bit.1 (hc z hzm)
      have hi : i < n := Classical.byContradiction fun hi => by
        have : z.toNat.testBit i = false := Nat.testBit_lt_two_pow (Nat.lt_of_lt_of_le (hz z hzm) (Nat.pow_le_pow_right (by decide) (by omega)))
        rw [this] at h1; cases h1
      exact meet_bit.2 ⟨i, h1, by rw [Nat.testBit_and, h2, Nat.testBit_two_pow_sub_one]; simpa using hi⟩
    have e := hmin _ hc2 (by rw [Nat.and_assoc, Nat.and_comm (2 ^ n - 1) s, ← Nat.and_assoc, Nat.and_self])
    have hsn : s < 2 ^ n := by
      have h0 := Nat.two_pow_pos n
      have : s &&& (2 ^ n - 1) ≤ 2 ^ n - 1 := Nat.and_le_right
      omega
    exact ⟨s, rfl, hsn, (minB_iff (by omega) hsn).2 ⟨hc, hmin⟩⟩
  · rintro ⟨s, rfl, hs, h⟩
    have hs2 : s < 2 ^ m := by omega
    exact ⟨s, rfl, hs2, (minB_iff hm hs2).2 ((minB_iff (by omega) hs).1 h)⟩

theorem covB_least {zs : List Int} (hz : ∀ z ∈ zs, 0 ≤ z ∧ z < 64) (s : Nat) : covB (unbeaten leG zs) s = covB zs s := by
  rw [Bool.eq_iff_iff, covB_iff, covB_iff]
  constructor
  · intro h z hzm e
    obtain ⟨o, ho, hle⟩ := least_below zs hz _ z rfl hzm
    have h1 := hz z hzm
    have h2 := hz o ((unbeaten_mem _ _ _).1 ho).1
    have h3 : leG ((o.toNat : Nat) : Int) ((z.toNat : Nat) : Int) = true := by rw [Int.toNat_of_nonneg h2.1, Int.toNat_of_nonneg h1.1]; exact hle
    rw [leG_nat _ _ (by omega) (by omega), decide_eq_true_eq] at h3
    refine h o ho ?_
    rw [← h3, Nat.and_assoc, e, Nat.and_zero]
  · intro h z hzm
    exact h z ((unbeaten_mem _ _ _).1 hzm).1

end Go.Proofs.YtgjcjllhkkkioaaDoor
