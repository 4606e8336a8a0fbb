/- It is proved what least covers are, and that a list between the least covers and the covers has just them as its least sets; conditions: those of each statement. -/
import Derived.Test.YtnpfdgbbcapnkaaDoorRows
import Derived.WalkKit
import Derived.WalkSpells
import Derived.ProofKit
import Derived.OpenShut
import Derived.ShutString
import Derived.ChangeOld
import Derived.Below
import Derived.Deep.RegionHeld3
import Derived.Deep.QuietTactic
import Derived.BigQuiet
import Derived.Lib.Hide
import Derived.Lib.SmallJoins
import Derived.Outline
import Derived.Laws.MakeOwn
import Derived.Laws.OwnMore
import Derived.IntWalk
import Derived.Lib.AppendZeros
import Derived.Maps.AppendAt
import Derived.Deep.AppendLies
import Derived.OwnWalk
import Derived.Lib.SlicesCompact
import Derived.Lib.OwnBridge
import Derived.Shelf.Sort.Plain
import Derived.Shelf.Slices.In.SortNone
import Derived.Shelf.Slices.CompactI
import Derived.Ground.Names2Prog
import Derived.Lib.SliceRun
import Derived.RangeFuncNested
import Derived.RangeFuncBound
import Derived.RangeFuncCalls
import Derived.RangeFuncLeaves
import Derived.RangeFuncBox
import Derived.Shelf.Abstract
import Derived.Shelf.RegionOpen
import Derived.OwnWalkIn
import Derived.TacticsInMore
import Derived.LoopNIn
import Derived.LoopIn
import Derived.StillTail
import Derived.StillTactics
import Derived.OrdersIn
import Derived.TacticsIn
import Derived.Shelf.Spec.TrailingZeros
import Derived.StillTailTactics
import Derived.Test.YtnpfdgbbcapnkaaDoorRbab
import Derived.Test.YtnpfdgbbcapnkaaDoorRbae
import Derived.Test.YtnpfdgbbcapnkaaDoorRbac
import Derived.RowKit
import Derived.Laws.CopyRow
import Derived.Lib.SlBuf
import Derived.RangeFuncWrites
import Derived.Maps.OwnIn
import Derived.Maps.Ext
import Derived.DeepKeys4
import Derived.MapKept
namespace Go.Proofs.YtnpfdgbbcapnkaaDoor
open Go.RowKit

/-- All clubs have a member of a set. -/
def covB (zs : List Int) (s : Nat) : Bool := zs.all fun z => z.toNat &&& s != 0

theorem covB_iff {zs : List Int} {s : Nat} : covB zs s = true ↔ ∀ z ∈ zs, z.toNat &&& s ≠ 0 := by simp [covB]
theorem covB_mono {zs : List Int} {s t : Nat} (h : covB zs s = true) (hs : s &&& t = s) : covB zs t = true := by
  rw [covB_iff] at h ⊢
  intro z hz e
  refine h z hz ?_
  rw [← hs, Nat.and_comm s t, ← Nat.and_assoc, e, Nat.zero_and]

theorem covB_congr {zs ys : List Int} (h : ∀ z, z ∈ zs ↔ z ∈ ys) (s : Nat) : covB zs s = covB ys s := by
  rw [Bool.eq_iff_iff, covB_iff, covB_iff]
  exact ⟨fun h1 z hz => h1 z ((h z).2 hz), fun h1 z hz => h1 z ((h z).1 hz)⟩

theorem covB_snoc (zs : List Int) (z : Int) (s : Nat) : covB (zs ++ [z]) s = (covB zs s && (z.toNat &&& s != 0)) := by simp [covB]
theorem covB_nil (s : Nat) : covB [] s = true := rfl
set_option maxRecDepth 100000 in
theorem wo_sub_fin : ∀ t s : Fin 64, ∀ v : Fin 6, t.val &&& s.val = t.val → t.val.testBit v.val = false → t.val &&& woP s.val v.val = t.val := by decide +kernel

set_option maxRecDepth 100000 in
theorem wo_part_fin : ∀ s : Fin 64, ∀ v : Fin 6, woP s.val v.val &&& s.val = woP s.val v.val ∧ (woP s.val v.val).testBit v.val = false ∧ (s.val.testBit v.val = true → woP s.val v.val < s.val) ∧ (s.val.testBit v.val = false → woP s.val v.val = s.val) := by decide +kernel

theorem wo_sub {t s v : Nat} (ht : t < 64) (hs : s < 64) (hv : v < 6) (h : t &&& s = t) (hb : t.testBit v = false) : t &&& woP s v = t := wo_sub_fin ⟨t, ht⟩ ⟨s, hs⟩ ⟨v, hv⟩ h hb
theorem wo_part {s v : Nat} (hs : s < 64) (hv : v < 6) : woP s v &&& s = woP s v ∧ (woP s v).testBit v = false ∧ (s.testBit v = true → woP s v < s) ∧ (s.testBit v = false → woP s v = s) := wo_part_fin ⟨s, hs⟩ ⟨v, hv⟩
theorem sub_lt {t s : Nat} (h : t &&& s = t) : t ≤ s := by rw [← h]; exact Nat.and_le_right
/-- A smaller part misses some member. -/
theorem sub_miss {t s m : Nat} (hs : s < 2 ^ m) (h : t &&& s = t) (hne : t ≠ s) : ∃ v, v < m ∧ s.testBit v = true ∧ t.testBit v = false := by
  refine Classical.byContradiction fun hno => hne ?_
  apply Nat.eq_of_testBit_eq
  intro v
  have h1 : t.testBit v = (t.testBit v && s.testBit v) := by rw [← Nat.testBit_and, h]
  cases hsv : s.testBit v
  · rw [h1, hsv, Bool.and_false]
  · cases htv : t.testBit v
    · exfalso
      refine hno ⟨v, ?_, hsv, htv⟩
      refine Classical.byContradiction fun hvm => ?_
      have : s.testBit v = false := Nat.testBit_lt_two_pow (Nat.lt_of_lt_of_le hs (Nat.pow_le_pow_right (by decide) (by omega)))
      rw [this] at hsv; cases hsv
    · rfl

theorem p64 {m s : Nat} (hm : m ≤ 6) (hs : s < 2 ^ m) : s < 64 := Nat.lt_of_lt_of_le hs (Nat.pow_le_pow_right (n := 2) (by decide) hm)
/-- A cover of which no smaller part is one. -/
def minB (m : Nat) (zs : List Int) (s : Nat) : Bool := covB zs s && (List.range m).all fun v => !(s.testBit v) || !covB zs (woP s v)

theorem minB_iff {m : Nat} (hm : m ≤ 6) {zs : List Int} {s : Nat} (hs : s < 2 ^ m) : minB m zs s = true ↔ covB zs s = true ∧ ∀ t, covB zs t = true → t &&& s = t → t = s := by
  have hs6 := p64 hm hs
  rw [minB, Bool.and_eq_true]
  constructor
  · rintro ⟨h1, h2⟩
    refine ⟨h1, fun t ht hts => Classical.byContradiction fun hne => ?_⟩
    obtain ⟨v, hv, hsv, htv⟩ := sub_miss hs hts hne
    have h3 := List.all_eq_true.1 h2 v (List.mem_range.2 hv)
    rw [hsv, covB_mono ht (wo_sub (Nat.lt_of_le_of_lt (sub_lt hts) hs6) hs6 (by omega) hts htv)] at h3
    cases h3
  · rintro ⟨h1, h2⟩
    refine ⟨h1, List.all_eq_true.2 fun v hv => ?_⟩
    rw [List.mem_range] at hv
    obtain ⟨w1, w2, w3, w4⟩ := wo_part hs6 (show v < 6 by omega)
    cases hsv : s.testBit v
    · rfl
    · cases hc : covB zs (woP s v)
      · rfl
      · have := h2 _ hc w1
        have := w3 hsv
        omega

theorem min_below {m : Nat} (hm : m ≤ 6) {zs : List Int} : ∀ (n s : Nat), s ≤ n → s < 2 ^ m → covB zs s = true → ∃ t, t &&& s = t ∧ t < 2 ^ m ∧ minB m zs t = true
  | 0, s, hn, hs, hc => ⟨s, by simp, hs, by
      have : s = 0 := by omega
      subst this
      rw [minB_iff hm hs]
      exact ⟨hc, fun t _ h => by simpa using h.symm⟩⟩
  | n + 1, s, hn, hs, hc => by
    by_cases h : minB m zs s = true
    · exact ⟨s, by simp, hs, h⟩
    · have hs6 := p64 hm hs
      rw [minB, hc, Bool.true_and, List.all_eq_true] at h
      obtain ⟨v, hv, hsv, hcv⟩ : ∃ v, v < m ∧ s.testBit v = true ∧ covB zs (woP s v) = true := Classical.byContradiction fun hno => h fun v hv => by
        rw [List.mem_range] at hv
        cases h1 : s.testBit v
        · rfl
        · cases h2 : covB zs (woP s v)
          · rfl
          · exact absurd ⟨v, hv, h1, h2⟩ hno
      obtain ⟨w1, w2, w3, w4⟩ := wo_part hs6 (show v < 6 by omega)
      have hlt := w3 hsv
      obtain ⟨t, h1, h2, h3⟩ := min_below hm n (woP s v) (by omega) (by omega) hcv
      refine ⟨t, ?_, h2, h3⟩
      rw [← h1, Nat.and_assoc, w1]

/-- The least covers, in order. -/
def lcL (m : Nat) (zs : List Int) : List Int := ((List.range (2 ^ m)).filter (minB m zs)).map fun s => ((s : Nat) : Int)

theorem lcL_mem {m : Nat} {zs : List Int} {x : Int} : x ∈ lcL m zs ↔ ∃ s : Nat, x = (s : Int) ∧ s < 2 ^ m ∧ minB m zs s = true := by
  simp only [lcL, List.mem_map, List.mem_filter, List.mem_range]
  constructor
  · rintro ⟨s, ⟨h1, h2⟩, rfl⟩; exact ⟨s, rfl, h1, h2⟩
  · rintro ⟨s, rfl, h1, h2⟩; exact ⟨s, ⟨h1, h2⟩, rfl⟩

theorem range_asc (n : Nat) (p : Nat → Bool) : Asc (((List.range n).filter p).map fun s => ((s : Nat) : Int)) := by
  unfold Asc
  rw [List.pairwise_map]
  refine (List.Pairwise.filter _ List.pairwise_lt_range).imp ?_
  intro a b h; omega

theorem lcL_asc (m : Nat) (zs : List Int) : Asc (lcL m zs) := range_asc _ _
theorem lcL_len {m : Nat} (hm : m ≤ 6) (zs : List Int) : (lcL m zs).length ≤ 64 := by
  unfold lcL
  rw [List.length_map]
  refine Nat.le_trans (List.length_filter_le _ _) ?_
  rw [List.length_range]
  exact Nat.pow_le_pow_right (n := 2) (by decide) hm

theorem lcL_in {m : Nat} (hm : m ≤ 6) {zs : List Int} : ∀ x ∈ lcL m zs, 0 ≤ x ∧ x < 64 := fun x hx => by
  obtain ⟨s, rfl, h, -⟩ := lcL_mem.1 hx
  have := p64 hm h
  omega

theorem minB_congr {m : Nat} {zs ys : List Int} (h : ∀ s, covB zs s = covB ys s) (s : Nat) : minB m zs s = minB m ys s := by
  rw [minB, minB, h]
  simp only [h]

theorem lcL_congr {m : Nat} {zs ys : List Int} (h : ∀ s, covB zs s = covB ys s) : lcL m zs = lcL m ys := by
  rw [lcL, lcL, funext (minB_congr h)]

theorem lcL_nil : ∀ m, m ≤ 6 → lcL m [] = [0] := by
  intro m hm
  refine asc_ext _ _ (lcL_asc _ _) (by simp [Asc]) fun z => ?_
  have h0 : 0 < 2 ^ m := Nat.two_pow_pos m
  rw [lcL_mem]
  constructor
  · rintro ⟨s, rfl, hs, h⟩
    have := ((minB_iff hm hs).1 h).2 0 rfl (by simp)
    subst this; simp
  · intro h
    have : z = 0 := by simpa using h
    subst this
    exact ⟨0, rfl, h0, (minB_iff hm h0).2 ⟨rfl, fun t _ h => by simpa using h.symm⟩⟩

theorem lcL_empty {m : Nat} {zs : List Int} (h : (0 : Int) ∈ zs) : lcL m zs = [] := by
  rw [lcL, List.map_eq_nil_iff, List.filter_eq_nil_iff]
  intro s _ hs
  rw [minB, Bool.and_eq_true] at hs
  exact covB_iff.1 hs.1 0 h (by simp)

/-- A list between the least covers and the covers has just the least covers as its least sets. -/
theorem between {m : Nat} (hm : m ≤ 6) {zs L : List Int} (h1 : ∀ x ∈ L, ∃ s : Nat, x = (s : Int) ∧ s < 2 ^ m ∧ covB zs s = true) (h2 : ∀ s, s < 2 ^ m → minB m zs s = true → ((s : Nat) : Int) ∈ L) : unbeaten leG L = lcL m zs := by
  refine asc_ext _ _ (unbeaten_asc _ _) (lcL_asc _ _) fun x => ?_
  rw [unbeaten_mem, lcL_mem]
  constructor
  · rintro ⟨hx, hb⟩
    obtain ⟨s, rfl, hs, hc⟩ := h1 x hx
    refine ⟨s, rfl, hs, ?_⟩
    obtain ⟨t, ht1, ht2, ht3⟩ := min_below hm s s (Nat.le_refl _) hs hc
    have hb2 := List.any_eq_false.1 hb _ (h2 t ht2 ht3)
    by_cases e : t = s
    · rwa [← e]
    · exfalso
      refine hb2 ?_
      rw [beatBy, leG_nat t s (p64 hm ht2) (p64 hm hs), decide_eq_true ht1, Bool.and_true, bne_iff_ne]
      omega
  · rintro ⟨s, rfl, hs, h⟩
    refine ⟨h2 s hs h, List.any_eq_false.2 fun o ho hbo => ?_⟩
    obtain ⟨t, rfl, ht, hc⟩ := h1 o ho
    rw [beatBy, leG_nat t s (p64 hm ht) (p64 hm hs), Bool.and_eq_true, decide_eq_true_eq, bne_iff_ne] at hbo
    exact hbo.1 (by rw [((minB_iff hm hs).1 h).2 t hc hbo.2])

/-- All covers, in order. -/
def covL (m : Nat) (zs : List Int) : List Int := ((List.range (2 ^ m)).filter (covB zs)).map fun s => ((s : Nat) : Int)

theorem covL_least {m : Nat} (hm : m ≤ 6) (zs : List Int) : unbeaten leG (covL m zs) = lcL m zs := by
  refine between hm (fun x hx => ?_) (fun s hs h => ?_)
  · simp only [covL, List.mem_map, List.mem_filter, List.mem_range] at hx
    obtain ⟨s, ⟨h1, h2⟩, rfl⟩ := hx
    exact ⟨s, rfl, h1, h2⟩
  · simp only [covL, List.mem_map, List.mem_filter, List.mem_range]
    rw [minB, Bool.and_eq_true] at h
    exact ⟨s, ⟨hs, h.1⟩, rfl⟩

set_option maxRecDepth 100000 in
theorem or_lt_fin : ∀ m : Fin 7, ∀ s : Fin 64, ∀ v : Fin 6, s.val < 2 ^ m.val → v.val < m.val → s.val ||| 2 ^ v.val < 2 ^ m.val := by decide +kernel

theorem or_lt {m s v : Nat} (hm : m ≤ 6) (hs : s < 2 ^ m) (hv : v < m) : s ||| 2 ^ v < 2 ^ m := or_lt_fin ⟨m, by omega⟩ ⟨s, p64 hm hs⟩ ⟨v, by omega⟩ hs hv
theorem or_bit (s v i : Nat) : (s ||| 2 ^ v).testBit i = (s.testBit i || decide (v = i)) := by rw [Nat.testBit_or, Nat.testBit_two_pow]
theorem sub_or (s v : Nat) : s &&& (s ||| 2 ^ v) = s := by
  apply Nat.eq_of_testBit_eq; intro i
  rw [Nat.testBit_and, or_bit]; cases s.testBit i <;> simp

theorem or_sub {t s v : Nat} (h : t &&& s = t) (hv : s.testBit v = true) : (t ||| 2 ^ v) &&& s = t ||| 2 ^ v := by
  apply Nat.eq_of_testBit_eq; intro i
  rw [Nat.testBit_and, or_bit]
  have h1 : t.testBit i = (t.testBit i && s.testBit i) := by rw [← Nat.testBit_and, h]
  by_cases e : v = i
  · subst e; simp [hv]
  · simp only [e, decide_false, Bool.or_false]; exact h1.symm

theorem meet_bit {a b : Nat} : a &&& b ≠ 0 ↔ ∃ v, a.testBit v = true ∧ b.testBit v = true := by
  constructor
  · intro h
    obtain ⟨v, hv⟩ := Nat.exists_testBit_of_ne_zero h
    rw [Nat.testBit_and, Bool.and_eq_true] at hv
    exact ⟨v, hv⟩
  · rintro ⟨v, h1, h2⟩ e
    have : (a &&& b).testBit v = true := by rw [Nat.testBit_and, h1, h2]; rfl
    rw [e] at this; simp at this

theorem mem_bit2 {s v : Nat} (hs : s < 64) : v ∈ mem s ↔ s.testBit v = true := by
  simp only [mem, List.mem_filter, List.mem_range]
  refine ⟨fun h => h.2, fun h => ⟨?_, h⟩⟩
  refine Classical.byContradiction fun hv => ?_
  have : s.testBit v = false := Nat.testBit_lt_two_pow (Nat.lt_of_lt_of_le hs (Nat.pow_le_pow_right (n := 2) (i := 6) (by decide) (by omega)))
  rw [this] at h; cases h

/-- Each member of a club put to each of some sets. -/
def growL (out : List Int) (z : Int) : List Int := out.flatMap fun s => (mem z.toNat).map fun v => ((s.toNat ||| 2 ^ v : Nat) : Int)

theorem grow_least {m : Nat} (hm : m ≤ 6) (zs : List Int) (z : Int) (hz : z.toNat < 2 ^ m) : unbeaten leG (growL (lcL m zs) z) = lcL m (zs ++ [z]) := by
  have hz6 := p64 hm hz
  have hbm : ∀ v, z.toNat.testBit v = true → v < m := fun v hv => Classical.byContradiction fun h => by
    have : z.toNat.testBit v = false := Nat.testBit_lt_two_pow (Nat.lt_of_lt_of_le hz (Nat.pow_le_pow_right (by decide) (by omega)))
    rw [this] at hv; cases hv
  refine between hm (fun x hx => ?_) (fun s hs h => ?_)
  · obtain ⟨o, ho, hx⟩ := List.mem_flatMap.1 hx
    obtain ⟨v, hv, rfl⟩ := List.mem_map.1 hx
    obtain ⟨t, rfl, ht, hmin⟩ := lcL_mem.1 ho
    rw [mem_bit2 hz6] at hv
    simp only [Int.toNat_natCast]
    refine ⟨_, rfl, or_lt hm ht (hbm v hv), ?_⟩
    rw [covB_snoc, covB_mono ((minB_iff hm ht).1 hmin).1 (sub_or t v), Bool.true_and, bne_iff_ne]
    exact meet_bit.2 ⟨v, hv, by rw [or_bit]; simp⟩
  · obtain ⟨hc, hmin⟩ := (minB_iff hm hs).1 h
    have hc1 := hc
    rw [covB_snoc, Bool.and_eq_true, bne_iff_ne] at hc1
    obtain ⟨t, ht1, ht2, ht3⟩ := min_below hm s s (Nat.le_refl _) hs hc1.1
    have hct := ((minB_iff hm ht2).1 ht3).1
    have key : ∃ v, z.toNat.testBit v = true ∧ t ||| 2 ^ v = s := by
      by_cases hzt : z.toNat &&& t ≠ 0
      · have e := hmin t (by rw [covB_snoc, hct, Bool.true_and, bne_iff_ne]; exact hzt) ht1
        obtain ⟨v, h1, h2⟩ := meet_bit.1 hzt
        refine ⟨v, h1, ?_⟩
        have := or_sub (t := t) (s := t) (by simp) h2
        have h3 := sub_or t v
        rw [e] at this h3 ⊢
        rw [← this, Nat.and_comm, h3]
      · obtain ⟨v, h1, h2⟩ := meet_bit.1 hc1.2
        refine ⟨v, h1, hmin _ ?_ (or_sub ht1 h2)⟩
        rw [covB_snoc, covB_mono hct (sub_or t v), Bool.true_and, bne_iff_ne]
        exact meet_bit.2 ⟨v, h1, by rw [or_bit]; simp⟩
    obtain ⟨v, hv, rfl⟩ := key
    refine List.mem_flatMap.2 ⟨(t : Int), lcL_mem.2 ⟨t, rfl, ht2, ht3⟩, List.mem_map.2 ⟨v, (mem_bit2 hz6).2 hv, by simp⟩⟩

/-- Clubs without a member, and those that have it not. -/
def cutL (v : Nat) (zs : List Int) : List Int := zs.map fun z => ((woP z.toNat v : Nat) : Int)

def offL (v : Nat) (zs : List Int) : List Int := zs.filter fun z => !(z.toNat.testBit v)
def withL (v : Nat) (zs : List Int) : List Int := zs.map fun z => ((z.toNat ||| 2 ^ v : Nat) : Int)
theorem split_least {m : Nat} (hm : m ≤ 6) (zs : List Int) (hz : ∀ z ∈ zs, z.toNat < 64) (v : Nat) (hv : v < m) : unbeaten leG (lcL m (cutL v zs) ++ withL v (lcL m (offL v zs))) = lcL m zs := by
  have cutc : ∀ t, covB (cutL v zs) t = true → covB zs t = true := fun t h => by
    rw [covB_iff] at h ⊢
    intro z hzm e
    refine h _ (List.mem_map.2 ⟨z, hzm, rfl⟩) ?_
    have h1 := (wo_part (hz z hzm) (show v < 6 by omega)).1
    rw [Int.toNat_natCast, ← h1, Nat.and_assoc, e, Nat.and_zero]
  have offc : ∀ t, covB (offL v zs) t = true → covB zs (t ||| 2 ^ v) = true := fun t h => by
    rw [covB_iff] at h ⊢
    intro z hzm
    cases hb : z.toNat.testBit v
    · obtain ⟨i, h1, h2⟩ := meet_bit.1 (h z (List.mem_filter.2 ⟨hzm, by rw [hb]; rfl⟩))
      exact meet_bit.2 ⟨i, h1, by rw [or_bit, h2]; rfl⟩
    · exact meet_bit.2 ⟨v, hb, by rw [or_bit]; simp⟩
  refine between hm (fun x hx => ?_) (fun s hs h => ?_)
  · rcases List.mem_append.1 hx with hx | hx
    · obtain ⟨t, rfl, ht, hmin⟩ := lcL_mem.1 hx
      exact ⟨t, rfl, ht, cutc t ((minB_iff hm ht).1 hmin).1⟩
    · obtain ⟨o, ho, rfl⟩ := List.mem_map.1 hx
      obtain ⟨t, rfl, ht, hmin⟩ := lcL_mem.1 ho
      rw [Int.toNat_natCast]
      exact ⟨_, rfl, or_lt hm ht hv, offc t ((minB_iff hm ht).1 hmin).1⟩
  · obtain ⟨hc, hmin⟩ := (minB_iff hm hs).1 h
    have hs6 := p64 hm hs
    cases hsv : s.testBit v
    · refine List.mem_append.2 (.inl (lcL_mem.2 ⟨s, rfl, hs, (minB_iff hm hs).2 ⟨?_, fun t ht h1 => hmin t (cutc t ht) h1⟩⟩))
      rw [covB_iff] at hc ⊢
      intro z hzm
      obtain ⟨y, hy, rfl⟩ := List.mem_map.1 hzm
      obtain ⟨i, h1, h2⟩ := meet_bit.1 (hc y hy)
      rw [Int.toNat_natCast]
      refine meet_bit.2 ⟨i, ?_, h2⟩
      have h3 := wo_sub (t := 2 ^ i) (s := y.toNat) (v := v)
      have hi6 : i < 6 := Classical.byContradiction fun hi => by
        have : s.testBit i = false := Nat.testBit_lt_two_pow (Nat.lt_of_lt_of_le hs6 (Nat.pow_le_pow_right (n := 2) (i := 6) (by decide) (by omega)))
        rw [this] at h2; cases h2
      have hp : 2 ^ i < 64 := Nat.pow_lt_pow_right (a := 2) (m := i) (n := 6) (by decide) hi6
      have hvi : i ≠ v := by rintro rfl; rw [hsv] at h2; cases h2
      have h4 := h3 hp (hz y hy) (by omega) (by
        apply Nat.eq_of_testBit_eq; intro k
        rw [Nat.testBit_and, Nat.testBit_two_pow]
        by_cases e : i = k
        · subst e; simp [h1]
        · simp [e]) (by rw [Nat.testBit_two_pow]; simp [hvi])
      have h5 : (2 ^ i &&& woP y.toNat v).testBit i = (2 ^ i).testBit i := by rw [h4]
      rw [Nat.testBit_and, Nat.testBit_two_pow] at h5
      simpa using h5
    · obtain ⟨w1, w2, w3, -⟩ := wo_part hs6 (show v < 6 by omega)
      have hco : covB (offL v zs) (woP s v) = true := by
        rw [covB_iff] at hc ⊢
        intro z hzm
        obtain ⟨hz1, hz2⟩ := List.mem_filter.1 hzm
        obtain ⟨i, h1, h2⟩ := meet_bit.1 (hc z hz1)
        have hvi : v ≠ i := by rintro rfl; rw [h1] at hz2; cases hz2
        have h4 := wo_sub (t := z.toNat &&& s) (s := s) (v := v) (Nat.lt_of_le_of_lt Nat.and_le_right hs6) hs6 (by omega) (by rw [Nat.and_assoc, Nat.and_self]) (by
          rw [Nat.testBit_and]
          have : z.toNat.testBit v = false := by simpa using hz2
          rw [this]; rfl)
        have h5 : (z.toNat &&& s &&& woP s v).testBit i = (z.toNat &&& s).testBit i := by rw [h4]
        rw [Nat.testBit_and, Nat.testBit_and, h1, h2] at h5
        exact meet_bit.2 ⟨i, h1, by simpa using h5⟩
      have hws : woP s v < 2 ^ m := Nat.lt_of_lt_of_le (w3 hsv) (Nat.le_of_lt hs)
      obtain ⟨t, ht1, ht2, ht3⟩ := min_below hm _ (woP s v) (Nat.le_refl _) hws hco
      have hts : t &&& s = t := by rw [← ht1, Nat.and_assoc, w1]
      have e := hmin _ (offc t ((minB_iff hm ht2).1 ht3).1) (or_sub hts hsv)
      refine List.mem_append.2 (.inr (List.mem_map.2 ⟨(t : Int), lcL_mem.2 ⟨t, rfl, ht2, ht3⟩, ?_⟩))
      rw [Int.toNat_natCast, e]

theorem lcL_up {n m : Nat} (hm : m ≤ 6) (hn : n ≤ m) (zs : List Int) (hz : ∀ z ∈ zs, z.toNat < 2 ^ n) : lcL m zs = lcL n zs := by
  have hp : 2 ^ n ≤ 2 ^ m := Nat.pow_le_pow_right (by decide) hn
  refine asc_ext _ _ (lcL_asc _ _) (lcL_asc _ _) fun x => ?_
  rw [lcL_mem, lcL_mem]
  constructor
  · rintro ⟨s, rfl, hs, h⟩
    obtain ⟨hc, hmin⟩ := (minB_iff hm hs).1 h
    have hc2 : covB zs (s &&& (2 ^ n - 1)) = true := by
      rw [covB_iff] at hc ⊢
      intro z hzm
      obtain ⟨i, h1, h2⟩ := meet_bit.1 (hc z hzm)
      have hi : i < n := Classical.byContradiction fun hi => by
        have : z.toNat.testBit i = false := Nat.testBit_lt_two_pow (Nat.lt_of_lt_of_le (hz z hzm) (Nat.pow_le_pow_right (by decide) (by omega)))
        rw [this] at h1; cases h1
      exact meet_bit.2 ⟨i, h1, by rw [Nat.testBit_and, h2, Nat.testBit_two_pow_sub_one]; simpa using hi⟩
    have e := hmin _ hc2 (by rw [Nat.and_assoc, Nat.and_comm (2 ^ n - 1) s, ← Nat.and_assoc, Nat.and_self])
    have hsn : s < 2 ^ n := by
      have h0 := Nat.two_pow_pos n
      have : s &&& (2 ^ n - 1) ≤ 2 ^ n - 1 := Nat.and_le_right
      omega
    exact ⟨s, rfl, hsn, (minB_iff (by omega) hsn).2 ⟨hc, hmin⟩⟩
  · rintro ⟨s, rfl, hs, h⟩
    have hs2 : s < 2 ^ m := by omega
    exact ⟨s, rfl, hs2, (minB_iff hm hs2).2 ((minB_iff (by omega) hs).1 h)⟩

theorem covB_least {zs : List Int} (hz : ∀ z ∈ zs, 0 ≤ z ∧ z < 64) (s : Nat) : covB (unbeaten leG zs) s = covB zs s := by
  rw [Bool.eq_iff_iff, covB_iff, covB_iff]
  constructor
  · intro h z hzm e
    obtain ⟨o, ho, hle⟩ := least_below zs hz _ z rfl hzm
    have h1 := hz z hzm
    have h2 := hz o ((unbeaten_mem _ _ _).1 ho).1
    have h3 : leG ((o.toNat : Nat) : Int) ((z.toNat : Nat) : Int) = true := by rw [Int.toNat_of_nonneg h2.1, Int.toNat_of_nonneg h1.1]; exact hle
    rw [leG_nat _ _ (by omega) (by omega), decide_eq_true_eq] at h3
    refine h o ho ?_
    rw [← h3, Nat.and_assoc, e, Nat.and_zero]
  · intro h z hzm
    exact h z ((unbeaten_mem _ _ _).1 hzm).1

end Go.Proofs.YtnpfdgbbcapnkaaDoor

/- It is proved what ownNames and keeping return; conditions: those of each statement. -/
namespace Go.Proofs.YtnpfdgbbcapnkaaDoor
open Go.RowKit Go.Shelf Go.Maps

attribute [local go_sem] Oper.semAt_some

theorem slice_form {w' : World} {B k : Nat} {v : Value} {ys : List Value} (h : w'.ownsRow B 3 1 v k ys) : ∃ a c, v = .slice a k c := by
  rcases h.2 with ⟨rfl, rfl⟩ | ⟨g, cap, cur, rfl, _⟩
  · exact ⟨none, 0, rfl⟩
  · exact ⟨_, _, rfl⟩

end Go.Proofs.YtnpfdgbbcapnkaaDoor

/- It is proved what a loop over a function does where the function keeps its state in cells of its own and the body writes one block that lay ahead of the loop; conditions: those of each statement. -/
namespace Go
open Go.RowKit

/-- Whatever lies in a block that X does not name lies as it lay. -/
structure But (X : Nat → Prop) (W W' : World) : Prop where
  os : W'.os = W.os
  tape : W'.tape = W.tape
  output : W'.output = W.output
  size : W.heap.size ≤ W'.heap.size
  same : ∀ k, k < W.heap.size → ¬ X k → W'.heap[k]? = W.heap[k]?

theorem But.refl (X : Nat → Prop) (W : World) : But X W W := ⟨rfl, rfl, rfl, Nat.le_refl _, fun _ _ _ => rfl⟩
theorem But.trans {X : Nat → Prop} {A B C : World} (h : But X A B) (k : But X B C) : But X A C :=
  ⟨k.os.trans h.os, k.tape.trans h.tape, k.output.trans h.output, Nat.le_trans h.size k.size, fun i hi hX => (k.same i (Nat.lt_of_lt_of_le hi h.size) hX).trans (h.same i hi hX)⟩

theorem But.mono {X Y : Nat → Prop} {A B : World} (h : But X A B) (hXY : ∀ k, k < A.heap.size → X k → Y k) : But Y A B := ⟨h.os, h.tape, h.output, h.size, fun i hi hY => h.same i hi (fun e => hY (hXY _ hi e))⟩
theorem But.of_grownBy {X : Nat → Prop} {W W' : World} {row : Option Nat} (hg : W.grownBy W' row) (hr : ∀ r, row = some r → r < W.heap.size → X r) : But X W W' :=
  ⟨hg.os, hg.tape, hg.output, hg.size, fun k hk hX => hg.block k hk (fun e => hX (hr k e.symm hk))⟩

theorem But.putObj {X : Nat → Prop} (W : World) (l : Nat) (o : Obj) (hl : X l) : But X W (W.putObj l o) := But.of_grownBy (grownBy_putObj' W l o) (fun r e _ => by cases e; exact hl)
theorem But.alloc {X : Nat → Prop} (W : World) (o : Obj) : But X W (W.alloc o) := But.of_grownBy (World.grownBy_alloc W o none) (by simp)
theorem But.setCell {X : Nat → Prop} (W : World) (b i : Nat) (v : Value) (hb : b < W.heap.size → X b) : But X W (W.setCell ⟨b, i, none⟩ v) :=
  ⟨rfl, rfl, rfl, by simp, fun k hk hX => Below.heap_setCell W ⟨b, i, none⟩ v k (fun e => hX (by subst e; exact hb hk))⟩

theorem But.drew {X : Nat → Prop} (W : World) : But X W W.drew := ⟨rfl, rfl, rfl, Nat.le_refl _, fun _ _ _ => rfl⟩
theorem But.keep {X : Nat → Prop} {W W' : World} {k : Nat} {o : Obj} (h : But X W W') (hX : ¬ X k) (hk : W.heap[k]? = some o) : W'.heap[k]? = some o := (h.same k (Array.getElem?_eq_some_iff.1 hk).1 hX).trans hk
theorem But.below {X : Nat → Prop} {W W' : World} {B : Nat} (h : But X W W') (hB : B ≤ W.heap.size) (hX : ∀ k, X k → B ≤ k) : Below B W W' :=
  ⟨h.os, h.tape, h.output, h.size, fun k hk => h.same k (Nat.lt_of_lt_of_le hk hB) (fun e => by have := hX k e; omega)⟩

theorem But.from {X : Nat → Prop} {W W' : World} {B : Nat} (h : But X W W') (hX : ∀ k o, B ≤ k → W.heap[k]? = some o → X k → o.isCells = true) : KeepsFrom B W W' :=
  ⟨h.size, fun k o hB hk ho => h.keep (fun e => by rw [hX k o hB hk e] at ho; cases ho) hk⟩

theorem But.of_below {X : Nat → Prop} {W W' : World} (h : Below W.heap.size W W') : But X W W' := ⟨h.os, h.tape, h.output, h.size, fun k hk _ => h.block k hk⟩
/-- What abides whatever is done to blocks from B on. -/
def OwnAll {β : Type} (B : Nat) (J : β → World → Prop) : Prop := ∀ s A C row, J s A → A.grownBy C row → (∀ r, row = some r → B ≤ r) → J s C

/-- The contract of an iterator that may keep cells of its own: a round finds Ok of what it is handed, and leaves every block but the loop's record and block b as it was. -/
def SeqCells {α : Type} (n : Nat) (P : Program) (g : Nat) (lb : Array Value) (encs : α → Array Value) (b : Nat) (Ok : α → World → Prop) (S : List α → Prop) (N : Nat) (w : World) : Prop :=
  ∀ (l : Nat) (J : List α → World → Prop) (W : World), Below w.heap.size w W → w.heap.size ≤ l → l < W.heap.size → b < W.heap.size → OwnAll W.heap.size J →
    (∀ pre x W1, J pre W1 → Ok x W1 → pre.length < N → YieldAt Fence.wide (n - 1) P l (encs x) W1 fun e W' => e = .returned (.bool true) ∧ J (pre ++ [x]) W' ∧ But (fun k => k = l ∨ k = b) W1 W') →
    J [] W →
    CallsIn Fence.wide n P g (#[.func (.yield l) #[] #[]] ++ lb) W fun e W' => (∃ v, e = .returned v) ∧ ∃ xs, S xs ∧ J xs W'

/-- How a round ends. -/
def postCells {α : Type} (b : Nat) (I : List α → World → Prop) (xs : List α) (W : World) : Exit → Act → World → Prop
  | .normal, _, W' => But (fun k => k = b) W W' ∧ I xs W'
  | _, _, _ => False

theorem wpIn_rangeFunc_cells {P : Program} {n : Nat} {α : Type} {g : Operand} {ps : Array Tmp} {assign body : Code} {Q : Exit → Act → World → Prop} {a : Act} {w : World}
    (h1 : 1 ≤ n) {gf : Nat} {lb : Array Value} (hg : a.eval g = .func (.func gf) #[] lb) (eg : ∀ args w, (callFunc gf args).run P w = .ok (.enter gf args) w)
    {encs : α → Array Value} {b : Nat} {Ok : α → World → Prop} {S : List α → Prop} {N : Nat} {w0 : World} (hseq : SeqCells (n - 1) P gf lb encs b Ok S N w0) (hb0 : Below w0.heap.size w0 w) (hbw : b < w.heap.size) (hps : ∀ x, (encs x).size = ps.size)
    (hOk : ∀ x A l o, Ok x A → (∃ o', A.heap[l]? = some o' ∧ o'.isCells = false) → Ok x (A.putObj l o))
    (I : List α → World → Prop) (hI : OwnAll w.heap.size I) (h0 : I [] w) (a₁ : α → Act)
    (hassign : ∀ (l : Nat) (x : α) (W : World) (K : Act → World → Prop), K (a₁ x) W →
      assign.wpIn (Fence.wide.inRound l) (n - 1 - 1) P (Exit.then K (fun _ _ _ => False)) { tmps := (ps.zip (encs x)).foldl (fun t (p, v) => t.setIfInBounds p v) a.tmps, defers := [] } W)
    (hbody : ∀ (l : Nat) (pre : List α) (x : α) (W : World), I pre W → Ok x W → pre.length < N → body.wpIn (Fence.wide.inRound l) (n - 1 - 1) P (postCells b I (pre ++ [x]) W) (a₁ x) W)
    (hdone : ∀ (D : Nat) (xs : List α) (W : World), w.heap.size ≤ D → S xs → I xs W → W.heap[D]? = some (.deferred (some [])) → Q .normal { a with defers := { target := .collected D, args := #[] } :: a.defers } W) :
    (Code.rangeFunc g ps assign body).wpIn Fence.wide n P Q a w := by
  refine wpIn_rangeFunc ?_
  intro fn hfn
  rw [show Fence.wide.round = none from rfl]
  obtain ⟨rec, hrec⟩ : ∃ rec : LoopState → Option Code → Loop, rec = fun st pe => { state := st, pending := pe, fn, tmps := a.tmps, params := ps, assign, body, defers := w.heap.size } := ⟨_, rfl⟩
  obtain ⟨W1, hW1⟩ : ∃ W1, (w.alloc (.deferred (some []))).alloc (.loop (rec .ready none)) = W1 := ⟨_, rfl⟩
  have hs1 : W1.heap.size = w.heap.size + 2 := by rw [← hW1]; simp
  have hL1 : W1.heap[w.heap.size + 1]? = some (.loop (rec .ready none)) := by
    rw [← hW1]; have := World.alloc_heap_new (w.alloc (.deferred (some []))) (.loop (rec .ready none)); rwa [World.size_alloc] at this
  have hK1 : W1.heap[w.heap.size]? = some (.deferred (some [])) := by
    rw [← hW1]; exact (Below.heap_alloc _ _ _ (by simp)).trans (World.alloc_heap_new w _)
  have hI1 : I [] W1 := by
    rw [← hW1]
    exact hI _ _ _ none (hI _ _ _ none h0 (World.grownBy_alloc _ _ _) (by simp)) (World.grownBy_alloc _ _ _) (by simp)
  have hb1 : Below w0.heap.size w0 W1 := by
    rw [← hW1]; exact hb0.trans ((((Below.refl _ w).alloc (Nat.le_refl _) _).alloc (by simp) _).mono hb0.size)
  have hput : ∀ (xs : List α) (W : World) (o : Obj), I xs W → I xs (W.putObj (w.heap.size + 1) o) := fun xs W o h => hI _ _ _ _ h (grownBy_putObj' W _ o) (fun r e => by cases e; omega)
  refine ⟨w.heap.size + 1, [{ target := .collected w.heap.size, args := #[] }], W1, { target := .fn (.func gf) lb, args := #[.func (.yield (w.heap.size + 1)) #[] #[]] }, W1, gf,
    #[.func (.yield (w.heap.size + 1)) #[] #[]] ++ lb, W1, ?_, ?_, fun _ _ => trivial, ?_, fun _ => h1, ?_⟩
  · rw [← hW1, hrec]; exact run_enterLoop_outer _ _ _ _ _
  · simp only [resolve, hg]
    simp [go_sem]
  · simp [invoke, go_sem, eg]
  · refine (hseq (w.heap.size + 1) (fun pre W => I pre W ∧ W.heap[w.heap.size + 1]? = some (.loop (rec .ready none)) ∧ W.heap[w.heap.size]? = some (.deferred (some []))) W1 hb1 (by have := hb0.size; omega) (by omega) (by omega) ?_ ?_ ⟨hI1, hL1, hK1⟩).mono ?_
    · rintro s A C row ⟨hi, hl, hk⟩ hgr hr
      have hne : ∀ k, k < w.heap.size + 2 → some k ≠ row := fun k hk' e => by have := hr k e.symm; omega
      exact ⟨hI s A C row hi hgr (fun r e => by have := hr r e; omega), (hgr.block _ (Array.getElem?_eq_some_iff.1 hl).1 (hne _ (by omega))).trans hl, (hgr.block _ (Array.getElem?_eq_some_iff.1 hk).1 (hne _ (by omega))).trans hk⟩
    · rintro pre x W ⟨hi, hl, hk⟩ hok hlen
      have hlt : w.heap.size + 1 < W.heap.size := (Array.getElem?_eq_some_iff.1 hl).1
      have hy := run_yield (P := P) (args := encs x) hl (by rw [hrec]; exact hps x)
      rw [hrec] at hy
      refine ⟨fn, _, assign, body, hy, roundIn_of_wpIn hfn (hassign _ x W _ ⟨_, run_beginRound hl (by rw [hrec]), ?_⟩)⟩
      have hok2 : Ok x (W.putObj (w.heap.size + 1) (.loop { rec .ready none with state := .busy })) := hOk _ _ _ _ hok ⟨_, hl, rfl⟩
      have hl2 : (W.putObj (w.heap.size + 1) (.loop { rec .ready none with state := .busy })).heap[w.heap.size + 1]? = some (.loop { rec .ready none with state := .busy }) := World.putObj_heap_same hlt
      have hk2 : (W.putObj (w.heap.size + 1) (.loop { rec .ready none with state := .busy })).heap[w.heap.size]? = some (.deferred (some [])) := (World.putObj_heap_other (by omega)).trans hk
      refine wpIn_mono (hbody _ pre x _ (hput _ _ _ hi) hok2 hlen) ?_
      rintro e a3 W3 hp
      cases e with
      | normal =>
        obtain ⟨hk3, hi3⟩ := hp
        have hl3 := hk3.keep (by omega) hl2
        have hr := run_endRound (P := P) none hl3
        have hb4 : But (fun k => k = w.heap.size + 1 ∨ k = b) W (W3.putObj (w.heap.size + 1) (.loop (rec .ready none))) :=
          ((But.putObj W _ _ (.inl rfl)).trans (hk3.mono (fun k _ e => .inr e))).trans (But.putObj W3 _ _ (.inl rfl))
        rw [hrec] at hr hb4 ⊢
        refine ⟨_, _, hr, rfl, ⟨hput _ _ _ hi3, World.putObj_heap_same (Array.getElem?_eq_some_iff.1 hl3).1, (World.putObj_heap_other (by omega)).trans (hk3.keep (by omega) hk2)⟩, hb4⟩
      | _ => exact hp.elim
    · rintro e W2 ⟨⟨v, rfl⟩, xs, hS, hi, hl, hk⟩
      refine ⟨none, _, by have := run_endLoop (P := P) hl (by rw [hrec]; simp); rw [hrec] at this; exact this, ?_⟩
      exact hdone _ xs _ (Nat.le_refl _) hS (hput _ _ _ hi) ((World.putObj_heap_other (by omega)).trans hk)

end Go
