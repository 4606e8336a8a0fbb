/- It is proved what least covers are, and that a list between the least covers and the covers has just them as its least sets; conditions: those of each statement. -/
import Derived.Test.YtmojkeokkebbfaaDoorRows
import Derived.WalkKit
import Derived.WalkSpells
import Derived.ProofKit
import Derived.OpenShut
import Derived.ShutString
import Derived.ChangeOld
import Derived.Below
import Derived.Deep.RegionHeld3
import Derived.Deep.QuietTactic
import Derived.BigQuiet
import Derived.Lib.Hide
import Derived.Lib.SmallJoins
import Derived.Outline
import Derived.Laws.MakeOwn
import Derived.Laws.OwnMore
import Derived.IntWalk
import Derived.Lib.AppendZeros
import Derived.Maps.AppendAt
import Derived.Deep.AppendLies
import Derived.OwnWalk
import Derived.Lib.SlicesCompact
import Derived.Lib.OwnBridge
import Derived.Shelf.Sort.Plain
import Derived.Shelf.Slices.In.SortNone
import Derived.Shelf.Slices.CompactI
import Derived.Ground.Names2Prog
import Derived.Lib.SliceRun
import Derived.RangeFuncNested
import Derived.RangeFuncBound
import Derived.RangeFuncCalls
import Derived.RangeFuncLeaves
import Derived.RangeFuncBox
import Derived.Shelf.Abstract
import Derived.Shelf.RegionOpen
import Derived.OwnWalkIn
import Derived.TacticsInMore
import Derived.LoopNIn
import Derived.LoopIn
import Derived.StillTail
import Derived.StillTactics
import Derived.OrdersIn
import Derived.TacticsIn
import Derived.Shelf.Spec.TrailingZeros
import Derived.StillTailTactics
import Derived.Test.YtmojkeokkebbfaaDoorMzaf
import Derived.Test.YtmojkeokkebbfaaDoorMzam
import Derived.Test.YtmojkeokkebbfaaDoorMzah
import Derived.Test.YtmojkeokkebbfaaDoorMzai
import Derived.Test.YtmojkeokkebbfaaDoorMzan
import Derived.RowKit
import Derived.Laws.CopyRow
import Derived.Lib.SlBuf
import Derived.RangeFuncWrites
import Derived.Maps.OwnIn
import Derived.Maps.Ext
import Derived.DeepKeys4
import Derived.MapKept
namespace Go.Proofs.YtmojkeokkebbfaaDoor
open Go.RowKit

/-- All clubs have a member of a set. -/
def covB (zs : List Int) (s : Nat) : Bool := zs.all fun z => z.toNat &&& s != 0

theorem covB_iff {zs : List Int} {s : Nat} : covB zs s = true ↔ ∀ z ∈ zs, z.toNat &&& s ≠ 0 := by simp [covB]
theorem covB_mono {zs : List Int} {s t : Nat} (h : covB zs s = true) (hs : s &&& t = s) : covB zs t = true := by
  rw [covB_iff] at h ⊢
  intro z hz e
  refine h z hz ?_
  rw [← hs, Nat.and_comm s t, ← Nat.and_assoc, e, Nat.zero_and]

set_option maxRecDepth 100000 in
theorem wo_sub_fin : ∀ t s : Fin 64, ∀ v : Fin 6, t.val &&& s.val = t.val → t.val.testBit v.val = false → t.val &&& woP s.val v.val = t.val := by decide +kernel

set_option maxRecDepth 100000 in
theorem wo_part_fin : ∀ s : Fin 64, ∀ v : Fin 6, woP s.val v.val &&& s.val = woP s.val v.val ∧ (woP s.val v.val).testBit v.val = false ∧ (s.val.testBit v.val = true → woP s.val v.val < s.val) ∧ (s.val.testBit v.val = false → woP s.val v.val = s.val) := by decide +kernel

theorem wo_sub {t s v : Nat} (ht : t < 64) (hs : s < 64) (hv : v < 6) (h : t &&& s = t) (hb : t.testBit v = false) : t &&& woP s v = t := wo_sub_fin ⟨t, ht⟩ ⟨s, hs⟩ ⟨v, hv⟩ h hb
theorem wo_part {s v : Nat} (hs : s < 64) (hv : v < 6) : woP s v &&& s = woP s v ∧ (woP s v).testBit v = false ∧ (s.testBit v = true → woP s v < s) ∧ (s.testBit v = false → woP s v = s) := wo_part_fin ⟨s, hs⟩ ⟨v, hv⟩
theorem sub_lt {t s : Nat} (h : t &&& s = t) : t ≤ s := by rw [← h]; exact Nat.and_le_right
/-- A smaller part misses some member. -/
theorem sub_miss {t s m : Nat} (hs : s < 2 ^ m) (h : t &&& s = t) (hne : t ≠ s) : ∃ v, v < m ∧ s.testBit v = true ∧ t.testBit v = false := by
  refine Classical.byContradiction fun hno => hne ?_
  apply Nat.eq_of_testBit_eq
  intro v
  have h1 : t.testBit v = (t.testBit v && s.testBit v) := by rw [← Nat.testBit_and, h]
  cases hsv : s.testBit v
  · rw [h1, hsv, Bool.and_false]
  · cases htv : t.testBit v
    · exfalso
      refine hno ⟨v, ?_, hsv, htv⟩
      refine Classical.byContradiction fun hvm => ?_
      have : s.testBit v = false := Nat.testBit_lt_two_pow (Nat.lt_of_lt_of_le hs (Nat.pow_le_pow_right (by decide) (by omega)))
      rw [this] at hsv; cases hsv
    · rfl

theorem p64 {m s : Nat} (hm : m ≤ 6) (hs : s < 2 ^ m) : s < 64 := Nat.lt_of_lt_of_le hs (Nat.pow_le_pow_right (n := 2) (by decide) hm)
/-- A cover of which no smaller part is one. -/
def minB (m : Nat) (zs : List Int) (s : Nat) : Bool := covB zs s && (List.range m).all fun v => !(s.testBit v) || !covB zs (woP s v)

theorem minB_iff {m : Nat} (hm : m ≤ 6) {zs : List Int} {s : Nat} (hs : s < 2 ^ m) : minB m zs s = true ↔ covB zs s = true ∧ ∀ t, covB zs t = true → t &&& s = t → t = s := by
  have hs6 := p64 hm hs
  rw [minB, Bool.and_eq_true]
  constructor
  · rintro ⟨h1, h2⟩
    refine ⟨h1, fun t ht hts => Classical.byContradiction fun hne => ?_⟩
    obtain ⟨v, hv, hsv, htv⟩ := sub_miss hs hts hne
    have h3 := List.all_eq_true.1 h2 v (List.mem_range.2 hv)
    rw [hsv, covB_mono ht (wo_sub (Nat.lt_of_le_of_lt (sub_lt hts) hs6) hs6 (by omega) hts htv)] at h3
    cases h3
  · rintro ⟨h1, h2⟩
    refine ⟨h1, List.all_eq_true.2 fun v hv => ?_⟩
    rw [List.mem_range] at hv
    obtain ⟨w1, w2, w3, w4⟩ := wo_part hs6 (show v < 6 by omega)
    cases hsv : s.testBit v
    · rfl
    · cases hc : covB zs (woP s v)
      · rfl
      · have := h2 _ hc w1
        have := w3 hsv
        omega

theorem min_below {m : Nat} (hm : m ≤ 6) {zs : List Int} : ∀ (n s : Nat), s ≤ n → s < 2 ^ m → covB zs s = true → ∃ t, t &&& s = t ∧ t < 2 ^ m ∧ minB m zs t = true
  | 0, s, hn, hs, hc => ⟨s, by simp, hs, by
      have : s = 0 := by omega
      subst this
      rw [minB_iff hm hs]
      exact ⟨hc, fun t _ h => by simpa using h.symm⟩⟩
  | n + 1, s, hn, hs, hc => by
    by_cases h : minB m zs s = true
    · exact ⟨s, by simp, hs, h⟩
    · have hs6 := p64 hm hs
      rw [minB, hc, Bool.true_and, List.all_eq_true] at h
      obtain ⟨v, hv, hsv, hcv⟩ : ∃ v, v < m ∧ s.testBit v = true ∧ covB zs (woP s v) = true := Classical.byContradiction fun hno => h fun v hv => by
        rw [List.mem_range] at hv
        cases h1 : s.testBit v
        · rfl
        · cases h2 : covB zs (woP s v)
          · rfl
          · exact absurd ⟨v, hv, h1, h2⟩ hno
      obtain ⟨w1, w2, w3, w4⟩ := wo_part hs6 (show v < 6 by omega)
      have hlt := w3 hsv
      obtain ⟨t, h1, h2, h3⟩ := min_below hm n (woP s v) (by omega) (by omega) hcv
      refine ⟨t, ?_, h2, h3⟩
      rw [← h1, Nat.and_assoc, w1]

/-- The least covers, in order. -/
def lcL (m : Nat) (zs : List Int) : List Int := ((List.range (2 ^ m)).filter (minB m zs)).map fun s => ((s : Nat) : Int)

theorem lcL_mem {m : Nat} {zs : List Int} {x : Int} : x ∈ lcL m zs ↔ ∃ s : Nat, x = (s : Int) ∧ s < 2 ^ m ∧ minB m zs s = true := by
  simp only [lcL, List.mem_map, List.mem_filter, List.mem_range]
  constructor
  · rintro ⟨s, ⟨h1, h2⟩, rfl⟩; exact ⟨s, rfl, h1, h2⟩
  · rintro ⟨s, rfl, h1, h2⟩; exact ⟨s, ⟨h1, h2⟩, rfl⟩

theorem range_asc (n : Nat) (p : Nat → Bool) : Asc (((List.range n).filter p).map fun s => ((s : Nat) : Int)) := by
  unfold Asc
  rw [List.pairwise_map]
  refine (List.Pairwise.filter _ List.pairwise_lt_range).imp ?_
  intro a b h; omega

theorem lcL_asc (m : Nat) (zs : List Int) : Asc (lcL m zs) := range_asc _ _
theorem lcL_len {m : Nat} (hm : m ≤ 6) (zs : List Int) : (lcL m zs).length ≤ 64 := by
  unfold lcL
  rw [List.length_map]
  refine Nat.le_trans (List.length_filter_le _ _) ?_
  rw [List.length_range]
  exact Nat.pow_le_pow_right (n := 2) (by decide) hm

theorem lcL_in {m : Nat} (hm : m ≤ 6) {zs : List Int} : ∀ x ∈ lcL m zs, 0 ≤ x ∧ x < 64 := fun x hx => by
  obtain ⟨s, rfl, h, -⟩ := lcL_mem.1 hx
  have := p64 hm h
  omega

/-- A list between the least covers and the covers has just the least covers as its least sets. -/
theorem between {m : Nat} (hm : m ≤ 6) {zs L : List Int} (h1 : ∀ x ∈ L, ∃ s : Nat, x = (s : Int) ∧ s < 2 ^ m ∧ covB zs s = true) (h2 : ∀ s, s < 2 ^ m → minB m zs s = true → ((s : Nat) : Int) ∈ L) : unbeaten leG L = lcL m zs := by
  refine asc_ext _ _ (unbeaten_asc _ _) (lcL_asc _ _) fun x => ?_
  rw [unbeaten_mem, lcL_mem]
  constructor
  · rintro ⟨hx, hb⟩
    obtain ⟨s, rfl, hs, hc⟩ := h1 x hx
    refine ⟨s, rfl, hs, ?_⟩
    obtain ⟨t, ht1, ht2, ht3⟩ := min_below hm s s (Nat.le_refl _) hs hc
    have hb2 := List.any_eq_false.1 hb _ (h2 t ht2 ht3)
    by_cases e : t = s
    · rwa [← e]
    · exfalso
      refine hb2 ?_
      rw [beatBy, leG_nat t s (p64 hm ht2) (p64 hm hs), decide_eq_true ht1, Bool.and_true, bne_iff_ne]
      omega
  · rintro ⟨s, rfl, hs, h⟩
    refine ⟨h2 s hs h, List.any_eq_false.2 fun o ho hbo => ?_⟩
    obtain ⟨t, rfl, ht, hc⟩ := h1 o ho
    rw [beatBy, leG_nat t s (p64 hm ht) (p64 hm hs), Bool.and_eq_true, decide_eq_true_eq, bne_iff_ne] at hbo
    exact hbo.1 (by rw [((minB_iff hm hs).1 h).2 t hc hbo.2])

/-- All covers, in order. -/
def covL (m : Nat) (zs : List Int) : List Int := ((List.range (2 ^ m)).filter (covB zs)).map fun s => ((s : Nat) : Int)

theorem covL_least {m : Nat} (hm : m ≤ 6) (zs : List Int) : unbeaten leG (covL m zs) = lcL m zs := by
  refine between hm (fun x hx => ?_) (fun s hs h => ?_)
  · simp only [covL, List.mem_map, List.mem_filter, List.mem_range] at hx
    obtain ⟨s, ⟨h1, h2⟩, rfl⟩ := hx
    exact ⟨s, rfl, h1, h2⟩
  · simp only [covL, List.mem_map, List.mem_filter, List.mem_range]
    rw [minB, Bool.and_eq_true] at h
    exact ⟨s, ⟨hs, h.1⟩, rfl⟩

theorem meet_bit {a b : Nat} : a &&& b ≠ 0 ↔ ∃ v, a.testBit v = true ∧ b.testBit v = true := by
  constructor
  · intro h
    obtain ⟨v, hv⟩ := Nat.exists_testBit_of_ne_zero h
    rw [Nat.testBit_and, Bool.and_eq_true] at hv
    exact ⟨v, hv⟩
  · rintro ⟨v, h1, h2⟩ e
    have : (a &&& b).testBit v = true := by rw [Nat.testBit_and, h1, h2]; rfl
    rw [e] at this; simp at this

end Go.Proofs.YtmojkeokkebbfaaDoor

/- It is proved that the greatest pack told club by club is the greatest one of all sets of places; conditions: those of each statement. -/
namespace Go.Proofs.YtmojkeokkebbfaaDoor
open Go.RowKit

/-- The places of a set, of the first k. -/
def memK (k p : Nat) : List Nat := (List.range k).filter fun i => p.testBit i

theorem memK_two (k b q : Nat) (hb : b < 2) : memK (k + 1) (2 * q + b) = (if b = 1 then [0] else []) ++ (memK k q).map (· + 1) := by
  unfold memK
  rw [List.range_succ_eq_map, List.filter_cons, List.filter_map]
  have h0 : (2 * q + b).testBit 0 = decide (b = 1) := by
    rw [Nat.testBit_zero]
    congr 1
    rw [eq_iff_iff]
    omega
  have h1 : ((fun i => (2 * q + b).testBit i) ∘ Nat.succ) = fun i => q.testBit i := by
    funext i
    simp only [Function.comp, Nat.succ_eq_add_one, Nat.testBit_succ]
    rw [show (2 * q + b) / 2 = q by omega]
  rw [h0, h1]
  by_cases h : b = 1
  · simp [h]
  · simp [h]

/-- No two clubs at some places have a common member, nor one with a set. -/
def packB (zs : List Int) : List Nat → Nat → Bool
  | [], _ => true
  | p :: ps, met => decide ((zs[p]?.getD 0).toNat &&& met = 0) && packB zs ps (met ||| (zs[p]?.getD 0).toNat)

theorem packB_shift (z : Int) (zs : List Int) : ∀ (ps : List Nat) (met : Nat), packB (z :: zs) (ps.map (· + 1)) met = packB zs ps met
  | [], _ => rfl
  | p :: ps, met => by
    rw [List.map_cons, packB, packB, packB_shift z zs ps]
    rfl

/-- .. told club by club. -/
def packM : List Int → Nat → Nat
  | [], _ => 0
  | z :: zs, used => if z.toNat &&& used = 0 then max (packM zs used) (1 + packM zs (used ||| z.toNat)) else packM zs used

theorem packM_le : ∀ (zs : List Int) (used : Nat), packM zs used ≤ zs.length
  | [], _ => Nat.le_refl _
  | z :: zs, used => by
    have h1 := packM_le zs used
    have h2 := packM_le zs (used ||| z.toNat)
    rw [packM, List.length_cons]
    split <;> omega

def IsMost (zs : List Int) (met n : Nat) : Prop := (∀ q, q < 2 ^ zs.length → packB zs (memK zs.length q) met = true → (memK zs.length q).length ≤ n) ∧ ∃ q, q < 2 ^ zs.length ∧ packB zs (memK zs.length q) met = true ∧ (memK zs.length q).length = n
theorem packM_most : ∀ (zs : List Int) (met : Nat), IsMost zs met (packM zs met)
  | [], met => ⟨fun q _ _ => by simp [memK], 0, by simp, rfl, rfl⟩
  | z :: zs, met => by
    obtain ⟨a1, q1, a2, a3, a4⟩ := packM_most zs met
    obtain ⟨b1, q2, b2, b3, b4⟩ := packM_most zs (met ||| z.toNat)
    have h00 : ∀ q, packB (z :: zs) (memK (zs.length + 1) (2 * q + 0)) met = packB zs (memK zs.length q) met := fun q => by
      rw [memK_two _ 0 q (by decide), if_neg (by decide), List.nil_append, packB_shift]
    have h01 : ∀ q, (memK (zs.length + 1) (2 * q + 0)).length = (memK zs.length q).length := fun q => by
      rw [memK_two _ 0 q (by decide), if_neg (by decide), List.nil_append, List.length_map]
    have h10 : ∀ q, packB (z :: zs) (memK (zs.length + 1) (2 * q + 1)) met = (decide (z.toNat &&& met = 0) && packB zs (memK zs.length q) (met ||| z.toNat)) := fun q => by
      rw [memK_two _ 1 q (by decide), if_pos rfl, List.singleton_append, packB, packB_shift]
      rfl
    have h11 : ∀ q, (memK (zs.length + 1) (2 * q + 1)).length = 1 + (memK zs.length q).length := fun q => by
      rw [memK_two _ 1 q (by decide), if_pos rfl, List.singleton_append, List.length_cons, List.length_map]; omega
    have hp : 2 ^ (z :: zs).length = 2 * 2 ^ zs.length := by rw [List.length_cons, Nat.pow_succ]; omega
    constructor
    · intro q hq hb
      rw [List.length_cons] at hb ⊢
      rcases Nat.mod_two_eq_zero_or_one q with h | h
      · obtain ⟨r, rfl⟩ : ∃ r, q = 2 * r + 0 := ⟨q / 2, by omega⟩
        rw [h00] at hb
        rw [h01]
        have := a1 r (by omega) hb
        rw [packM]; split <;> omega
      · obtain ⟨r, rfl⟩ : ∃ r, q = 2 * r + 1 := ⟨q / 2, by omega⟩
        rw [h10, Bool.and_eq_true, decide_eq_true_eq] at hb
        rw [h11, packM, if_pos hb.1]
        have := b1 r (by omega) hb.2
        omega
    · rw [packM]
      by_cases hz : z.toNat &&& met = 0
      · rw [if_pos hz]
        by_cases hm : packM zs met ≤ 1 + packM zs (met ||| z.toNat)
        · refine ⟨2 * q2 + 1, by omega, ?_, ?_⟩
          · rw [List.length_cons, h10, b3, hz]; rfl
          · rw [List.length_cons, h11, b4]; omega
        · refine ⟨2 * q1 + 0, by omega, ?_, ?_⟩
          · rw [List.length_cons, h00, a3]
          · rw [List.length_cons, h01, a4]; omega
      · rw [if_neg hz]
        refine ⟨2 * q1 + 0, by omega, ?_, ?_⟩
        · rw [List.length_cons, h00, a3]
        · rw [List.length_cons, h01, a4]

/-- .. and set by set. -/
def mostTo (zs : List Int) (n : Nat) : Nat := (List.range n).foldl (fun b q => if packB zs (memK zs.length q) 0 then max b (memK zs.length q).length else b) 0

theorem mostTo_succ (zs : List Int) (n : Nat) : mostTo zs (n + 1) = if packB zs (memK zs.length n) 0 then max (mostTo zs n) (memK zs.length n).length else mostTo zs n := by
  simp [mostTo, List.range_succ]

theorem mostTo_ge (zs : List Int) : ∀ n q, q < n → packB zs (memK zs.length q) 0 = true → (memK zs.length q).length ≤ mostTo zs n
  | 0, q, h, _ => by omega
  | n + 1, q, h, hb => by
    rw [mostTo_succ]
    by_cases e : q = n
    · subst e; rw [if_pos hb]; omega
    · have := mostTo_ge zs n q (by omega) hb
      split <;> omega

theorem mostTo_le (zs : List Int) (N : Nat) (h : ∀ q, q < 2 ^ zs.length → packB zs (memK zs.length q) 0 = true → (memK zs.length q).length ≤ N) : ∀ n, n ≤ 2 ^ zs.length → mostTo zs n ≤ N
  | 0, _ => by simp [mostTo]
  | n + 1, hn => by
    have h1 := mostTo_le zs N h n (by omega)
    rw [mostTo_succ]
    split
    · rename_i hb
      have := h n (by omega) hb
      omega
    · exact h1

theorem most_all (zs : List Int) : mostTo zs (2 ^ zs.length) = packM zs 0 := by
  obtain ⟨h1, q, h2, h3, h4⟩ := packM_most zs 0
  have := mostTo_ge zs _ q h2 h3
  have := mostTo_le zs _ h1 _ (Nat.le_refl _)
  omega

end Go.Proofs.YtmojkeokkebbfaaDoor

/- It is proved what ownNames and keeping return; conditions: those of each statement. -/
namespace Go.Proofs.YtmojkeokkebbfaaDoor
open Go.RowKit Go.Shelf Go.Maps

attribute [local go_sem] Oper.semAt_some

theorem slice_form {w' : World} {B k : Nat} {v : Value} {ys : List Value} (h : w'.ownsRow B 3 1 v k ys) : ∃ a c, v = .slice a k c := by
  rcases h.2 with ⟨rfl, rfl⟩ | ⟨g, cap, cur, rfl, _⟩
  · exact ⟨none, 0, rfl⟩
  · exact ⟨_, _, rfl⟩

end Go.Proofs.YtmojkeokkebbfaaDoor
