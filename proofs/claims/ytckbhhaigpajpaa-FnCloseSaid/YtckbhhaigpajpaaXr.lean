/- It is proved that closing twice is closing once, that clubs are kept and that the common members stay; conditions: those of each statement. -/
import Derived.RowKit
import Derived.Laws.CopyRow
import Derived.Lib.SlBuf
import Derived.Deep.QuietTactic
import Derived.RangeFuncNested
import Derived.RangeFuncBound
import Derived.RangeFuncCalls
import Derived.RangeFuncLeaves
import Derived.RangeFuncBox
import Derived.RangeFuncWrites
import Derived.StillTailTactics
import Derived.Maps.OwnIn
import Derived.Maps.Ext
import Derived.DeepKeys4
import Derived.MapKept
import Derived.Test.YtckbhhaigpajpaaRows
import Derived.WalkKit
import Derived.WalkSpells
import Derived.ProofKit
import Derived.OpenShut
import Derived.ShutString
import Derived.ChangeOld
import Derived.Below
import Derived.Deep.RegionHeld3
import Derived.BigQuiet
import Derived.Lib.Hide
import Derived.Lib.SmallJoins
import Derived.Outline
import Derived.Laws.MakeOwn
import Derived.Laws.OwnMore
import Derived.IntWalk
import Derived.Maps.AppendAt
import Derived.Deep.RegionLaw
import Derived.Deep.AppendLies
import Derived.Lib.AppendZeros
import Derived.OwnWalk
import Derived.Lib.SlicesCompact
import Derived.Lib.OwnBridge
import Derived.OrdersIn
import Derived.TacticsIn
import Derived.Orders
import Derived.Tactics
import Derived.Shelf.Sort.Plain
import Derived.Shelf.Slices.In.SortNone
import Derived.Shelf.Slices.CompactI
import Derived.Ground.Names2Prog
import Derived.Lib.SliceRun
import Derived.Laws.BitsAllLaws
import Derived.Shelf.RegionOpen
import Derived.Shelf.Abstract
import Derived.OwnWalkIn
import Derived.TacticsInMore
import Derived.LoopNIn
import Derived.LoopIn
import Derived.StillTail
import Derived.StillTactics
import Derived.Shelf.Spec.TrailingZeros
import Derived.Deep.LoopGhost
import Derived.Test.YtckbhhaigpajpaaRaab
import Derived.Test.YtckbhhaigpajpaaRaah
import Derived.Test.YtckbhhaigpajpaaRaaj
import Derived.Test.YtckbhhaigpajpaaR
import Derived.Test.YtckbhhaigpajpaaXm
import Derived.Test.YtckbhhaigpajpaaRaal
import Derived.Test.YtckbhhaigpajpaaXp
import Derived.Test.YtckbhhaigpajpaaRaap
namespace Go.Proofs.Ytckbhhaigpajpaa
open Go.RowKit

theorem powS64 {m x : Nat} (hm : m ≤ 6) (h : x < 2 ^ m) : x < 64 := Nat.lt_of_lt_of_le h (Nat.pow_le_pow_right (n := 2) (by decide) hm)
theorem some_bit {x n : Nat} (h : 1 ≤ x) (hn : x < 2 ^ n) : ∃ i, i < n ∧ x.testBit i = true := by
  obtain ⟨i, hi⟩ := Nat.exists_testBit_of_ne_zero (x := x) (by omega)
  refine ⟨i, ?_, hi⟩
  apply Decidable.byContradiction
  intro hc
  rw [Nat.testBit_lt_two_pow (Nat.lt_of_lt_of_le hn (Nat.pow_le_pow_right (by decide) (by omega)))] at hi
  cases hi

theorem com_single {m : Nat} {zs : List Int} (hS : Sets m zs) {i : Nat} (hi : i < zs.length) : ((comTo m zs (2 ^ i) zs.length : Nat) : Int) = zs[i]?.getD 0 := by
  have hz := hS _ (getD_mem (zs := zs) (i := i) hi)
  have e : comTo m zs (2 ^ i) zs.length = (zs[i]?.getD 0).toNat := by
    apply Nat.eq_of_testBit_eq
    intro v
    rw [Bool.eq_iff_iff, comTo_bit]
    constructor
    · rintro ⟨-, h⟩
      exact h i hi (Nat.testBit_two_pow_self)
    · intro h
      refine ⟨?_, fun j hj hb => ?_⟩
      · apply Decidable.byContradiction
        intro hc
        rw [Nat.testBit_lt_two_pow (Nat.lt_of_lt_of_le hz.2 (Nat.pow_le_pow_right (by decide) (by omega)))] at h
        cases h
      · by_cases he : i = j
        · rw [← he]; exact h
        · rw [Nat.testBit_two_pow_of_ne he] at hb; cases hb
  rw [e]
  have := hz.1
  omega

theorem clo_has {m : Nat} (hm : m ≤ 6) {zs : List Int} (hS : Sets m zs) {i : Nat} (hi : i < zs.length) : zs[i]?.getD 0 ∈ clF zs := by
  rw [← clF_is, clTo_mem hm hS _ (Nat.le_refl _)]
  exact ⟨2 ^ i, Nat.one_le_two_pow, Nat.pow_lt_pow_right (by decide) hi, (com_single hS hi).symm⟩

theorem clo_sets {m : Nat} (hm : m ≤ 6) {zs : List Int} (hS : Sets m zs) : Sets m (clF zs) := fun z hz => by
  rw [← clF_is, clTo_mem hm hS _ (Nat.le_refl _)] at hz
  obtain ⟨p, -, -, rfl⟩ := hz
  exact ⟨by omega, by rw [Int.toNat_natCast]; exact comTo_lt m zs p _⟩

theorem clo_and {m : Nat} (hm : m ≤ 6) {zs : List Int} (hS : Sets m zs) {x y : Nat} (hx : (x : Int) ∈ clF zs) (hy : (y : Int) ∈ clF zs) : ((x &&& y : Nat) : Int) ∈ clF zs := by
  rw [← clF_is, clTo_mem hm hS _ (Nat.le_refl _)] at hx hy ⊢
  obtain ⟨p, p1, p2, hp⟩ := hx
  obtain ⟨q, q1, q2, hq⟩ := hy
  have ex : x = comTo m zs p zs.length := by omega
  have ey : y = comTo m zs q zs.length := by omega
  refine ⟨p ||| q, ?_, Nat.or_lt_two_pow p2 q2, ?_⟩
  · have : p ≤ p ||| q := Nat.left_le_or
    omega
  · congr 1
    apply Nat.eq_of_testBit_eq
    intro v
    rw [Bool.eq_iff_iff, Nat.testBit_and, Bool.and_eq_true, comTo_bit, ex, ey, comTo_bit, comTo_bit]
    constructor
    · rintro ⟨⟨h0, h1⟩, -, h2⟩
      refine ⟨h0, fun i hi hb => ?_⟩
      rw [Nat.testBit_or, Bool.or_eq_true] at hb
      rcases hb with hb | hb
      · exact h1 i hi hb
      · exact h2 i hi hb
    · rintro ⟨h0, h1⟩
      exact ⟨⟨h0, fun i hi hb => h1 i hi (by rw [Nat.testBit_or, hb]; rfl)⟩, h0, fun i hi hb => h1 i hi (by rw [Nat.testBit_or, hb]; simp)⟩

theorem com_mem {m : Nat} (hm : m ≤ 6) {zs : List Int} (hS : Sets m zs) (q : Nat) : ∀ j, j ≤ (clF zs).length → (∃ i, i < j ∧ q.testBit i = true) → ((comTo m (clF zs) q j : Nat) : Int) ∈ clF zs
  | 0, _, ⟨i, hi, _⟩ => by omega
  | j + 1, hj, ⟨i, hi, hb⟩ => by
    have hjl : j < (clF zs).length := by omega
    have hmem : (clF zs)[j]?.getD 0 ∈ clF zs := getD_mem hjl
    have hz := clo_sets hm hS _ hmem
    obtain ⟨y, hy⟩ : ∃ y : Nat, (clF zs)[j]?.getD 0 = (y : Int) := ⟨((clF zs)[j]?.getD 0).toNat, by have := hz.1; omega⟩
    have hy2 : y < 2 ^ m := by have := hz.2; rwa [hy, Int.toNat_natCast] at this
    rw [hy] at hmem
    rw [comTo_succ]
    by_cases hq : q.testBit j = true
    · rw [if_pos hq, hy, Int.toNat_natCast]
      by_cases he : ∃ i, i < j ∧ q.testBit i = true
      · exact clo_and hm hS (com_mem hm hS q j (by omega) he) hmem
      · have h0 : comTo m (clF zs) q j = comTo m (clF zs) 0 j := com_congr m _ j (fun i' hi' => by
          rw [Nat.zero_testBit]
          cases h : q.testBit i'
          · rfl
          · exact (he ⟨i', hi', h⟩).elim)
        rw [h0, com_none, full_and hy2]
        exact hmem
    · rw [if_neg hq]
      refine com_mem hm hS q j (by omega) ⟨i, ?_, hb⟩
      by_cases hij : i = j
      · rw [hij] at hb; exact (hq hb).elim
      · omega

/-- Closing twice is closing once. -/
theorem clo_clo {m : Nat} (hm : m ≤ 6) {zs : List Int} (hS : Sets m zs) : clF (clF zs) = clF zs := by
  have hS2 := clo_sets hm hS
  have ha : Asc (clF zs) := by rw [← clF_is]; exact clTo_asc zs _ (Nat.le_refl _)
  refine ((asc_ext _ _ ha (by rw [← clF_is]; exact clTo_asc (clF zs) _ (Nat.le_refl _)) (fun z => ?_))).symm
  rw [← clF_is (clF zs), clTo_mem hm hS2 _ (Nat.le_refl _)]
  constructor
  · intro hz
    obtain ⟨i, hi, rfl⟩ := List.mem_iff_getElem.1 hz
    refine ⟨2 ^ i, Nat.one_le_two_pow, Nat.pow_lt_pow_right (by decide) hi, ?_⟩
    rw [com_single hS2 hi, List.getElem?_eq_getElem hi]; rfl
  · rintro ⟨q, h1, h2, rfl⟩
    exact com_mem hm hS q _ (Nat.le_refl _) (some_bit h1 h2)

theorem andAll_com {m : Nat} (hm1 : 1 ≤ m) (hm : m ≤ 6) {zs : List Int} (hS : Sets m zs) : ∀ j, j ≤ zs.length → andAll (m : Int) (zs.take j) = ((comTo m zs (2 ^ zs.length - 1) j : Nat) : Int)
  | 0, _ => by
    have e : fullI (m : Int) = ((2 ^ m - 1 : Nat) : Int) := fullK m hm1 hm
    simp only [List.take_zero]
    exact e
  | j + 1, hj => by
    have hjl : j < zs.length := by omega
    have hz := hS _ (getD_mem (zs := zs) (i := j) hjl)
    obtain ⟨y, hy⟩ : ∃ y : Nat, zs[j]?.getD 0 = (y : Int) := ⟨(zs[j]?.getD 0).toNat, by have := hz.1; omega⟩
    have hy2 : y < 2 ^ m := by have := hz.2; rwa [hy, Int.toNat_natCast] at this
    rw [andAll_take _ _ _ hjl, andAll_com hm1 hm hS j (by omega), comTo_succ, if_pos (by rw [Nat.testBit_two_pow_sub_one]; simp; omega), hy, Int.toNat_natCast]
    exact and_at8 (by have := powS64 hm (comTo_lt m zs (2 ^ zs.length - 1) j); omega) (by have := powS64 hm hy2; omega)

theorem com_full_bit {m : Nat} {zs : List Int} {v : Nat} : (comTo m zs (2 ^ zs.length - 1) zs.length).testBit v = true ↔ v < m ∧ ∀ i, i < zs.length → (zs[i]?.getD 0).toNat.testBit v = true := by
  rw [comTo_bit]
  constructor
  · rintro ⟨h1, h2⟩; exact ⟨h1, fun i hi => h2 i hi (by rw [Nat.testBit_two_pow_sub_one]; simp; omega)⟩
  · rintro ⟨h1, h2⟩; exact ⟨h1, fun i hi _ => h2 i hi⟩

/-- The common members stay. -/
theorem clo_common {m : Nat} (hm1 : 1 ≤ m) (hm : m ≤ 6) {zs : List Int} (hS : Sets m zs) : andAll (m : Int) (clF zs) = andAll (m : Int) zs := by
  have h1 := andAll_com hm1 hm hS _ (Nat.le_refl _)
  have h2 := andAll_com hm1 hm (clo_sets hm hS) _ (Nat.le_refl _)
  rw [List.take_length] at h1 h2
  rw [h1, h2]
  congr 1
  apply Nat.eq_of_testBit_eq
  intro v
  rw [Bool.eq_iff_iff, com_full_bit, com_full_bit]
  constructor
  · rintro ⟨h0, h⟩
    refine ⟨h0, fun i hi => ?_⟩
    obtain ⟨j, hj, he⟩ := List.mem_iff_getElem.1 (clo_has hm hS hi)
    have := h j hj
    rwa [List.getElem?_eq_getElem hj, Option.getD_some, he] at this
  · rintro ⟨h0, h⟩
    refine ⟨h0, fun i hi => ?_⟩
    have hz : (clF zs)[i]?.getD 0 ∈ clF zs := getD_mem hi
    generalize (clF zs)[i]?.getD 0 = z at hz ⊢
    rw [← clF_is, clTo_mem hm hS _ (Nat.le_refl _)] at hz
    obtain ⟨p, -, -, rfl⟩ := hz
    rw [Int.toNat_natCast, comTo_bit]
    exact ⟨h0, fun j hj _ => h j hj⟩

/-- One of the first clubs is x. -/
def inTo (ys : List Int) (x : Int) (j : Nat) : Bool := (ys.take j).any fun y => decide (y = x)

theorem inTo_succ (ys : List Int) (x : Int) {j : Nat} (h : j < ys.length) : inTo ys x (j + 1) = (inTo ys x j || (ys[j]?.getD 0 == x)) := by
  unfold inTo
  rw [List.take_succ_eq_append_getElem h, List.any_append]
  simp [h]
  rfl

theorem inTo_mem {ys : List Int} {x : Int} (h : x ∈ ys) : inTo ys x ys.length = true := by
  unfold inTo
  rw [List.take_length, List.any_eq_true]
  exact ⟨x, h, by simp⟩

end Go.Proofs.Ytckbhhaigpajpaa
