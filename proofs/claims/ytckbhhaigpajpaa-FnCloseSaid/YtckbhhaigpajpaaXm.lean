/- It is proved which sets a closed family has: the common members of some of the clubs; conditions: those of each statement. -/
import Derived.RowKit
import Derived.Laws.CopyRow
import Derived.Lib.SlBuf
import Derived.Deep.QuietTactic
import Derived.RangeFuncNested
import Derived.RangeFuncBound
import Derived.RangeFuncCalls
import Derived.RangeFuncLeaves
import Derived.RangeFuncBox
import Derived.RangeFuncWrites
import Derived.StillTailTactics
import Derived.Maps.OwnIn
import Derived.Maps.Ext
import Derived.DeepKeys4
import Derived.MapKept
import Derived.Test.YtckbhhaigpajpaaRows
import Derived.WalkKit
import Derived.WalkSpells
import Derived.ProofKit
import Derived.OpenShut
import Derived.ShutString
import Derived.ChangeOld
import Derived.Below
import Derived.Deep.RegionHeld3
import Derived.BigQuiet
import Derived.Lib.Hide
import Derived.Lib.SmallJoins
import Derived.Outline
import Derived.Laws.MakeOwn
import Derived.Laws.OwnMore
import Derived.IntWalk
import Derived.Maps.AppendAt
import Derived.Deep.RegionLaw
import Derived.Deep.AppendLies
import Derived.Lib.AppendZeros
import Derived.OwnWalk
import Derived.Lib.SlicesCompact
import Derived.Lib.OwnBridge
import Derived.OrdersIn
import Derived.TacticsIn
import Derived.Shelf.Sort.Plain
import Derived.Shelf.Slices.In.SortNone
import Derived.Shelf.Slices.CompactI
import Derived.Ground.Names2Prog
import Derived.Lib.SliceRun
import Derived.Laws.BitsAllLaws
import Derived.Shelf.RegionOpen
import Derived.Shelf.Abstract
import Derived.OwnWalkIn
import Derived.TacticsInMore
import Derived.LoopNIn
import Derived.LoopIn
import Derived.StillTail
import Derived.StillTactics
import Derived.Shelf.Spec.TrailingZeros
import Derived.Deep.LoopGhost
import Derived.Test.YtckbhhaigpajpaaRaah
import Derived.Test.YtckbhhaigpajpaaRaaj
namespace Go.Proofs.Ytckbhhaigpajpaa
open Go.RowKit

/-- A family closed with one more club. -/
def clP (c : Int) (L : List Int) : List Int := simpZ (L ++ L.map (fun z => bits .and .i64 z c) ++ [c])

def clTo (zs : List Int) (i : Nat) : List Int := (zs.take i).foldl (fun L c => clP c L) []
theorem clTo_succ (zs : List Int) {i : Nat} (h : i < zs.length) : clTo zs (i + 1) = clP (zs[i]?.getD 0) (clTo zs i) := by
  unfold clTo
  rw [List.take_succ_eq_append_getElem h, List.foldl_append]
  simp [h]

theorem com_congr (m : Nat) (zs : List Int) {p q : Nat} : ∀ j, (∀ i, i < j → p.testBit i = q.testBit i) → comTo m zs p j = comTo m zs q j
  | 0, _ => rfl
  | j + 1, h => by
    rw [comTo_succ, comTo_succ, com_congr m zs j (fun i hi => h i (by omega)), h j (by omega)]

theorem com_none (m : Nat) (zs : List Int) : ∀ j, comTo m zs 0 j = 2 ^ m - 1
  | 0 => rfl
  | j + 1 => by rw [comTo_succ, if_neg (by simp), com_none m zs j]

theorem bit_add {p i : Nat} (h : p < 2 ^ i) : (2 ^ i + p).testBit i = true ∧ ∀ j, j < i → (2 ^ i + p).testBit j = p.testBit j := by
  have e : 2 ^ i + p = 2 ^ i ||| p := by
    have := Nat.two_pow_add_eq_or_of_lt h 1
    simpa using this
  refine ⟨?_, fun j hj => ?_⟩
  · rw [e, Nat.testBit_or, Nat.testBit_two_pow_self]; rfl
  · rw [e, Nat.testBit_or, Nat.testBit_two_pow_of_ne (by omega)]; simp

theorem full_and {m x : Nat} (h : x < 2 ^ m) : (2 ^ m - 1) &&& x = x := by
  apply Nat.eq_of_testBit_eq
  intro i
  rw [Nat.testBit_and, Nat.testBit_two_pow_sub_one]
  by_cases hi : i < m
  · simp [hi]
  · have : x.testBit i = false := Nat.testBit_lt_two_pow (Nat.lt_of_lt_of_le h (Nat.pow_le_pow_right (by decide) (by omega)))
    simp [this]

/-- Just these are in a closed family. -/
theorem clTo_mem {m : Nat} (hm : m ≤ 6) {zs : List Int} (hS : Sets m zs) : ∀ i, i ≤ zs.length → ∀ z, z ∈ clTo zs i ↔ ∃ p, 1 ≤ p ∧ p < 2 ^ i ∧ z = ((comTo m zs p i : Nat) : Int)
  | 0, _, z => by
    constructor
    · intro h; simp [clTo] at h
    · rintro ⟨p, h1, h2, -⟩
      simp at h2
      omega
  | i + 1, hi, z => by
    have hil : i < zs.length := by omega
    have hc := hS _ (getD_mem (zs := zs) (i := i) hil)
    obtain ⟨c, hcc⟩ : ∃ c : Nat, zs[i]?.getD 0 = (c : Int) := ⟨(zs[i]?.getD 0).toNat, by have := hc.1; omega⟩
    have hcm : c < 2 ^ m := by have := hc.2; rwa [hcc, Int.toNat_natCast] at this
    have hc64 : c < 64 := Nat.lt_of_lt_of_le hcm (Nat.pow_le_pow_right (n := 2) (by decide) hm)
    have hand : ∀ p, bits .and .i64 ((comTo m zs p i : Nat) : Int) (c : Int) = ((comTo m zs p i &&& c : Nat) : Int) := fun p => by
      have h64 : comTo m zs p i < 64 := Nat.lt_of_lt_of_le (comTo_lt m zs p i) (Nat.pow_le_pow_right (n := 2) (by decide) hm)
      exact and_at8 (by omega) (by omega)
    have hs : ∀ p, comTo m zs p (i + 1) = if p.testBit i then comTo m zs p i &&& c else comTo m zs p i := fun p => by rw [comTo_succ, hcc, Int.toNat_natCast]
    have h2i : (2 : Nat) ^ (i + 1) = 2 ^ i + 2 ^ i := by rw [Nat.pow_succ]; omega
    rw [clTo_succ zs hil, hcc]
    unfold clP
    rw [simpZ_mem]
    simp only [List.mem_append, List.mem_map, List.mem_singleton]
    constructor
    · rintro ((h | ⟨y, hy, rfl⟩) | rfl)
      · obtain ⟨p, h1, h2, rfl⟩ := (clTo_mem hm hS i (by omega) z).1 h
        refine ⟨p, h1, by omega, ?_⟩
        rw [hs, if_neg (by rw [Nat.testBit_lt_two_pow h2]; decide)]
      · obtain ⟨p, h1, h2, rfl⟩ := (clTo_mem hm hS i (by omega) y).1 hy
        obtain ⟨b1, b2⟩ := bit_add h2
        refine ⟨2 ^ i + p, by omega, by omega, ?_⟩
        rw [hs, if_pos b1, com_congr m zs i (q := p) b2, hand]
      · obtain ⟨b1, b2⟩ := bit_add (p := 0) (i := i) (Nat.one_le_two_pow)
        refine ⟨2 ^ i + 0, by have := Nat.one_le_two_pow (n := i); omega, by have := Nat.one_le_two_pow (n := i); omega, ?_⟩
        rw [hs, if_pos b1, com_congr m zs i (q := 0) b2, com_none, full_and hcm]
    · rintro ⟨p, h1, h2, rfl⟩
      by_cases hp : p < 2 ^ i
      · refine .inl (.inl ((clTo_mem hm hS i (by omega) _).2 ⟨p, h1, hp, ?_⟩))
        rw [hs, if_neg (by rw [Nat.testBit_lt_two_pow hp]; decide)]
      · obtain ⟨q, rfl⟩ : ∃ q, p = 2 ^ i + q := ⟨p - 2 ^ i, by omega⟩
        have hq : q < 2 ^ i := by omega
        obtain ⟨b1, b2⟩ := bit_add hq
        rw [hs, if_pos b1, com_congr m zs i (q := q) b2]
        by_cases hq0 : q = 0
        · subst hq0
          right
          rw [com_none, full_and hcm]
        · exact .inl (.inr ⟨_, (clTo_mem hm hS i (by omega) _).2 ⟨q, by omega, hq, rfl⟩, hand q⟩)

end Go.Proofs.Ytckbhhaigpajpaa
