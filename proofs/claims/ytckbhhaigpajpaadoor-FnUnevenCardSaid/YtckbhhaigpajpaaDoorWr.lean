/- It is proved that the least uneven number over all words of two colours is that over all sets; conditions: those of each statement. -/
import Derived.RowKit
import Derived.Laws.CopyRow
import Derived.Lib.SlBuf
import Derived.Deep.QuietTactic
import Derived.RangeFuncNested
import Derived.RangeFuncBound
import Derived.RangeFuncCalls
import Derived.RangeFuncLeaves
import Derived.RangeFuncBox
import Derived.RangeFuncWrites
import Derived.StillTailTactics
import Derived.Maps.OwnIn
import Derived.Maps.Ext
import Derived.DeepKeys4
import Derived.MapKept
import Derived.Test.YtckbhhaigpajpaaDoorRows
import Derived.WalkKit
import Derived.WalkSpells
import Derived.ProofKit
import Derived.OpenShut
import Derived.ShutString
import Derived.ChangeOld
import Derived.Below
import Derived.Deep.RegionHeld3
import Derived.BigQuiet
import Derived.Lib.Hide
import Derived.Lib.SmallJoins
import Derived.Outline
import Derived.Laws.MakeOwn
import Derived.Laws.OwnMore
import Derived.IntWalk
import Derived.Maps.AppendAt
import Derived.Deep.RegionLaw
import Derived.Deep.AppendLies
import Derived.Lib.AppendZeros
import Derived.OwnWalk
import Derived.Lib.SlicesCompact
import Derived.Lib.OwnBridge
import Derived.OrdersIn
import Derived.TacticsIn
import Derived.Shelf.Sort.Plain
import Derived.Shelf.Slices.In.SortNone
import Derived.Shelf.Slices.CompactI
import Derived.Ground.Names2Prog
import Derived.Lib.SliceRun
import Derived.Shelf.Abstract
import Derived.Shelf.RegionOpen
import Derived.OwnWalkIn
import Derived.TacticsInMore
import Derived.LoopNIn
import Derived.LoopIn
import Derived.StillTail
import Derived.StillTactics
import Derived.Shelf.Spec.TrailingZeros
import Derived.Deep.LoopGhost
import Derived.Test.YtckbhhaigpajpaaDoorRaab
import Derived.Test.YtckbhhaigpajpaaDoorRaac
import Derived.Test.YtckbhhaigpajpaaDoorRaas
import Derived.Test.YtckbhhaigpajpaaDoorRaad
import Derived.Test.YtckbhhaigpajpaaDoorRaaf
import Derived.Test.YtckbhhaigpajpaaDoorRaal
import Derived.Test.YtckbhhaigpajpaaDoorRaau
import Derived.Test.YtckbhhaigpajpaaDoorRaae
import Derived.Test.YtckbhhaigpajpaaDoorRaar
namespace Go.Proofs.YtckbhhaigpajpaaDoor
open Go.RowKit

/-- A set as a word of two colours. -/
def bitL (m s : Nat) : List Bool := (List.range m).map fun v => s.testBit v

theorem bitL_len (m s : Nat) : (bitL m s).length = m := by simp [bitL]
theorem bitL_at {m s v : Nat} (h : v < m) : (bitL m s)[v]?.getD false = s.testBit v := by
  unfold bitL
  rw [List.getElem?_map, List.getElem?_range h]
  rfl

set_option maxRecDepth 100000 in
theorem word_set_fin : ∀ m : Fin 7, ∀ w ∈ wordsL [false, true] m.val, (List.range (2 ^ m.val)).any (fun s => decide (bitL m.val s = w)) = true := by decide +kernel

theorem word_set {m : Nat} (hm : m ≤ 6) {w : List Bool} (h : w ∈ wordsL [false, true] m) : ∃ s, s < 2 ^ m ∧ bitL m s = w := by
  obtain ⟨s, hs, he⟩ := List.any_eq_true.1 (word_set_fin ⟨m, by omega⟩ w h)
  exact ⟨s, List.mem_range.1 hs, of_decide_eq_true he⟩

theorem set_word {m : Nat} (s : Nat) : bitL m s ∈ wordsL [false, true] m := (wordsL_mem _ _ _).2 ⟨bitL_len m s, fun c _ => by cases c <;> simp⟩
/-- The sizes on both sides of a set. -/
def difN (s z : Nat) : Int := ((cntK 8 (z &&& s) : Nat) : Int) - ((cntK 8 (z &&& (63 - s)) : Nat) : Int)

theorem cnt_filter (z : Nat) (p : Nat → Bool) (u : Nat) (h : ∀ v, v < 8 → u.testBit v = (z.testBit v && p v)) : cntK 8 u = (memK 8 z).countP p := by
  unfold cntK memK
  rw [List.countP_eq_length_filter, List.filter_filter]
  congr 1
  refine List.filter_congr fun v hv => ?_
  rw [h v (List.mem_range.1 hv), Bool.and_comm]

theorem mor_dif {m s z : Nat} (hm : m ≤ 6) (hz : z < 2 ^ m) (hs : s < 2 ^ m) : morI (bitL m s) (z : Int) = difN s z := by
  have hz64 := p64 hm hz
  have hs64 := p64 hm hs
  have hlt : ∀ v, z.testBit v = true → v < m := fun v hv => by
    apply Decidable.byContradiction
    intro hc
    rw [Nat.testBit_lt_two_pow (Nat.lt_of_lt_of_le hz (Nat.pow_le_pow_right (by decide) (by omega)))] at hv
    cases hv
  have h1 : cntV (bitL m s) true (mem z) = cntK 8 (z &&& s) := by
    rw [cnt_filter z (fun v => s.testBit v) (z &&& s) (fun v _ => by rw [Nat.testBit_and]), mem8 hz64]
    unfold cntV
    refine List.countP_congr fun v hv => ?_
    rw [bitL_at (hlt v (by rw [← mem8 hz64, memK, List.mem_filter] at hv; exact hv.2))]
    simp
  have h2 : cntV (bitL m s) false (mem z) = cntK 8 (z &&& (63 - s)) := by
    rw [cnt_filter z (fun v => !s.testBit v) (z &&& (63 - s)) (fun v _ => by
      rw [Nat.testBit_and]
      cases hv : z.testBit v
      · rfl
      · have := Nat.testBit_two_pow_sub_succ (show s < 2 ^ 6 by omega) v
        rw [show 2 ^ 6 - (s + 1) = 63 - s by omega] at this
        rw [this, decide_eq_true (show v < 6 by have := hlt v hv; omega)]; rfl), mem8 hz64]
    unfold cntV
    refine List.countP_congr fun v hv => ?_
    rw [bitL_at (hlt v (by rw [← mem8 hz64, memK, List.mem_filter] at hv; exact hv.2))]
    cases s.testBit v <;> simp
  unfold morI difN
  rw [Int.toNat_natCast, h1, h2]

/-- How uneven a set is for clubs. -/
def unvS (s : Nat) (zs : List Int) : Int := zs.foldl (fun b z => max b (max (difN s z.toNat) (0 - difN s z.toNat))) 0

theorem unvS_snoc (s : Nat) (zs : List Int) (z : Int) : unvS s (zs ++ [z]) = max (unvS s zs) (max (difN s z.toNat) (0 - difN s z.toNat)) := by simp [unvS]
theorem unv_same {m s : Nat} (hm : m ≤ 6) (hs : s < 2 ^ m) : ∀ {zs : List Int}, Sets m zs → unvI (bitL m s) zs = unvS s zs := by
  intro zs
  induction zs using snoc_ind with
  | h0 => intro _; rfl
  | h1 l z ih =>
    intro hS
    have h1 := ih (fun y hy => hS y (by simp [hy]))
    obtain ⟨h2, h3⟩ := hS z (by simp)
    have h4 := mor_dif (s := s) hm h3 hs
    rw [Int.toNat_of_nonneg h2] at h4
    rw [unvI_snoc, unvS_snoc, h1, h4]
    omega

def minW (m : Nat) (zs : List Int) (ws : List (List Bool)) : Int := ws.foldl (fun b l => min b (unvI l zs)) (m : Int)
theorem minW_snoc (m : Nat) (zs : List Int) (ws : List (List Bool)) (w : List Bool) : minW m zs (ws ++ [w]) = min (minW m zs ws) (unvI w zs) := by simp [minW]
def minS (m : Nat) (zs : List Int) (n : Nat) : Int := (List.range n).foldl (fun b s => min b (unvS s zs)) (m : Int)
theorem minS_succ (m : Nat) (zs : List Int) (n : Nat) : minS m zs (n + 1) = min (minS m zs n) (unvS n zs) := by simp [minS, List.range_succ]
theorem min_le {α : Type} (f : α → Int) (x : Int) : ∀ (l : List α) (b : Int), l.foldl (fun b a => min b (f a)) b ≤ x ↔ b ≤ x ∨ ∃ a ∈ l, f a ≤ x
  | [], b => by simp
  | a :: l, b => by
    rw [List.foldl_cons, min_le f x l]
    simp only [List.mem_cons, exists_eq_or_imp]
    constructor
    · rintro (h | h)
      · by_cases hb : b ≤ x
        · exact .inl hb
        · exact .inr (.inl (by omega))
      · exact .inr (.inr h)
    · rintro (h | h | h)
      · exact .inl (by omega)
      · exact .inl (by omega)
      · exact .inr h

theorem minW_is {m : Nat} (hm : m ≤ 6) {zs : List Int} (hS : Sets m zs) : minW m zs (wordsL [false, true] m) = minS m zs (2 ^ m) := by
  have key : ∀ x, minW m zs (wordsL [false, true] m) ≤ x ↔ minS m zs (2 ^ m) ≤ x := fun x => by
    unfold minW minS
    rw [min_le, min_le]
    constructor
    · rintro (h | ⟨w, hw, h⟩)
      · exact .inl h
      · obtain ⟨s, hs, rfl⟩ := word_set hm hw
        exact .inr ⟨s, List.mem_range.2 hs, by rw [← unv_same hm hs hS]; exact h⟩
    · rintro (h | ⟨s, hs, h⟩)
      · exact .inl h
      · exact .inr ⟨bitL m s, set_word s, by rw [unv_same hm (List.mem_range.1 hs) hS]; exact h⟩
  have h1 := (key _).1 (Int.le_refl _)
  have h2 := (key _).2 (Int.le_refl _)
  omega

theorem difN_bound {s z : Nat} (_h : z < 64) : -8 ≤ difN s z ∧ difN s z ≤ 8 := by
  have h1 : cntK 8 (z &&& s) ≤ 8 := memK_len 8 _
  have h2 : cntK 8 (z &&& (63 - s)) ≤ 8 := memK_len 8 _
  unfold difN
  omega

theorem unvS_bound {s : Nat} : ∀ {zs : List Int}, (∀ z ∈ zs, z.toNat < 64) → 0 ≤ unvS s zs ∧ unvS s zs ≤ 8 := by
  intro zs
  induction zs using snoc_ind with
  | h0 => intro _; simp [unvS]
  | h1 l z ih =>
    intro h
    have h1 := ih (fun y hy => h y (by simp [hy]))
    have h2 := difN_bound (s := s) (h z (by simp))
    rw [unvS_snoc]
    omega

theorem minW_bound {m : Nat} {zs : List Int} (hz : ∀ z ∈ zs, z.toNat < 64) : ∀ ws, 0 ≤ minW m zs ws ∧ minW m zs ws ≤ m := by
  intro ws
  induction ws using snoc_ind with
  | h0 => simp [minW]
  | h1 l w ih =>
    have := unvI_bound (cs := w) hz
    rw [minW_snoc]
    omega

theorem minS_bound {m : Nat} {zs : List Int} (hz : ∀ z ∈ zs, z.toNat < 64) : ∀ n, 0 ≤ minS m zs n ∧ minS m zs n ≤ m
  | 0 => by simp [minS]
  | n + 1 => by
    have h1 := minS_bound (m := m) hz n
    have h2 := unvS_bound (s := n) hz
    rw [minS_succ]
    omega

def outCU (m : Int) (zs : List Int) : Int := if famIn m zs then minS m.toNat zs (2 ^ m.toNat) else 0
end Go.Proofs.YtckbhhaigpajpaaDoor
