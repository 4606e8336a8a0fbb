/- It is proved that the call of the law FnOther returns true; conditions: those of each statement. -/
import Derived.Test.YtmojkeokkebbfaaDoorRows
import Derived.WalkKit
import Derived.WalkSpells
import Derived.ProofKit
import Derived.OpenShut
import Derived.ShutString
import Derived.ChangeOld
import Derived.Below
import Derived.Deep.RegionHeld3
import Derived.Deep.QuietTactic
import Derived.BigQuiet
import Derived.Lib.Hide
import Derived.Lib.SmallJoins
import Derived.Outline
import Derived.Laws.MakeOwn
import Derived.Laws.OwnMore
import Derived.IntWalk
import Derived.Deep.RegionLaw
import Derived.Deep.AppendLies
import Derived.RangeFuncNested
import Derived.RangeFuncBound
import Derived.RangeFuncCalls
import Derived.RangeFuncLeaves
import Derived.RangeFuncBox
import Derived.Shelf.Abstract
import Derived.Shelf.RegionOpen
import Derived.OwnWalkIn
import Derived.TacticsInMore
import Derived.LoopNIn
import Derived.LoopIn
import Derived.Maps.AppendAt
import Derived.OwnWalk
import Derived.Shelf.Spec.TrailingZeros
import Derived.Test.YtmojkeokkebbfaaDoorMzad
import Derived.Test.YtmojkeokkebbfaaDoorMzae
import Derived.Test.YtmojkeokkebbfaaDoorPzA
import Derived.Test.YtmojkeokkebbfaaDoorMzat
import Derived.Test.YtmojkeokkebbfaaDoorTO
import Derived.Test.YtmojkeokkebbfaaDoorY
import Derived.Test.YtmojkeokkebbfaaDoorMzbi
namespace Go.Proofs.YtmojkeokkebbfaaDoor
open Go.RowKit

theorem whole_any (m : Int) (a : Option Addr) (n cap : Nat) (w : World) (h1 : 1 ≤ m) (h2 : m ≤ 6) :
    Calls Tryd.prog 16 #[.agg #[.int .i64 m, .slice a n cap]] w fun e w' => e = .returned (.int .i64 (fullI m)) ∧ Below w.heap.size w w' := by
  rcases m16 h1 h2 with rfl | rfl | rfl | rfl | rfl | rfl
  all_goals
    go_enter Tryd.func16, Tryd.ntmps16
    go_wp2
    go_ret
    exact ⟨rfl, below1 _ _⟩

set_option maxRecDepth 100000 in
theorem other_other_fin : ∀ k : Fin 6, ∀ z : Fin 64, (z.val : Int) ≤ fullI ((k.val : Int) + 1) → bits .andNot .i64 (fullI ((k.val : Int) + 1)) (bits .andNot .i64 (fullI ((k.val : Int) + 1)) (z.val : Int)) = (z.val : Int) := by decide +kernel

theorem other_other {m z : Int} (h1 : 1 ≤ m) (h2 : m ≤ 6) (h3 : 0 ≤ z) (h4 : z ≤ fullI m) : bits .andNot .i64 (fullI m) (bits .andNot .i64 (fullI m) z) = z := by
  have h5 := fullI_63 h1 h2
  have := other_other_fin ⟨(m - 1).toNat, by omega⟩ ⟨z.toNat, by omega⟩
  simp only [Int.toNat_of_nonneg (show 0 ≤ m - 1 by omega), Int.toNat_of_nonneg h3, show m - 1 + 1 = m by omega] at this
  exact this h4

set_option maxRecDepth 100000 in
theorem orF_fin : ∀ a b : Fin 64, bits .or .i64 (a.val : Int) (b.val : Int) = ((a.val ||| b.val : Nat) : Int) := by decide +kernel

set_option maxRecDepth 100000 in
theorem andF_fin : ∀ a b : Fin 64, bits .and .i64 (a.val : Int) (b.val : Int) = ((a.val &&& b.val : Nat) : Int) := by decide +kernel

set_option maxRecDepth 100000 in
theorem notF_fin : ∀ k : Fin 6, ∀ b : Fin 64, bits .andNot .i64 (fullI ((k.val : Int) + 1)) (b.val : Int) = (((2 ^ (k.val + 1) - 1) ^^^ ((2 ^ (k.val + 1) - 1) &&& b.val) : Nat) : Int) := by decide +kernel

theorem bits_or_nat (a b : Nat) (ha : a < 64) (hb : b < 64) : bits .or .i64 (a : Int) (b : Int) = ((a ||| b : Nat) : Int) := by
  have := orF_fin ⟨a, ha⟩ ⟨b, hb⟩
  simpa using this

theorem bits_and_nat (a b : Nat) (ha : a < 64) (hb : b < 64) : bits .and .i64 (a : Int) (b : Int) = ((a &&& b : Nat) : Int) := by
  have := andF_fin ⟨a, ha⟩ ⟨b, hb⟩
  simpa using this

theorem bits_not_nat (k b : Nat) (hk1 : 1 ≤ k) (hk : k ≤ 6) (hb : b < 64) : bits .andNot .i64 (fullI (k : Int)) (b : Int) = (((2 ^ k - 1) ^^^ ((2 ^ k - 1) &&& b) : Nat) : Int) := by
  have := notF_fin ⟨k - 1, by omega⟩ ⟨b, hb⟩
  simp only [show ((k - 1 : Nat) : Int) + 1 = (k : Int) by omega, show k - 1 + 1 = k by omega] at this
  exact this

theorem pow64 (k : Nat) (hk : k ≤ 6) : 2 ^ k ≤ 64 := Nat.pow_le_pow_right (by decide) hk
theorem demorgan (F s z : Nat) : (F ^^^ (F &&& s)) ||| (F ^^^ (F &&& z)) = F ^^^ (F &&& (s &&& z)) := by
  apply Nat.eq_of_testBit_eq
  intro i
  simp only [Nat.testBit_or, Nat.testBit_xor, Nat.testBit_and]
  cases F.testBit i <;> cases s.testBit i <;> cases z.testBit i <;> rfl

theorem or_other (k : Nat) (hk1 : 1 ≤ k) (hk : k ≤ 6) : ∀ (zs : List Int) (s : Nat), s < 64 → (∀ z ∈ zs, 0 ≤ z ∧ z ≤ fullI (k : Int)) →
    (zs.map fun z => bits .andNot .i64 (fullI (k : Int)) z).foldl (fun s z => bits .or .i64 s z) (bits .andNot .i64 (fullI (k : Int)) (s : Int)) = bits .andNot .i64 (fullI (k : Int)) (zs.foldl (fun s z => bits .and .i64 s z) (s : Int)) := by
  intro zs
  induction zs with
  | nil => intro s _ _; rfl
  | cons z zs ih =>
    intro s hs hz
    have h1 := hz z (by simp)
    have h5 := fullI_63 (m := (k : Int)) (by omega) (by omega)
    obtain ⟨t, rfl⟩ : ∃ t : Nat, z = (t : Int) := ⟨z.toNat, by omega⟩
    have h64 : 2 ^ k ≤ 64 := pow64 k hk
    have hx : ∀ b, (2 ^ k - 1) ^^^ ((2 ^ k - 1) &&& b) < 64 := fun b => Nat.lt_of_lt_of_le (Nat.xor_lt_two_pow (n := k) (by have := Nat.one_le_two_pow (n := k); omega) (Nat.lt_of_le_of_lt Nat.and_le_left (by have := Nat.one_le_two_pow (n := k); omega))) h64
    rw [List.map_cons, List.foldl_cons, List.foldl_cons, bits_not_nat k s hk1 hk hs, bits_not_nat k t hk1 hk (by omega), bits_or_nat _ _ (hx _) (hx _), demorgan, bits_and_nat s t hs (by omega)]
    have hst : s &&& t < 64 := Nat.lt_of_le_of_lt Nat.and_le_left hs
    rw [← bits_not_nat k _ hk1 hk hst]
    exact ih _ hst (fun y hy => hz y (by simp [hy]))

theorem other_facts {m : Int} {zs : List Int} (h : famIn m zs = true) : famIn (otherM m zs) (otherZ m zs) = true ∧ otherM (otherM m zs) (otherZ m zs) = m ∧ otherZ (otherM m zs) (otherZ m zs) = zs ∧ (famAll (otherM m zs) (otherZ m zs) == bits .andNot .i64 (fullI m) (famCommon m zs)) = true := by
  have e1 : otherM m zs = m := by simp [otherM, h]
  have e2 : otherZ m zs = zs.map fun z => bits .andNot .i64 (fullI m) z := by simp [otherZ, h]
  have hf := other_fam h
  obtain ⟨h1, h2, h3, h4⟩ := famIn_out h
  rw [e1, e2]
  refine ⟨hf, by simp [otherM, hf], ?_, ?_⟩
  · rw [otherZ, if_pos hf, List.map_map]
    conv => rhs; rw [← List.map_id zs]
    apply List.map_congr_left
    intro z hz
    exact other_other h1 h2 (h4 z hz).1 (h4 z hz).2
  · rw [famAll, if_pos hf, famCommon, if_pos h, beq_iff_eq]
    obtain ⟨k, rfl⟩ : ∃ k : Nat, m = (k : Int) := ⟨m.toNat, by omega⟩
    have h5 := fullI_63 h1 h2
    have h6 : 0 ≤ fullI (k : Int) := by
      rcases m16 h1 h2 with h | h | h | h | h | h <;> rw [h] <;> decide
    obtain ⟨s, hs⟩ : ∃ s : Nat, fullI (k : Int) = (s : Int) := ⟨(fullI (k : Int)).toNat, by omega⟩
    have := or_other k (by omega) (by omega) zs s (by omega) h4
    have e0 : bits .andNot .i64 (fullI (k : Int)) (s : Int) = 0 := by
      rw [← hs]
      rcases m16 h1 h2 with h | h | h | h | h | h <;> rw [h] <;> decide
    rw [e0, ← hs] at this
    exact this

end Go.Proofs.YtmojkeokkebbfaaDoor
