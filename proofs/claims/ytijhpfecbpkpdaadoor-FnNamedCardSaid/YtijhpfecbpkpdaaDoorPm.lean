/- It is proved how sums of degrees, sizes, unions and meetings of clubs count their members; conditions: those of each statement. -/
import Derived.Test.YtijhpfecbpkpdaaDoorRows
import Derived.WalkKit
import Derived.WalkSpells
import Derived.ProofKit
import Derived.OpenShut
import Derived.ShutString
import Derived.ChangeOld
import Derived.Below
import Derived.Deep.RegionHeld3
import Derived.Deep.QuietTactic
import Derived.BigQuiet
import Derived.Lib.Hide
import Derived.Lib.SmallJoins
import Derived.Outline
import Derived.Laws.MakeOwn
import Derived.Laws.OwnMore
import Derived.IntWalk
import Derived.RangeFuncNested
import Derived.RangeFuncBound
import Derived.RangeFuncCalls
import Derived.RangeFuncLeaves
import Derived.RangeFuncBox
import Derived.Shelf.Abstract
import Derived.Shelf.RegionOpen
import Derived.OwnWalkIn
import Derived.TacticsInMore
import Derived.LoopNIn
import Derived.LoopIn
import Derived.Maps.AppendAt
import Derived.Deep.AppendLies
import Derived.OwnWalk
import Derived.StillTail
import Derived.StillTactics
import Derived.OrdersIn
import Derived.TacticsIn
import Derived.Shelf.Spec.TrailingZeros
import Derived.StillTailTactics
import Derived.Test.YtijhpfecbpkpdaaDoorMg
import Derived.Test.YtijhpfecbpkpdaaDoorDg
import Derived.Test.YtijhpfecbpkpdaaDoorPn
import Derived.Test.YtijhpfecbpkpdaaDoorR
import Derived.Test.YtijhpfecbpkpdaaDoorT
import Derived.Test.YtijhpfecbpkpdaaDoorTO
import Derived.Test.YtijhpfecbpkpdaaDoorTb
import Derived.Test.YtijhpfecbpkpdaaDoorTc
import Derived.Test.YtijhpfecbpkpdaaDoorTd
import Derived.Test.YtijhpfecbpkpdaaDoorUa
import Derived.Test.YtijhpfecbpkpdaaDoorZa
namespace Go.Proofs.YtijhpfecbpkpdaaDoor
open Go.RowKit

theorem sum_ite (f : Nat → Int) (u : Nat) : ∀ k, ((List.range k).map fun v => f v + if u = v then 1 else 0).sum = ((List.range k).map f).sum + if u < k then 1 else 0
  | 0 => by simp
  | k + 1 => by
    rw [List.range_succ, List.map_append, List.map_append, List.sum_append, List.sum_append, sum_ite f u k]
    simp only [List.map_cons, List.map_nil, List.sum_cons, List.sum_nil]
    have e1 : (if u < k + 1 then (1 : Int) else 0) = (if u < k then 1 else 0) + (if u = k then 1 else 0) := by
      split <;> split <;> split <;> omega
    rw [e1]
    generalize (if u < k then (1 : Int) else 0) = p
    generalize (if u = k then (1 : Int) else 0) = q
    omega

theorem sum_deg (k : Nat) : ∀ us : List Nat, (∀ u ∈ us, u < k) → (degL k us).sum = (us.length : Int)
  | [], _ => by rw [degL_nil]; simp
  | u :: us, h => by
    have ih := sum_deg k us (fun x hx => h x (by simp [hx]))
    have hu := h u (by simp)
    have e : degL k (u :: us) = (List.range k).map fun v => ((us.count v : Nat) : Int) + if u = v then 1 else 0 := by
      unfold degL
      apply List.map_congr_left
      intro v _
      rw [List.count_cons]
      by_cases h1 : u = v
      · simp [h1]
      · simp [h1]
    rw [e, sum_ite, if_pos hu]
    rw [show ((List.range k).map fun v => ((us.count v : Nat) : Int)).sum = (degL k us).sum from rfl, ih]
    simp

set_option maxRecDepth 100000 in
theorem pop_mem_fin : ∀ s : Fin 64, pop (s.val : Int) = ((mem s.val).length : Int) := by decide +kernel

theorem pop_mem {s : Nat} (h : s < 64) : pop (s : Int) = ((mem s).length : Int) := pop_mem_fin ⟨s, h⟩
theorem allMem_cons (z : Int) (zs : List Int) : allMem (z :: zs) = mem z.toNat ++ allMem zs := by simp [allMem]
theorem sum_sizes : ∀ zs : List Int, (∀ z ∈ zs, 0 ≤ z ∧ z ≤ 63) → (zs.map pop).sum = ((allMem zs).length : Int)
  | [], _ => by simp [allMem]
  | z :: zs, h => by
    have ih := sum_sizes zs (fun x hx => h x (by simp [hx]))
    have hz := h z (by simp)
    have e := pop_mem (s := z.toNat) (by omega)
    rw [Int.toNat_of_nonneg hz.1] at e
    rw [allMem_cons, List.map_cons, List.sum_cons, ih, e, List.length_append]
    simp

theorem small63 {m : Int} {zs : List Int} (h : famIn m zs = true) : ∀ z ∈ zs, 0 ≤ z ∧ z ≤ 63 := fun z hz => by
  obtain ⟨h1, h2, h3, h4⟩ := famIn_out h
  have := h4 z hz
  have h5 : fullI m ≤ 63 := by rcases m16 h1 h2 with rfl | rfl | rfl | rfl | rfl | rfl <;> decide
  omega

theorem allMem_lt {k : Nat} {zs : List Int} (h : famIn (k : Int) zs = true) : ∀ u ∈ allMem zs, u < k := by
  intro u hu
  obtain ⟨h1, h2, h3, h4⟩ := famIn_out h
  obtain ⟨z, hz, hu⟩ := List.mem_flatMap.1 hu
  have := h4 z hz
  have hf : fullI (k : Int) = ((2 ^ k : Nat) : Int) - 1 := by simp [fullI]
  exact mem_lt k (by omega) z.toNat (by omega) u hu

theorem sums_same {m : Int} {zs : List Int} (h : famIn m zs = true) : (famDeg m zs).sum = (zs.map pop).sum := by
  obtain ⟨h1, h2, h3, h4⟩ := famIn_out h
  obtain ⟨k, rfl⟩ : ∃ k : Nat, m = (k : Int) := ⟨m.toNat, by omega⟩
  rw [famDeg, if_pos h, Int.toNat_natCast, sum_deg k _ (allMem_lt h), sum_sizes zs (small63 h)]

set_option maxRecDepth 100000 in
theorem mem_one_fin : ∀ s : Fin 64, ∀ v : Fin 6, (mem s.val).count v.val = if s.val.testBit v.val then 1 else 0 := by decide +kernel

theorem mem_one {s v : Nat} (hs : s < 64) (hv : v < 6) : (mem s).count v = if s.testBit v then 1 else 0 := mem_one_fin ⟨s, hs⟩ ⟨v, hv⟩
/-- A club has a member. -/
def hasM (v : Nat) (z : Int) : Bool := z.toNat.testBit v

theorem count_all {v : Nat} (hv : v < 6) : ∀ zs : List Int, (∀ z ∈ zs, 0 ≤ z ∧ z ≤ 63) → (allMem zs).count v = zs.countP (hasM v)
  | [], _ => by simp [allMem]
  | z :: zs, h => by
    have ih := count_all hv zs (fun x hx => h x (by simp [hx]))
    have hz := h z (by simp)
    rw [allMem_cons, List.count_append, ih, mem_one (by omega) hv, List.countP_cons]
    unfold hasM
    omega

theorem range_countP (P : Int → Bool) (zs : List Int) : ∀ m, ((List.range m).filter fun i => decide (i < zs.length) && P (zs[i]?.getD 0)).length = (zs.take m).countP P
  | 0 => by simp
  | m + 1 => by
    rw [List.range_succ, List.filter_append, List.length_append, range_countP P zs m]
    by_cases h : m < zs.length
    · rw [List.take_succ_eq_append_getElem h, List.countP_append]
      simp [h, List.filter_cons, List.countP_cons]
      split <;> simp
    · rw [List.take_of_length_le (by omega), List.take_of_length_le (by omega)]
      simp [h]

theorem dual_sizes {k : Nat} {zs : List Int} (h : famIn (k : Int) zs = true) (h6 : zs.length ≤ 6) : (dualL k (prsP (pairs zs zs.length))).map pop = degL k (allMem zs) := by
  obtain ⟨h1, h2, h3, h4⟩ := famIn_out h
  unfold dualL degL
  rw [List.map_map]
  apply List.map_congr_left
  intro v hv
  have hvk : v < k := List.mem_range.1 hv
  have hs : dualBits (prsP (pairs zs zs.length)) v < 64 := Nat.lt_of_lt_of_le (dualBits_pow zs zs.length v) (Nat.pow_le_pow_right (by decide) h6 : 2 ^ zs.length ≤ 2 ^ 6)
  simp only [Function.comp]
  rw [pop_mem hs, count_all (by omega) zs (small63 h)]
  have e := range_countP (hasM v) zs 6
  rw [List.take_of_length_le h6] at e
  rw [← e]
  unfold mem
  congr 2
  apply List.filter_congr
  intro i _
  rw [dualBits_test, Bool.eq_iff_iff]
  simp only [decide_eq_true_eq, Bool.and_eq_true, prs_mem, mem_mem, hasM]
  constructor
  · rintro ⟨h1, -, h2⟩; exact ⟨h1, h2⟩
  · rintro ⟨h1, h2⟩; exact ⟨h1, by omega, h2⟩

theorem orN_is : ∀ (zs : List Int) (s : Nat), s < 64 → (∀ z ∈ zs, 0 ≤ z ∧ z ≤ 63) → ∃ S : Nat, zs.foldl (fun s z => bits .or .i64 s z) (s : Int) = (S : Int) ∧ S < 64 ∧ ∀ v, S.testBit v = (s.testBit v || zs.any (hasM v))
  | [], s, hs, _ => ⟨s, rfl, hs, by simp⟩
  | z :: zs, s, hs, h => by
    have hz := h z (by simp)
    have e := or_fin2 s z.toNat hs (by omega)
    rw [Int.toNat_of_nonneg hz.1] at e
    obtain ⟨S, h1, h2, h3⟩ := orN_is zs (s ||| z.toNat) (Nat.or_lt_two_pow (n := 6) hs (by omega)) (fun x hx => h x (by simp [hx]))
    refine ⟨S, by rw [List.foldl_cons, e]; exact h1, h2, fun v => ?_⟩
    rw [h3, Nat.testBit_or, List.any_cons, hasM, Bool.or_assoc]

theorem andN_is : ∀ (zs : List Int) (s : Nat), s < 64 → (∀ z ∈ zs, 0 ≤ z ∧ z ≤ 63) → ∃ S : Nat, zs.foldl (fun s z => bits .and .i64 s z) (s : Int) = (S : Int) ∧ S < 64 ∧ ∀ v, S.testBit v = (s.testBit v && zs.all (hasM v))
  | [], s, hs, _ => ⟨s, rfl, hs, by simp⟩
  | z :: zs, s, hs, h => by
    have hz := h z (by simp)
    have e := and_fin2 s z.toNat hs (by omega)
    rw [Int.toNat_of_nonneg hz.1] at e
    obtain ⟨S, h1, h2, h3⟩ := andN_is zs (s &&& z.toNat) (Nat.lt_of_le_of_lt Nat.and_le_left hs) (fun x hx => h x (by simp [hx]))
    refine ⟨S, by rw [List.foldl_cons, e]; exact h1, h2, fun v => ?_⟩
    rw [h3, Nat.testBit_and, List.all_cons, hasM, Bool.and_assoc]

theorem bit_val {S v : Nat} (hS : S < 64) (hv : v < 6) : bits BinOp.and IntKind.i64 ((S : Int) / 2 ^ v) 1 = if S.testBit v then 1 else 0 := by
  rw [bit_at S v hS hv]
  have h1 : (S >>> v) &&& 1 = if S.testBit v then 1 else 0 := by
    rw [Nat.testBit, Nat.and_comm]
    have : 1 &&& (S >>> v) ≤ 1 := Nat.and_le_left
    by_cases h0 : 1 &&& (S >>> v) = 0
    · rw [h0]; rfl
    · rw [show 1 &&& (S >>> v) = 1 by omega]; rfl
  rw [h1]
  cases S.testBit v <;> rfl

/-- Unions tell which degrees are not 0. -/
theorem all_facts {k : Nat} {zs : List Int} (h : famIn (k : Int) zs = true) : ∃ S : Nat, famAll (k : Int) zs = (S : Int) ∧ S < 64 ∧ ∀ v, v < k → ((0 < (degL k (allMem zs))[v]?.getD 0) ↔ S.testBit v = true) := by
  obtain ⟨h1, h2, h3, h4⟩ := famIn_out h
  obtain ⟨S, e, hS, ht⟩ := orN_is zs 0 (by decide) (small63 h)
  refine ⟨S, by rw [famAll, if_pos h]; exact e, hS, fun v hv => ?_⟩
  rw [degL_at k _ v hv, Option.getD_some, count_all (by omega) zs (small63 h), ht]
  simp only [Nat.zero_testBit, Bool.false_or, List.any_eq_true]
  rw [← List.countP_pos_iff]
  omega

/-- Meetings tell which degrees are the number of clubs. -/
theorem common_facts {k : Nat} {zs : List Int} (h : famIn (k : Int) zs = true) : ∃ S : Nat, famCommon (k : Int) zs = (S : Int) ∧ S < 64 ∧ ∀ v, v < k → (((degL k (allMem zs))[v]?.getD 0 = (zs.length : Int)) ↔ S.testBit v = true) := by
  obtain ⟨h1, h2, h3, h4⟩ := famIn_out h
  have hf : fullI (k : Int) = ((2 ^ k - 1 : Nat) : Int) := by
    have h1 := Nat.one_le_two_pow (n := k)
    have h0 : ((2 ^ k - 1 : Nat) : Int) = ((2 ^ k : Nat) : Int) - 1 := by omega
    rw [h0]
    simp [fullI]
  have h64 : 2 ^ k - 1 < 64 := by
    have : 2 ^ k ≤ 2 ^ 6 := Nat.pow_le_pow_right (by decide) (by omega)
    omega
  obtain ⟨S, e, hS, ht⟩ := andN_is zs (2 ^ k - 1) h64 (small63 h)
  refine ⟨S, by rw [famCommon, if_pos h, andAll, hf]; exact e, hS, fun v hv => ?_⟩
  rw [degL_at k _ v hv, Option.getD_some, count_all (by omega) zs (small63 h), ht, Nat.testBit_two_pow_sub_one]
  simp only [hv, decide_true, Bool.true_and]
  rw [show (((zs.countP (hasM v) : Nat) : Int) = (zs.length : Int)) ↔ zs.countP (hasM v) = zs.length from by omega, List.countP_eq_length, List.all_eq_true]

end Go.Proofs.YtijhpfecbpkpdaaDoor
