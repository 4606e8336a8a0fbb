/- It is proved that the least number of lines is the number of pairs, and that the greatest lack of the sets of clubs tells both; conditions: those of each statement. -/
import Derived.RowKit
import Derived.Laws.CopyRow
import Derived.Lib.SlBuf
import Derived.Deep.QuietTactic
import Derived.RangeFuncNested
import Derived.RangeFuncBound
import Derived.RangeFuncCalls
import Derived.RangeFuncLeaves
import Derived.RangeFuncBox
import Derived.RangeFuncWrites
import Derived.StillTailTactics
import Derived.Maps.OwnIn
import Derived.Maps.Ext
import Derived.DeepKeys4
import Derived.MapKept
import Derived.Test.YtnkedijlddakbaaDoorRows
import Derived.WalkKit
import Derived.WalkSpells
import Derived.ProofKit
import Derived.OpenShut
import Derived.ShutString
import Derived.ChangeOld
import Derived.Below
import Derived.Deep.RegionHeld3
import Derived.BigQuiet
import Derived.Lib.Hide
import Derived.Lib.SmallJoins
import Derived.Outline
import Derived.Laws.MakeOwn
import Derived.Laws.OwnMore
import Derived.IntWalk
import Derived.Maps.AppendAt
import Derived.Lib.AppendZeros
import Derived.Deep.AppendLies
import Derived.OwnWalk
import Derived.Lib.SlicesCompact
import Derived.Lib.OwnBridge
import Derived.OrdersIn
import Derived.TacticsIn
import Derived.Shelf.Sort.Plain
import Derived.Shelf.Slices.In.SortNone
import Derived.Shelf.Slices.CompactI
import Derived.Ground.Names2Prog
import Derived.Lib.SliceRun
import Derived.Shelf.RegionOpen
import Derived.Shelf.Abstract
import Derived.OwnWalkIn
import Derived.TacticsInMore
import Derived.LoopNIn
import Derived.LoopIn
import Derived.StillTail
import Derived.StillTactics
import Derived.Shelf.Spec.TrailingZeros
import Derived.Test.YtnkedijlddakbaaDoorMrab
import Derived.Test.YtnkedijlddakbaaDoorHu
import Derived.Test.YtnkedijlddakbaaDoorMrae
import Derived.Test.YtnkedijlddakbaaDoorMrag
import Derived.Test.YtnkedijlddakbaaDoorMrah
import Derived.Test.YtnkedijlddakbaaDoorMa
import Derived.Test.YtnkedijlddakbaaDoorMb
import Derived.Test.YtnkedijlddakbaaDoorMrao
import Derived.Test.YtnkedijlddakbaaDoorMk
import Derived.Test.YtnkedijlddakbaaDoorMl
import Derived.Test.YtnkedijlddakbaaDoorMraf
namespace Go.Proofs.YtnkedijlddakbaaDoor
open Go.RowKit Go.Shelf

theorem leG_and_fin : ∀ o : Fin 64, ∀ z : Fin 64, leG (o.val : Int) (z.val : Int) = decide (o.val &&& z.val = o.val) := by decide +kernel
theorem leG_bits64 {z : Int} {t : Nat} (hz : 0 ≤ z) (hz6 : z.toNat < 64) (ht : t < 64) : leG z (t : Int) = true ↔ ∀ v, z.toNat.testBit v = true → t.testBit v = true := by
  obtain ⟨o, rfl⟩ : ∃ o : Nat, z = (o : Int) := ⟨z.toNat, by omega⟩
  rw [leG_and_fin ⟨o, by simpa using hz6⟩ ⟨t, ht⟩]
  simp only [decide_eq_true_eq, Int.toNat_natCast]
  constructor
  · intro h v hv
    have h2 := congrArg (·.testBit v) h
    simp only [Nat.testBit_and, hv, Bool.true_and] at h2
    exact h2
  · intro h
    apply Nat.eq_of_testBit_eq
    intro v
    rw [Nat.testBit_and]
    cases hv : o.testBit v
    · rfl
    · rw [h v hv]; rfl

theorem outN_cons (z : Int) (zs : List Int) (t : Nat) : outN (z :: zs) t = (if leG z (t : Int) then 0 else 1) + outN zs t := by
  unfold outN
  rw [List.filter_cons]
  cases h : leG z (t : Int) <;> simp [h]
  omega

theorem in_some : ∀ (zs : List Int) (t : Nat), t < 64 → (∀ z ∈ zs, 0 ≤ z ∧ z.toNat < 64) →
    ∃ p, p < 2 ^ zs.length ∧ cntK zs.length p + outN zs t = zs.length ∧ ∀ v, (togK zs p).testBit v = true → t.testBit v = true
  | [], t, _, _ => ⟨0, by simp, by simp [cntK, memK, outN], fun v hv => by
      obtain ⟨i, hi, _⟩ := tog_bit.1 hv
      simp at hi⟩
  | z :: zs, t, ht, hz => by
      obtain ⟨q, hq, hc, hs⟩ := in_some zs t ht fun x hx => hz x (List.mem_cons_of_mem _ hx)
      obtain ⟨z0, z6⟩ := hz z (List.mem_cons_self ..)
      cases hl : leG z (t : Int)
      · refine ⟨2 * q + 0, by rw [List.length_cons, Nat.pow_succ]; omega, ?_, fun v hv => ?_⟩
        · rw [outN_cons, hl, List.length_cons, cnt_two _ _ _ (by decide)]
          simp only [Bool.false_eq_true, if_false]
          omega
        · rw [tog_two z zs q 0 v (by decide)] at hv
          simp only [Nat.zero_ne_one, decide_false, Bool.false_and, Bool.false_or] at hv
          exact hs v hv
      · refine ⟨2 * q + 1, by rw [List.length_cons, Nat.pow_succ]; omega, ?_, fun v hv => ?_⟩
        · rw [outN_cons, hl, List.length_cons, cnt_two _ _ _ (by decide)]
          simp only [if_true]
          omega
        · rw [tog_two z zs q 1 v (by decide)] at hv
          simp only [decide_true, Bool.true_and, Bool.or_eq_true] at hv
          rcases hv with hv | hv
          · exact (leG_bits64 z0 z6 ht).1 hl v hv
          · exact hs v hv

theorem in_most : ∀ (zs : List Int) (t p : Nat), t < 64 → (∀ z ∈ zs, 0 ≤ z ∧ z.toNat < 64) → p < 2 ^ zs.length → (∀ v, (togK zs p).testBit v = true → t.testBit v = true) →
    cntK zs.length p + outN zs t ≤ zs.length
  | [], t, p, _, _, _, _ => by simp [cntK, memK, outN]
  | z :: zs, t, p, ht, hz, hp, hs => by
      obtain ⟨z0, z6⟩ := hz z (List.mem_cons_self ..)
      obtain ⟨q, hqe⟩ : ∃ q, q = p / 2 := ⟨_, rfl⟩
      obtain ⟨b, hbe⟩ : ∃ b, b = p % 2 := ⟨_, rfl⟩
      have hb : b < 2 := by omega
      have hpe : p = 2 * q + b := by omega
      rw [List.length_cons, Nat.pow_succ] at hp
      subst hpe
      have ih := in_most zs t q ht (fun x hx => hz x (List.mem_cons_of_mem _ hx)) (by omega) fun v hv => hs v (by rw [tog_two z zs q b v hb, hv, Bool.or_true])
      rw [outN_cons, List.length_cons, cnt_two _ _ _ hb]
      by_cases h1 : b = 1
      · have hl : leG z (t : Int) = true := (leG_bits64 z0 z6 ht).2 fun v hv => hs v (by rw [tog_two z zs q b v hb, h1, hv]; simp)
        rw [hl]
        simp only [if_true]
        omega
      · have : (if leG z (t : Int) = true then 0 else 1) ≤ 1 := by split <;> omega
        omega

theorem cnt_more (k p : Nat) (hp : p < 2 ^ k) : ∀ d, cntK (k + d) p = cntK k p
  | 0 => rfl
  | d + 1 => by
      have hb : p.testBit (k + d) = false := Nat.testBit_lt_two_pow (Nat.lt_of_lt_of_le hp (Nat.pow_le_pow_right (n := 2) (by decide) (by omega)))
      have := cnt_more k p hp d
      unfold cntK at this ⊢
      rw [← Nat.add_assoc, memK_succ, hb]
      simpa using this

theorem tog_in {k : Nat} {zs : List Int} (hz : Sets k zs) (p : Nat) : ∀ v, (togK zs p).testBit v = true → (2 ^ k - 1).testBit v = true := fun v hv => by
  obtain ⟨i, hi, -, h3⟩ := tog_bit.1 hv
  obtain ⟨-, hz2⟩ := hz.at_ i hi
  rw [Nat.testBit_two_pow_sub_one, decide_eq_true_eq]
  refine Classical.byContradiction fun hn => ?_
  rw [Nat.testBit_lt_two_pow (Nat.lt_of_lt_of_le hz2 (Nat.pow_le_pow_right (n := 2) (by decide) (by omega)))] at h3
  exact Bool.noConfusion h3

theorem tog_all {k : Nat} {zs : List Int} (hz : Sets k zs) (p : Nat) : togK zs p &&& (2 ^ k - 1) = togK zs p := by
  apply Nat.eq_of_testBit_eq
  intro v
  rw [Nat.testBit_and]
  cases hv : (togK zs p).testBit v
  · rfl
  · rw [tog_in hz p v hv]; rfl

theorem lines_pairs {k : Nat} {zs : List Int} (hk : k ≤ 6) (hz : Sets k zs) (h8 : zs.length ≤ 8) : linL k zs = matM zs (2 ^ k - 1) := by
  have hp1 : 1 ≤ 2 ^ k := Nat.one_le_two_pow
  have hp6 : 2 ^ k ≤ 64 := Nat.pow_le_pow_right (n := 2) (by decide) hk
  have hz6 : ∀ z ∈ zs, 0 ≤ z ∧ z.toNat < 64 := fun z hm => ⟨(hz z hm).1, Nat.lt_of_lt_of_le (hz z hm).2 hp6⟩
  obtain ⟨o1, p, hp, o2⟩ := ore zs (2 ^ k - 1) (by omega)
  have hml := matM_le zs (2 ^ k - 1) (by omega)
  unfold linL
  refine Nat.le_antisymm ?_ ?_
  · have ht : togK zs p < 2 ^ k := by
      have : togK zs p ≤ 2 ^ k - 1 := by rw [← tog_all hz p]; exact Nat.and_le_right
      omega
    have h1 := (minF_le zs (List.range (2 ^ k)) zs.length).2 (togK zs p) (List.mem_range.2 ht)
    have h2 := in_most zs (togK zs p) p (by omega) hz6 hp fun _ h => h
    unfold overK at o2
    rw [tog_all hz p] at o2
    have h3 : linN zs (togK zs p) = cntK 8 (togK zs p) + outN zs (togK zs p) := rfl
    omega
  · rcases minF_is zs (List.range (2 ^ k)) zs.length with h | ⟨t, ht, h⟩
    · rw [h]; exact hml
    · rw [h]
      have ht2 := List.mem_range.1 ht
      obtain ⟨q, hq, hc, hs⟩ := in_some zs t (by omega) hz6
      have h1 := o1 q hq
      unfold overK at h1
      rw [tog_all hz q] at h1
      have h2 : cntK 8 (togK zs q) ≤ cntK 8 t := cntK_le hs
      have h3 : linN zs t = cntK 8 t + outN zs t := rfl
      omega

theorem linZ_prsZ (m : Int) (zs : List Int) : linZ m zs = prsZ m zs := by
  unfold linZ prsZ
  cases hf : famIn m zs
  · rfl
  · obtain ⟨k, rfl, h1, h6, hz, h8⟩ := fam_nat2 hf
    rw [if_pos rfl, if_pos rfl, Int.toNat_natCast, lines_pairs h6 hz h8]

/-- The greatest lack among the first sets of clubs. -/
def lackP (zs : List Int) : Nat → Int
  | 0 => 0
  | n + 1 => max (lackP zs n) (overP zs n)

theorem lackP_bound (zs : List Int) : ∀ n, 0 ≤ lackP zs n ∧ lackP zs n ≤ 8
  | 0 => by simp [lackP]
  | n + 1 => by
      have := lackP_bound zs n
      have := overP_bound zs n
      unfold lackP
      omega

theorem lackP_ge (zs : List Int) (p : Nat) : ∀ n, p < n → overP zs p ≤ lackP zs n
  | n + 1, h => by
      unfold lackP
      by_cases e : p = n
      · subst e; omega
      · have := lackP_ge zs p n (by omega)
        omega

theorem lackP_le (zs : List Int) (c : Int) (hc : 0 ≤ c) : ∀ n, (∀ p, p < n → overP zs p ≤ c) → lackP zs n ≤ c
  | 0, _ => hc
  | n + 1, h => by
      have h1 := lackP_le zs c hc n fun p hp => h p (by omega)
      have h2 := h n (by omega)
      unfold lackP
      omega

theorem lack_pairs {m : Int} {zs : List Int} (hf : famIn m zs = true) : prsZ m zs = (zs.length : Int) - lackP zs (2 ^ zs.length) := by
  obtain ⟨k, rfl, h1, h6, hz, h8⟩ := fam_nat2 hf
  have hp1 : 1 ≤ 2 ^ k := Nat.one_le_two_pow
  have hp6 : 2 ^ k ≤ 64 := Nat.pow_le_pow_right (n := 2) (by decide) h6
  obtain ⟨o1, p, hp, o2⟩ := ore zs (2 ^ k - 1) (by omega)
  have hml := matM_le zs (2 ^ k - 1) (by omega)
  have ho : ∀ q, q < 2 ^ zs.length → overK zs (2 ^ k - 1) q = overP zs q := fun q hq => by
    unfold overK overP
    rw [tog_all hz q, show (8 : Nat) = zs.length + (8 - zs.length) from by omega, cnt_more _ _ hq, ← show (8 : Nat) = zs.length + (8 - zs.length) from by omega]
  have hu := lackP_le zs ((zs.length : Int) - (matM zs (2 ^ k - 1) : Nat)) (by omega) (2 ^ zs.length) fun q hq => by
    have := o1 q hq
    rw [ho q hq] at this
    omega
  have hd := lackP_ge zs p (2 ^ zs.length) hp
  rw [ho p hp] at o2
  unfold prsZ
  rw [hf, if_pos rfl, Int.toNat_natCast]
  omega

end Go.Proofs.YtnkedijlddakbaaDoor
