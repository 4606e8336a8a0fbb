/- It is proved what FamilyDual of the model returns where there is none, and what both return; conditions: those of each statement. -/
import Derived.Test.YtgpgocijacgkhaaDoorRows
import Derived.WalkKit
import Derived.WalkSpells
import Derived.ProofKit
import Derived.OpenShut
import Derived.ShutString
import Derived.ChangeOld
import Derived.Below
import Derived.Deep.RegionHeld3
import Derived.Deep.QuietTactic
import Derived.BigQuiet
import Derived.Lib.Hide
import Derived.Lib.SmallJoins
import Derived.Outline
import Derived.Laws.MakeOwn
import Derived.Laws.OwnMore
import Derived.IntWalk
import Derived.RangeFuncNested
import Derived.RangeFuncBound
import Derived.RangeFuncCalls
import Derived.RangeFuncLeaves
import Derived.RangeFuncBox
import Derived.Shelf.Abstract
import Derived.Shelf.RegionOpen
import Derived.OwnWalkIn
import Derived.TacticsInMore
import Derived.LoopNIn
import Derived.LoopIn
import Derived.Maps.AppendAt
import Derived.Deep.AppendLies
import Derived.OwnWalk
import Derived.StillTail
import Derived.StillTactics
import Derived.OrdersIn
import Derived.TacticsIn
import Derived.Shelf.Spec.TrailingZeros
import Derived.StillTailTactics
import Derived.Test.YtgpgocijacgkhaaDoorRaaa
import Derived.Test.YtgpgocijacgkhaaDoorRaab
import Derived.Test.YtgpgocijacgkhaaDoorRaac
import Derived.Test.YtgpgocijacgkhaaDoorRaae
import Derived.Test.YtgpgocijacgkhaaDoorUb
import Derived.Lib.AppendZeros
import Derived.Lib.SlicesCompact
import Derived.Lib.OwnBridge
import Derived.Shelf.Sort.Plain
import Derived.Shelf.Slices.In.SortNone
import Derived.Shelf.Slices.CompactI
import Derived.Ground.Names2Prog
import Derived.Lib.SliceRun
namespace Go.Proofs.YtgpgocijacgkhaaDoor
open Go.RowKit

theorem dualIn_split (m : Int) (zs : List Int) : dualIn m zs = (famIn m zs && inB (zs.length : Int) 1 6) := by
  simp only [dualIn, inB]
  congr 1
  have h1 : decide (1 ≤ zs.length) = decide ((1 : Int) ≤ (zs.length : Int)) := by simp; omega
  have h2 : decide (zs.length ≤ 6) = decide ((zs.length : Int) ≤ 6) := by simp; omega
  rw [h1, h2]

theorem implDual_any (m : Int) (a : Option Addr) (c : Nat) (zs : List Int) (w : World) (ha : Ints w w.heap.size a zs) (hT : Tab w) (hx : zs.length ≤ 1048576) :
    Calls Tryd.prog 19 #[.agg #[.int .i64 m, .slice a zs.length c]] w (RetFB w (dualM m zs) (dualZ m zs) (dualIn m zs)) := by
  unfold dualM dualZ
  cases hd : dualIn m zs
  · exact implDual_no m a c zs w ha hx hd
  · have h : famIn m zs = true := by simp only [dualIn, Bool.and_eq_true] at hd; exact hd.1
    obtain ⟨hm1, hm6, -, -⟩ := famIn_out h
    obtain ⟨k, rfl⟩ : ∃ k : Nat, m = (k : Int) := ⟨m.toNat, by omega⟩
    simp only [dualIn, Bool.and_eq_true, decide_eq_true_eq] at hd
    exact implDual_yes k a c zs w ha hT hx h hd.2.1 hd.2.2

end Go.Proofs.YtgpgocijacgkhaaDoor

/- It is proved that the dual of a dual is the family; conditions: those of each statement. -/
namespace Go.Proofs.YtgpgocijacgkhaaDoor
open Go.RowKit

theorem mem_mem (s v : Nat) : v ∈ mem s ↔ v < 6 ∧ s.testBit v = true := by simp [mem]
theorem dualBits_test (ps : List (Nat × Nat)) (v i : Nat) : (dualBits ps v).testBit i = decide ((i, v) ∈ ps) := by
  have key : ∀ (l : List (Nat × Nat)) (t : Nat), (l.foldl (fun t p => if p.2 = v then t ||| 2 ^ p.1 else t) t).testBit i = (t.testBit i || decide ((i, v) ∈ l)) := by
    intro l
    induction l with
    | nil => intro t; simp
    | cons x l ih =>
      intro t
      rw [List.foldl_cons, ih]
      by_cases h : x.2 = v
      · rw [if_pos h, Nat.testBit_or, Nat.testBit_two_pow]
        by_cases h2 : x.1 = i
        · have : x = (i, v) := by rw [← h, ← h2]
          simp [this]
        · have h3 : ¬ (i, v) = x := fun e => h2 (by rw [← e])
          simp [h2, h3]
      · rw [if_neg h]
        have h3 : ¬ (i, v) = x := fun e => h (by rw [← e])
        simp [h3]
  have := key ps 0
  simpa [dualBits] using this

theorem prs_mem (zs : List Int) (n i v : Nat) : (i, v) ∈ prsP (pairs zs n) ↔ i < n ∧ v ∈ mem (zs[i]?.getD 0).toNat := by
  simp only [prsP, List.mem_flatMap, List.mem_map, pairs, List.mem_range]
  constructor
  · rintro ⟨p, ⟨j, hj, rfl⟩, u, hu, he⟩
    injection he with e1 e2
    subst e1; subst e2
    exact ⟨hj, hu⟩
  · rintro ⟨h1, h2⟩
    exact ⟨_, ⟨i, h1, rfl⟩, v, h2, rfl⟩

theorem dualBits_pow (zs : List Int) (n v : Nat) : dualBits (prsP (pairs zs n)) v < 2 ^ n := by
  apply Nat.lt_pow_two_of_testBit
  intro i hi
  rw [dualBits_test]
  simp only [decide_eq_false_iff_not, prs_mem]
  omega

theorem dual_dual (k : Nat) (zs : List Int) (hf : famIn (k : Int) zs = true) (h1 : 1 ≤ zs.length) (h6 : zs.length ≤ 6) :
    dualIn (zs.length : Int) (dualL k (prsP (pairs zs zs.length))) = true ∧
    dualM (zs.length : Int) (dualL k (prsP (pairs zs zs.length))) = (k : Int) ∧
    dualZ (zs.length : Int) (dualL k (prsP (pairs zs zs.length))) = zs := by
  obtain ⟨hm1, hm6, hl8, hz⟩ := famIn_out hf
  obtain ⟨n, hn⟩ : ∃ n, n = zs.length := ⟨_, rfl⟩
  rw [← hn] at h1 h6 ⊢
  have hfull : ∀ m : Nat, fullI (m : Int) = ((2 ^ m : Nat) : Int) - 1 := fun m => by simp [fullI]
  have hin : dualIn (n : Int) (dualL k (prsP (pairs zs n))) = true := by
    rw [dualIn_split, dualL_length, Bool.and_eq_true]
    refine ⟨?_, inB_true (by omega) (by omega)⟩
    simp only [famIn, Bool.and_eq_true, decide_eq_true_eq, List.all_eq_true]
    refine ⟨inB_true (by omega) (by omega), by rw [dualL_length]; omega, fun z hz' => ?_⟩
    obtain ⟨v, hv, rfl⟩ := List.mem_map.1 hz'
    have := dualBits_pow zs n v
    exact inB_true (by omega) (by rw [hfull]; omega)
  refine ⟨hin, by rw [dualM, if_pos hin, dualL_length], ?_⟩
  rw [dualZ, if_pos hin, dualL_length]
  apply List.ext_getElem
  · rw [dualL_length]; omega
  · intro v g1 g2
    have hvn : v < n := by rw [dualL_length] at g1; omega
    have hzv := hz zs[v] (List.getElem_mem _)
    rw [hfull] at hzv
    have hzn : zs[v].toNat < 2 ^ k := by omega
    have e1 : (dualL ((n : Int).toNat) (prsP (pairs (dualL k (prsP (pairs zs n))) k)))[v] = ((dualBits (prsP (pairs (dualL k (prsP (pairs zs n))) k)) v : Nat) : Int) := by simp [dualL]
    rw [e1]
    have e2 : dualBits (prsP (pairs (dualL k (prsP (pairs zs n))) k)) v = zs[v].toNat := by
      apply Nat.eq_of_testBit_eq
      intro u
      rw [dualBits_test]
      have h2 : ((u, v) ∈ prsP (pairs (dualL k (prsP (pairs zs n))) k)) ↔ zs[v].toNat.testBit u = true := by
        rw [prs_mem]
        constructor
        · rintro ⟨hu, hm⟩
          rw [dualL_at _ _ _ hu, Option.getD_some, Int.toNat_natCast, mem_mem, dualBits_test, decide_eq_true_eq, prs_mem] at hm
          have h3 := (mem_mem _ _).1 hm.2.2
          rw [show zs[v]?.getD 0 = zs[v] from by simp [g2]] at h3
          exact h3.2
        · intro ht
          have hu : u < k := by
            rcases Nat.lt_or_ge u k with h | h
            · exact h
            · rw [Nat.testBit_lt_two_pow (Nat.lt_of_lt_of_le hzn (Nat.pow_le_pow_right (by decide) h))] at ht; cases ht
          refine ⟨hu, ?_⟩
          rw [dualL_at _ _ _ hu, Option.getD_some, Int.toNat_natCast, mem_mem, dualBits_test, decide_eq_true_eq, prs_mem, mem_mem]
          rw [show zs[v]?.getD 0 = zs[v] from by simp [g2]]
          exact ⟨by omega, hvn, by omega, ht⟩
      cases hb : zs[v].toNat.testBit u
      · simp only [decide_eq_false_iff_not, h2, hb]; decide
      · simp only [decide_eq_true_eq, h2, hb]
    rw [e2]
    omega

end Go.Proofs.YtgpgocijacgkhaaDoor

/- It is proved what the closures of FamilyLeast, FamilyGreatest and without return; conditions: those of each statement. -/
namespace Go.Proofs.YtgpgocijacgkhaaDoor
open Go.RowKit Go.Shelf

attribute [local go_sem] Oper.semAt_some

def leG (o z : Int) : Bool := bits .andNot .i64 o z == 0
theorem partOf_any (c d : Int) (w : World) : Calls Tryd.prog 93 #[.int .i64 c, .int .i64 d] w fun e w' => e = .returned (.bool (leG c d)) ∧ w = w' := by
  go_enter Tryd.func93, Tryd.ntmps93
  go_wp2
  go_ret
  exact ⟨rfl, rfl⟩

end Go.Proofs.YtgpgocijacgkhaaDoor

/- It is proved that the greatest pack told club by club is the greatest one of all sets of places; conditions: those of each statement. -/
namespace Go.Proofs.YtgpgocijacgkhaaDoor
open Go.RowKit

/-- The places of a set, of the first k. -/
def memK (k p : Nat) : List Nat := (List.range k).filter fun i => p.testBit i

theorem memK_two (k b q : Nat) (hb : b < 2) : memK (k + 1) (2 * q + b) = (if b = 1 then [0] else []) ++ (memK k q).map (· + 1) := by
  unfold memK
  rw [List.range_succ_eq_map, List.filter_cons, List.filter_map]
  have h0 : (2 * q + b).testBit 0 = decide (b = 1) := by
    rw [Nat.testBit_zero]
    congr 1
    rw [eq_iff_iff]
    omega
  have h1 : ((fun i => (2 * q + b).testBit i) ∘ Nat.succ) = fun i => q.testBit i := by
    funext i
    simp only [Function.comp, Nat.succ_eq_add_one, Nat.testBit_succ]
    rw [show (2 * q + b) / 2 = q by omega]
  rw [h0, h1]
  by_cases h : b = 1
  · simp [h]
  · simp [h]

/-- No two clubs at some places have a common member, nor one with a set. -/
def packB (zs : List Int) : List Nat → Nat → Bool
  | [], _ => true
  | p :: ps, met => decide ((zs[p]?.getD 0).toNat &&& met = 0) && packB zs ps (met ||| (zs[p]?.getD 0).toNat)

theorem packB_shift (z : Int) (zs : List Int) : ∀ (ps : List Nat) (met : Nat), packB (z :: zs) (ps.map (· + 1)) met = packB zs ps met
  | [], _ => rfl
  | p :: ps, met => by
    rw [List.map_cons, packB, packB, packB_shift z zs ps]
    rfl

/-- .. told club by club. -/
def packM : List Int → Nat → Nat
  | [], _ => 0
  | z :: zs, used => if z.toNat &&& used = 0 then max (packM zs used) (1 + packM zs (used ||| z.toNat)) else packM zs used

def IsMost (zs : List Int) (met n : Nat) : Prop := (∀ q, q < 2 ^ zs.length → packB zs (memK zs.length q) met = true → (memK zs.length q).length ≤ n) ∧ ∃ q, q < 2 ^ zs.length ∧ packB zs (memK zs.length q) met = true ∧ (memK zs.length q).length = n
theorem packM_most : ∀ (zs : List Int) (met : Nat), IsMost zs met (packM zs met)
  | [], met => ⟨fun q _ _ => by simp [memK], 0, by simp, rfl, rfl⟩
  | z :: zs, met => by
    obtain ⟨a1, q1, a2, a3, a4⟩ := packM_most zs met
    obtain ⟨b1, q2, b2, b3, b4⟩ := packM_most zs (met ||| z.toNat)
    have h00 : ∀ q, packB (z :: zs) (memK (zs.length + 1) (2 * q + 0)) met = packB zs (memK zs.length q) met := fun q => by
      rw [memK_two _ 0 q (by decide), if_neg (by decide), List.nil_append, packB_shift]
    have h01 : ∀ q, (memK (zs.length + 1) (2 * q + 0)).length = (memK zs.length q).length := fun q => by
      rw [memK_two _ 0 q (by decide), if_neg (by decide), List.nil_append, List.length_map]
    have h10 : ∀ q, packB (z :: zs) (memK (zs.length + 1) (2 * q + 1)) met = (decide (z.toNat &&& met = 0) && packB zs (memK zs.length q) (met ||| z.toNat)) := fun q => by
      rw [memK_two _ 1 q (by decide), if_pos rfl, List.singleton_append, packB, packB_shift]
      rfl
    have h11 : ∀ q, (memK (zs.length + 1) (2 * q + 1)).length = 1 + (memK zs.length q).length := fun q => by
      rw [memK_two _ 1 q (by decide), if_pos rfl, List.singleton_append, List.length_cons, List.length_map]; omega
    have hp : 2 ^ (z :: zs).length = 2 * 2 ^ zs.length := by rw [List.length_cons, Nat.pow_succ]; omega
    constructor
    · intro q hq hb
      rw [List.length_cons] at hb ⊢
      rcases Nat.mod_two_eq_zero_or_one q with h | h
      · obtain ⟨r, rfl⟩ : ∃ r, q = 2 * r + 0 := ⟨q / 2, by omega⟩
        rw [h00] at hb
        rw [h01]
        have := a1 r (by omega) hb
        rw [packM]; split <;> omega
      · obtain ⟨r, rfl⟩ : ∃ r, q = 2 * r + 1 := ⟨q / 2, by omega⟩
        rw [h10, Bool.and_eq_true, decide_eq_true_eq] at hb
        rw [h11, packM, if_pos hb.1]
        have := b1 r (by omega) hb.2
        omega
    · rw [packM]
      by_cases hz : z.toNat &&& met = 0
      · rw [if_pos hz]
        by_cases hm : packM zs met ≤ 1 + packM zs (met ||| z.toNat)
        · refine ⟨2 * q2 + 1, by omega, ?_, ?_⟩
          · rw [List.length_cons, h10, b3, hz]; rfl
          · rw [List.length_cons, h11, b4]; omega
        · refine ⟨2 * q1 + 0, by omega, ?_, ?_⟩
          · rw [List.length_cons, h00, a3]
          · rw [List.length_cons, h01, a4]; omega
      · rw [if_neg hz]
        refine ⟨2 * q1 + 0, by omega, ?_, ?_⟩
        · rw [List.length_cons, h00, a3]
        · rw [List.length_cons, h01, a4]

/-- .. and set by set. -/
def mostTo (zs : List Int) (n : Nat) : Nat := (List.range n).foldl (fun b q => if packB zs (memK zs.length q) 0 then max b (memK zs.length q).length else b) 0

theorem mostTo_succ (zs : List Int) (n : Nat) : mostTo zs (n + 1) = if packB zs (memK zs.length n) 0 then max (mostTo zs n) (memK zs.length n).length else mostTo zs n := by
  simp [mostTo, List.range_succ]

theorem mostTo_ge (zs : List Int) : ∀ n q, q < n → packB zs (memK zs.length q) 0 = true → (memK zs.length q).length ≤ mostTo zs n
  | 0, q, h, _ => by omega
  | n + 1, q, h, hb => by
    rw [mostTo_succ]
    by_cases e : q = n
    · subst e; rw [if_pos hb]; omega
    · have := mostTo_ge zs n q (by omega) hb
      split <;> omega

theorem mostTo_le (zs : List Int) (N : Nat) (h : ∀ q, q < 2 ^ zs.length → packB zs (memK zs.length q) 0 = true → (memK zs.length q).length ≤ N) : ∀ n, n ≤ 2 ^ zs.length → mostTo zs n ≤ N
  | 0, _ => by simp [mostTo]
  | n + 1, hn => by
    have h1 := mostTo_le zs N h n (by omega)
    rw [mostTo_succ]
    split
    · rename_i hb
      have := h n (by omega) hb
      omega
    · exact h1

theorem most_all (zs : List Int) : mostTo zs (2 ^ zs.length) = packM zs 0 := by
  obtain ⟨h1, q, h2, h3, h4⟩ := packM_most zs 0
  have := mostTo_ge zs _ q h2 h3
  have := mostTo_le zs _ h1 _ (Nat.le_refl _)
  omega

end Go.Proofs.YtgpgocijacgkhaaDoor
