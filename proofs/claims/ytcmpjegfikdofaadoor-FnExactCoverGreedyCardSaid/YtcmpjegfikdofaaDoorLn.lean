/- It is proved how the greedy cover is told by the numbers of clubs that are missed; conditions: those of each statement. -/
import Derived.RowKit
import Derived.Laws.CopyRow
import Derived.Lib.SlBuf
import Derived.Deep.QuietTactic
import Derived.RangeFuncNested
import Derived.RangeFuncBound
import Derived.RangeFuncCalls
import Derived.RangeFuncLeaves
import Derived.RangeFuncBox
import Derived.RangeFuncWrites
import Derived.StillTailTactics
import Derived.Maps.OwnIn
import Derived.Maps.Ext
import Derived.DeepKeys4
import Derived.MapKept
import Derived.Test.YtcmpjegfikdofaaDoorRows
import Derived.WalkKit
import Derived.WalkSpells
import Derived.ProofKit
import Derived.OpenShut
import Derived.ShutString
import Derived.ChangeOld
import Derived.Below
import Derived.Deep.RegionHeld3
import Derived.BigQuiet
import Derived.Lib.Hide
import Derived.Lib.SmallJoins
import Derived.Outline
import Derived.Laws.MakeOwn
import Derived.Laws.OwnMore
import Derived.IntWalk
import Derived.Lib.AppendZeros
import Derived.Maps.AppendAt
import Derived.Deep.AppendLies
import Derived.OwnWalk
import Derived.Lib.SlicesCompact
import Derived.Lib.OwnBridge
import Derived.OrdersIn
import Derived.TacticsIn
import Derived.Shelf.Sort.Plain
import Derived.Shelf.Slices.In.SortNone
import Derived.Shelf.Slices.CompactI
import Derived.Ground.Names2Prog
import Derived.Lib.SliceRun
import Derived.Shelf.Abstract
import Derived.Shelf.RegionOpen
import Derived.OwnWalkIn
import Derived.TacticsInMore
import Derived.LoopNIn
import Derived.LoopIn
import Derived.StillTail
import Derived.StillTactics
import Derived.Shelf.Spec.TrailingZeros
import Derived.Test.YtcmpjegfikdofaaDoorMrae
import Derived.Test.YtcmpjegfikdofaaDoorMrag
import Derived.Test.YtcmpjegfikdofaaDoorKa
import Derived.Test.YtcmpjegfikdofaaDoorKc
import Derived.Test.YtcmpjegfikdofaaDoorMrao
import Derived.Test.YtcmpjegfikdofaaDoorMrap
namespace Go.Proofs.YtcmpjegfikdofaaDoor
open Go.RowKit

/-- In how many clubs without a member in a set a member is. -/
def dgN (zs : List Int) (s v : Nat) : Nat := ((missL zs s).filter fun z => z.toNat.testBit v).length

theorem dgN_le (zs : List Int) (s v : Nat) : dgN zs s v ≤ zs.length := Nat.le_trans (List.length_filter_le _ _) (missL_len zs s)
/-- The first place of the greatest number, and this. -/
def bestP (d : Nat → Nat) : Nat → Nat × Nat
  | 0 => (0, 0)
  | j + 1 => if (bestP d j).2 < d j then (j, d j) else bestP d j

theorem bestP_ge (d : Nat → Nat) : ∀ j v, v < j → d v ≤ (bestP d j).2
  | 0, v, h => by omega
  | j + 1, v, h => by
    rw [bestP]
    split
    · rename_i h1
      by_cases e : v = j
      · subst e; exact Nat.le_refl _
      · have := bestP_ge d j v (by omega); simp only; omega
    · rename_i h1
      by_cases e : v = j
      · subst e; omega
      · exact bestP_ge d j v (by omega)

theorem bestP_is (d : Nat → Nat) : ∀ j, (bestP d j).2 = 0 ∧ (bestP d j).1 = 0 ∨ ((bestP d j).1 < j ∧ d (bestP d j).1 = (bestP d j).2 ∧ ∀ i, i < (bestP d j).1 → d i < (bestP d j).2)
  | 0 => .inl ⟨rfl, rfl⟩
  | j + 1 => by
    rw [bestP]
    split
    · rename_i h1
      refine .inr ⟨by simp, rfl, fun i hi => ?_⟩
      have := bestP_ge d j i hi
      simp only; omega
    · rcases bestP_is d j with h | ⟨h1, h2, h3⟩
      · exact .inl h
      · exact .inr ⟨by omega, h2, h3⟩

theorem bestP_small (d : Nat → Nat) (N : Nat) (h : ∀ v, d v ≤ N) : ∀ j, (bestP d j).2 ≤ N ∧ (bestP d j).1 ≤ j
  | 0 => ⟨Nat.zero_le _, Nat.le_refl _⟩
  | j + 1 => by
    rw [bestP]
    have := bestP_small d N h j
    split
    · exact ⟨h j, by simp⟩
    · omega

theorem bestP_uniq {d : Nat → Nat} {m r : Nat} (hr : r < m) (h1 : 0 < d r) (h2 : ∀ v, v < m → d v ≤ d r) (h3 : ∀ v, v < r → d v ≠ d r) : (bestP d m).1 = r := by
  have hge := bestP_ge d m r hr
  rcases bestP_is d m with ⟨h, -⟩ | ⟨k1, k2, k3⟩
  · omega
  · have := h2 _ k1
    rcases Nat.lt_trichotomy (bestP d m).1 r with h | h | h
    · exact absurd (show d (bestP d m).1 = d r by omega) (h3 _ h)
    · exact h
    · have := k3 r h; omega

/-- The next set, and the greedy cover. -/
def nxG (m : Nat) (zs : List Int) (s : Nat) : Nat := s ||| 2 ^ (bestP (dgN zs s) m).1

def grG (m : Nat) (zs : List Int) : Nat → Nat → Nat
  | 0, s => s
  | n + 1, s => if covB zs s then s else grG m zs n (nxG m zs s)

theorem grG_cov {m : Nat} {zs : List Int} {s : Nat} (h : covB zs s = true) (n : Nat) : grG m zs n s = s := by
  cases n
  · rfl
  · rw [grG, if_pos h]

theorem grG_step {m : Nat} {zs : List Int} {s : Nat} (h : covB zs s = false) (n : Nat) : grG m zs (n + 1) s = grG m zs n (nxG m zs s) := by
  rw [grG, h]; rfl

theorem miss_or (zs : List Int) (s b : Nat) : (missL zs (s ||| 2 ^ b)).length + dgN zs s b = (missL zs s).length := by
  induction zs with
  | nil => rfl
  | cons z zs ih =>
    have hand : (z.toNat &&& (s ||| 2 ^ b) == 0) = ((z.toNat &&& s == 0) && !(z.toNat.testBit b)) := by
      rw [Bool.eq_iff_iff, beq_iff_eq, Bool.and_eq_true, beq_iff_eq]
      constructor
      · intro h
        refine ⟨Nat.eq_of_testBit_eq fun i => ?_, ?_⟩
        · have := congrArg (fun t => t.testBit i) h
          simp only [Nat.testBit_and, Nat.testBit_or, Nat.zero_testBit] at this ⊢
          cases hz : z.toNat.testBit i
          · rfl
          · rw [hz] at this; simp at this; simp [this.1]
        · have := congrArg (fun t => t.testBit b) h
          simp only [Nat.testBit_and, Nat.testBit_or, Nat.zero_testBit, Nat.testBit_two_pow_self] at this
          simpa using this
      · rintro ⟨h1, h2⟩
        refine Nat.eq_of_testBit_eq fun i => ?_
        have := congrArg (fun t => t.testBit i) h1
        simp only [Nat.testBit_and, Nat.testBit_or, Nat.zero_testBit, Nat.testBit_two_pow] at this ⊢
        by_cases e : b = i
        · subst e; simp at h2; simp [h2]
        · cases hz : z.toNat.testBit i
          · simp
          · rw [hz] at this; simp at this; simp [this, e]
    unfold dgN missL at ih ⊢
    simp only [List.filter_cons, hand]
    cases h1 : (z.toNat &&& s == 0)
    · simpa using ih
    · cases h2 : z.toNat.testBit b
      · simp [h2, -List.filter_filter]; omega
      · simp [h2, -List.filter_filter]; omega

theorem miss_cov {zs : List Int} {s : Nat} (h : covB zs s = false) : ∃ z ∈ zs, z.toNat &&& s = 0 := by
  refine Classical.byContradiction fun hno => ?_
  have : covB zs s = true := covB_iff.2 fun z hz e => hno ⟨z, hz, e⟩
  rw [h] at this; cases this

/-- While it is no cover, some member helps. -/
theorem greedy_step {m : Nat} {zs : List Int} (hz : ∀ z ∈ zs, 0 < z.toNat ∧ z.toNat < 2 ^ m) {s : Nat} (hs : s < 2 ^ m) (hc : covB zs s = false) :
    (bestP (dgN zs s) m).1 < m ∧ 1 ≤ dgN zs s (bestP (dgN zs s) m).1 ∧ (missL zs (nxG m zs s)).length + 1 ≤ (missL zs s).length ∧ nxG m zs s < 2 ^ m := by
  obtain ⟨z, hz1, hz2⟩ := miss_cov hc
  obtain ⟨h0, hlt⟩ := hz z hz1
  obtain ⟨v, hv⟩ := Nat.exists_testBit_of_ne_zero (show z.toNat ≠ 0 by omega)
  have hvm : v < m := Classical.byContradiction fun h => by
    have : z.toNat.testBit v = false := Nat.testBit_lt_two_pow (Nat.lt_of_lt_of_le hlt (Nat.pow_le_pow_right (by decide) (by omega)))
    rw [this] at hv; cases hv
  have hd : 1 ≤ dgN zs s v := by
    unfold dgN
    refine List.length_pos_of_mem (a := z) ?_
    rw [List.mem_filter]
    refine ⟨?_, hv⟩
    unfold missL
    rw [List.mem_filter, beq_iff_eq]
    exact ⟨hz1, hz2⟩
  have hge := bestP_ge (dgN zs s) m v hvm
  rcases bestP_is (dgN zs s) m with ⟨h, -⟩ | ⟨k1, k2, k3⟩
  · omega
  · have := miss_or zs s (bestP (dgN zs s) m).1
    refine ⟨k1, by omega, by unfold nxG; omega, ?_⟩
    unfold nxG
    exact Nat.or_lt_two_pow hs (Nat.pow_lt_pow_right (by decide) k1)

theorem greedy_end {m : Nat} {zs : List Int} (hz : ∀ z ∈ zs, 0 < z.toNat ∧ z.toNat < 2 ^ m) : ∀ (n s : Nat), s < 2 ^ m → (missL zs s).length ≤ n → covB zs (grG m zs n s) = true ∧ grG m zs n s < 2 ^ m
  | 0, s, hs, hn => by
    refine ⟨?_, hs⟩
    rw [grG, ← missL_cov]
    simpa using hn
  | n + 1, s, hs, hn => by
    cases hc : covB zs s
    · rw [grG_step hc]
      obtain ⟨-, -, h3, h4⟩ := greedy_step hz hs hc
      exact greedy_end hz n _ h4 (by omega)
    · rw [grG_cov hc]
      exact ⟨hc, hs⟩

set_option maxRecDepth 100000 in
theorem memcnt_fin : ∀ s : Fin 64, ∀ v : Fin 6, (mem s.val).count v.val = if s.val.testBit v.val then 1 else 0 := by decide +kernel

theorem allMem_cnt (v : Nat) (hv : v < 6) : ∀ L : List Int, (∀ z ∈ L, z.toNat < 64) → (allMem L).count v = (L.filter fun z => z.toNat.testBit v).length
  | [], _ => rfl
  | z :: L, h => by
    have ih := allMem_cnt v hv L fun y hy => h y (List.mem_cons_of_mem _ hy)
    have h1 := memcnt_fin ⟨z.toNat, h z (List.mem_cons_self ..)⟩ ⟨v, hv⟩
    rw [show allMem (z :: L) = mem z.toNat ++ allMem L from rfl, List.count_append, ih, h1, List.filter_cons]
    simp only
    cases z.toNat.testBit v <;> simp <;> omega

theorem famIn_filter {m : Int} {zs : List Int} (p : Int → Bool) (h : famIn m zs = true) : famIn m (zs.filter p) = true := by
  unfold famIn at h ⊢
  rw [Bool.and_eq_true, Bool.and_eq_true, decide_eq_true_eq, List.all_eq_true] at h ⊢
  exact ⟨h.1, Nat.le_trans (List.length_filter_le _ _) h.2.1, fun z hz => h.2.2 z (List.mem_filter.1 hz).1⟩

/-- The greedy cover of a family without empty clubs. -/
def greIn (m : Int) (zs : List Int) : Bool := famIn m zs && !(zs.any fun z => z == 0)

def greZ (m : Int) (zs : List Int) : Int := if greIn m zs then ((grG m.toNat zs zs.length 0 : Nat) : Int) else 0
theorem gre_sets {k : Nat} {zs : List Int} (hz : Sets k zs) (h : (zs.any fun z => z == 0) = false) : ∀ z ∈ zs, 0 < z.toNat ∧ z.toNat < 2 ^ k := fun z hzm => by
  obtain ⟨h0, h1⟩ := hz z hzm
  have := List.any_eq_false.1 h z hzm
  rw [beq_iff_eq] at this
  exact ⟨by omega, h1⟩

end Go.Proofs.YtcmpjegfikdofaaDoor
