/- It is proved that names may be called one behind the other, and that the least list is its own least list; conditions: those of each statement. -/
import Derived.RowKit
import Derived.Laws.CopyRow
import Derived.Lib.SlBuf
import Derived.Deep.QuietTactic
import Derived.RangeFuncNested
import Derived.RangeFuncBound
import Derived.RangeFuncCalls
import Derived.RangeFuncLeaves
import Derived.RangeFuncBox
import Derived.RangeFuncWrites
import Derived.StillTailTactics
import Derived.Maps.OwnIn
import Derived.Maps.Ext
import Derived.DeepKeys4
import Derived.MapKept
import Derived.Test.YtjclfpcnfmpjdaaDoorRows
import Derived.WalkKit
import Derived.WalkSpells
import Derived.ProofKit
import Derived.OpenShut
import Derived.ShutString
import Derived.ChangeOld
import Derived.Below
import Derived.Deep.RegionHeld3
import Derived.BigQuiet
import Derived.Lib.Hide
import Derived.Lib.SmallJoins
import Derived.Outline
import Derived.Laws.MakeOwn
import Derived.Laws.OwnMore
import Derived.IntWalk
import Derived.Maps.AppendAt
import Derived.Sort.MapsRangeIn
import Derived.Deep.RegionLaw
import Derived.Deep.AppendLies
import Derived.Lib.AppendZeros
import Derived.OwnWalk
import Derived.Lib.SlicesCompact
import Derived.Lib.OwnBridge
import Derived.OrdersIn
import Derived.TacticsIn
import Derived.Shelf.Sort.Plain
import Derived.Shelf.Slices.In.SortNone
import Derived.Shelf.Slices.CompactI
import Derived.Ground.Names2Prog
import Derived.Shelf.Abstract
import Derived.Shelf.RegionOpen
import Derived.OwnWalkIn
import Derived.TacticsInMore
import Derived.LoopNIn
import Derived.LoopIn
import Derived.StillTail
import Derived.StillTactics
import Derived.Shelf.Spec.TrailingZeros
import Derived.Test.YtjclfpcnfmpjdaaDoorMsa
import Derived.Test.YtjclfpcnfmpjdaaDoorMsb
import Derived.Test.YtjclfpcnfmpjdaaDoorBs
import Derived.Test.YtjclfpcnfmpjdaaDoorBv
import Derived.Test.YtjclfpcnfmpjdaaDoorCa
import Derived.Test.YtjclfpcnfmpjdaaDoorCe
import Derived.Test.YtjclfpcnfmpjdaaDoorNf
import Derived.Test.YtjclfpcnfmpjdaaDoorPq
import Derived.Test.YtjclfpcnfmpjdaaDoorPso
import Derived.Test.YtjclfpcnfmpjdaaDoorQb
namespace Go.Proofs.YtjclfpcnfmpjdaaDoor
open Go.RowKit

/-- Names behind names. -/
def compN (p q : List Nat) : List Nat := p.map fun v => q[v]?.getD 0

theorem permsL_in : ∀ (k : Nat) (us p : List Nat), us.length = k → p.Perm us → p ∈ permsL k us
  | 0, us, p, hl, hp => by
    have h1 : us = [] := List.eq_nil_of_length_eq_zero hl
    subst h1
    have h2 : p = [] := List.Perm.eq_nil hp
    simp [permsL, h2]
  | k + 1, us, p, hl, hp => by
    cases p with
    | nil => have := hp.length_eq; simp at this; omega
    | cons v p =>
      obtain ⟨hv, h2⟩ := List.cons_perm_iff_perm_erase.1 hp
      simp only [permsL, List.mem_flatMap, List.mem_map]
      exact ⟨v, hv, p, permsL_in k _ _ (by rw [List.length_erase_of_mem hv]; omega) h2, rfl⟩

theorem lvl_perm {k : Nat} {p : List Nat} : p ∈ lvlL k k ↔ p.Perm (List.range k) := by
  rw [lvlL_perms]
  exact ⟨permsL_perm k _ _ (by simp), permsL_in k _ _ (by simp)⟩

theorem at_range {k : Nat} {q : List Nat} (hl : q.length = k) : ((List.range k).map fun v => q[v]?.getD 0) = q := by
  apply List.ext_getElem
  · simp [hl]
  · intro i h1 h2
    simp [h2]

theorem comp_in {k : Nat} {p q : List Nat} (hp : p ∈ lvlL k k) (hq : q ∈ lvlL k k) : compN p q ∈ lvlL k k := by
  rw [lvl_perm] at hp hq ⊢
  have h1 : (compN p q).Perm ((List.range k).map fun v => q[v]?.getD 0) := hp.map _
  rw [at_range (by simpa using hq.length_eq)] at h1
  exact h1.trans hq

theorem nI_at (p : List Nat) (v : Nat) (h : v < p.length) : ((nI p)[v]?.getD 0).toNat = p[v]?.getD 0 := by simp [nI, h]
theorem called_comp {k : Nat} (hk : k ≤ 6) {p q : List Nat} (hp : p ∈ lvlL k k) (hq : q ∈ lvlL k k) {s : Nat} (hs : s < 2 ^ k) : called (nI q) (called (nI p) s) = called (nI (compN p q)) s := by
  have hc := comp_in hp hq
  have hpl := lvlL_in hp
  have hql := lvlL_in hq
  have hcl := lvlL_in hc
  have hs2 := called_lt hk (perm_names hk hp) hs
  apply Nat.eq_of_testBit_eq
  intro i
  by_cases hi : i < k
  · obtain ⟨v, hv, e⟩ := List.getElem_of_mem (show i ∈ compN p q from (lvl_perm.1 hc).symm.subset (List.mem_range.2 hi))
    have hvk : v < k := by omega
    have hpv : p[v]?.getD 0 < k := by
      have := lvlL_lt hp p[v] (List.getElem_mem _)
      simpa [show v < p.length by omega] using this
    have e1 : (compN p q)[v]?.getD 0 = i := by simp [hv, e]
    have e2 : q[p[v]?.getD 0]?.getD 0 = i := by
      rw [← e1]
      simp [compN, show v < p.length by omega]
    have b1 := called_bit hk (perm_names hk hq) hs2 hpv
    rw [nI_at q _ (by omega), e2] at b1
    have b2 := called_bit hk (perm_names hk hp) hs hvk
    rw [nI_at p _ (by omega)] at b2
    have b3 := called_bit hk (perm_names hk hc) hs hvk
    rw [nI_at _ _ (by omega), e1] at b3
    rw [b1, b2, b3]
  · have hpw : 2 ^ k ≤ 2 ^ i := Nat.pow_le_pow_right (by decide) (by omega)
    rw [Nat.testBit_lt_two_pow (Nat.lt_of_lt_of_le (called_lt hk (perm_names hk hq) hs2) hpw), Nat.testBit_lt_two_pow (Nat.lt_of_lt_of_le (called_lt hk (perm_names hk hc) hs) hpw)]

theorem callZ_comp {k : Nat} (hk : k ≤ 6) {p q : List Nat} (hp : p ∈ lvlL k k) (hq : q ∈ lvlL k k) {z : Int} (hz : z.toNat < 2 ^ k) : callZ (nI q) (callZ (nI p) z) = callZ (nI (compN p q)) z := by
  unfold callZ
  rw [Int.toNat_natCast, called_comp hk hp hq hz]

theorem range_in (k : Nat) : List.range k ∈ lvlL k k := lvl_perm.2 (List.Perm.refl _)
theorem callZ_id {k : Nat} (hk : k ≤ 6) {z : Int} (h0 : 0 ≤ z) (hz : z.toNat < 2 ^ k) : callZ (nI (List.range k)) z = z := by
  have : called (nI (List.range k)) z.toNat = z.toNat := by
    apply Nat.eq_of_testBit_eq
    intro i
    by_cases hi : i < k
    · have b1 := called_bit hk (perm_names hk (range_in k)) hz hi
      rw [nI_at _ _ (by simpa using hi)] at b1
      simpa [hi] using b1
    · have hpw : 2 ^ k ≤ 2 ^ i := Nat.pow_le_pow_right (by decide) (by omega)
      rw [Nat.testBit_lt_two_pow (Nat.lt_of_lt_of_le (called_lt hk (perm_names hk (range_in k)) hz) hpw), Nat.testBit_lt_two_pow (Nat.lt_of_lt_of_le hz hpw)]
  unfold callZ
  rw [this]
  omega

theorem fam_small {k : Nat} {zs : List Int} (h : famIn (k : Int) zs = true) : ∀ z ∈ zs, 0 ≤ z ∧ z.toNat < 2 ^ k := by
  intro z hz
  have h1 := (famIn_out h).2.2.2 z hz
  have h6 : fullI (k : Int) = ((2 ^ k - 1 : Nat) : Int) := full_nat k
  have h7 : 1 ≤ 2 ^ k := Nat.one_le_two_pow
  omega

theorem fam_perm {m : Int} {xs ys : List Int} (h : xs.Perm ys) (hf : famIn m xs = true) : famIn m ys = true := by
  simp only [famIn, Bool.and_eq_true, decide_eq_true_eq, List.all_eq_true] at hf ⊢
  exact ⟨hf.1, by rw [← h.length_eq]; exact hf.2.1, fun z hz => hf.2.2 z (h.symm.subset hz)⟩

theorem fam_called {k : Nat} (hk : k ≤ 6) {p : List Nat} (hp : p ∈ lvlL k k) {zs : List Int} (hf : famIn (k : Int) zs = true) : famIn (k : Int) (zs.map (callZ (nI p))) = true := by
  have h2 : namIn (k : Int) zs (nI p) = true := by
    rw [namIn, hf, Bool.true_and]
    exact perm_names hk hp
  have := (named_facts h2).2.2.1
  rwa [namZ, if_pos h2] at this

theorem lst_perm (zs : List Int) (p : List Nat) : (lstP zs p).Perm (zs.map (callZ (nI p))) := List.mergeSort_perm _ _
theorem lst_fam {k : Nat} (hk : k ≤ 6) {p : List Nat} (hp : p ∈ lvlL k k) {zs : List Int} (hf : famIn (k : Int) zs = true) : famIn (k : Int) (lstP zs p) = true := fam_perm (lst_perm zs p).symm (fam_called hk hp hf)
theorem lst_comp {k : Nat} (hk : k ≤ 6) {p q : List Nat} (hp : p ∈ lvlL k k) (hq : q ∈ lvlL k k) {zs : List Int} (hf : famIn (k : Int) zs = true) : lstP (lstP zs p) q = lstP zs (compN p q) := by
  have h1 : ((lstP zs p).map (callZ (nI q))).Perm (zs.map (callZ (nI (compN p q)))) := by
    refine ((lst_perm zs p).map _).trans ?_
    rw [List.map_map, show zs.map (callZ (nI q) ∘ callZ (nI p)) = zs.map (callZ (nI (compN p q))) from List.map_congr_left fun z hz => callZ_comp hk hp hq (fam_small hf z hz).2]
  exact sortZ_congr h1

theorem lst_id {k : Nat} (hk : k ≤ 6) {zs : List Int} (hf : famIn (k : Int) zs = true) (hs : zs.Pairwise (· ≤ ·)) : lstP zs (List.range k) = zs := by
  have h1 : zs.map (callZ (nI (List.range k))) = zs := by
    conv => rhs; rw [← List.map_id zs]
    exact List.map_congr_left fun z hz => callZ_id hk (fam_small hf z hz).1 (fam_small hf z hz).2
  unfold lstP
  rw [h1]
  exact (sortZ_of (List.Perm.refl zs) hs).symm

theorem lst_sorted (zs : List Int) (p : List Nat) : (lstP zs p).Pairwise (· ≤ ·) := sortZ_le _
theorem least_le {k : Nat} (hk : k ≤ 6) (zs : List Int) {r : List Nat} (hr : r ∈ lvlL k k) : lexB (lstP zs r) (lstP zs (firstN k zs)) = false := by
  obtain ⟨j, hj, rfl⟩ := List.getElem_of_mem hr
  have h1 := bestG_least zs (lvlL k k) ((lvlL k k).length - 1) j (by omega)
  rw [bestG_of] at h1
  simpa [hj, firstN] using h1

theorem least_own {k : Nat} (hk : k ≤ 6) {zs : List Int} (hf : famIn (k : Int) zs = true) : lstP (lstP zs (firstN k zs)) (firstN k (lstP zs (firstN k zs))) = lstP zs (firstN k zs) := by
  have hp := first_in hk zs
  have hF := lst_fam hk hp hf
  have hq := first_in hk (lstP zs (firstN k zs))
  refine lexB_eq ?_ ?_
  · rw [lst_comp hk hp hq hf]
    exact least_le hk zs (comp_in hp hq)
  · have h1 := least_le hk (lstP zs (firstN k zs)) (range_in k)
    rwa [lst_id hk hF (lst_sorted _ _)] at h1

theorem least_facts {m : Int} {zs : List Int} (h : famIn m zs = true) : aleastM m zs = m ∧ famIn m (aleastL m zs) = true ∧ aleastM m (aleastL m zs) = m ∧ aleastL m (aleastL m zs) = aleastL m zs ∧ alikeB m zs m (aleastL m zs) = true := by
  obtain ⟨hm1, hm6, -, -⟩ := famIn_out h
  obtain ⟨k, rfl⟩ : ∃ k : Nat, m = (k : Int) := ⟨m.toNat, by omega⟩
  have hk : k ≤ 6 := by omega
  have e1 : aleastL (k : Int) zs = lstP zs (firstN k zs) := by rw [aleastL, if_pos h]; rfl
  have hF := lst_fam hk (first_in hk zs) h
  have ho := least_own hk h
  rw [e1]
  refine ⟨by rw [aleastM, if_pos h], hF, by rw [aleastM, if_pos hF], ?_, ?_⟩
  · rw [aleastL, if_pos hF]
    exact ho
  · rw [alikeB, h, hF]
    simp only [Bool.true_and, decide_true, Bool.and_eq_true, decide_eq_true_eq, Int.toNat_natCast]
    exact ⟨by rw [lstP_len], ho.symm⟩

end Go.Proofs.YtjclfpcnfmpjdaaDoor
