/- It is proved that names may be called one behind the other, and that the least list is its own least list; conditions: those of each statement. -/
import Derived.RowKit
import Derived.Laws.CopyRow
import Derived.Lib.SlBuf
import Derived.Deep.QuietTactic
import Derived.RangeFuncNested
import Derived.RangeFuncBound
import Derived.RangeFuncCalls
import Derived.RangeFuncLeaves
import Derived.RangeFuncBox
import Derived.RangeFuncWrites
import Derived.StillTailTactics
import Derived.Maps.OwnIn
import Derived.Maps.Ext
import Derived.DeepKeys4
import Derived.MapKept
import Derived.Test.YtijpgbkjgjpmmaaDoorRows
import Derived.WalkKit
import Derived.WalkSpells
import Derived.ProofKit
import Derived.OpenShut
import Derived.ShutString
import Derived.ChangeOld
import Derived.Below
import Derived.Deep.RegionHeld3
import Derived.BigQuiet
import Derived.Lib.Hide
import Derived.Lib.SmallJoins
import Derived.Outline
import Derived.Laws.MakeOwn
import Derived.Laws.OwnMore
import Derived.IntWalk
import Derived.Maps.AppendAt
import Derived.Sort.MapsRangeIn
import Derived.Deep.RegionLaw
import Derived.Deep.AppendLies
import Derived.Lib.AppendZeros
import Derived.OwnWalk
import Derived.Lib.SlicesCompact
import Derived.Lib.OwnBridge
import Derived.OrdersIn
import Derived.TacticsIn
import Derived.Shelf.Sort.Plain
import Derived.Shelf.Slices.In.SortNone
import Derived.Shelf.Slices.CompactI
import Derived.Ground.Names2Prog
import Derived.Shelf.Abstract
import Derived.Shelf.RegionOpen
import Derived.OwnWalkIn
import Derived.TacticsInMore
import Derived.LoopNIn
import Derived.LoopIn
import Derived.StillTail
import Derived.StillTactics
import Derived.Shelf.Spec.TrailingZeros
import Derived.Test.YtijpgbkjgjpmmaaDoorMrab
import Derived.Test.YtijpgbkjgjpmmaaDoorMrae
import Derived.Test.YtijpgbkjgjpmmaaDoorMrah
import Derived.Test.YtijpgbkjgjpmmaaDoorMram
import Derived.Test.YtijpgbkjgjpmmaaDoorMrao
import Derived.Test.YtijpgbkjgjpmmaaDoorMrap
import Derived.Test.YtijpgbkjgjpmmaaDoorMraq
import Derived.Test.YtijpgbkjgjpmmaaDoorMraa
import Derived.Test.YtijpgbkjgjpmmaaDoorMrac
import Derived.Test.YtijpgbkjgjpmmaaDoorMrar
import Derived.Test.YtijpgbkjgjpmmaaDoorMras
import Derived.Test.YtijpgbkjgjpmmaaDoorMrak
import Derived.Test.YtijpgbkjgjpmmaaDoorMran
import Derived.Test.YtijpgbkjgjpmmaaDoorMrad
import Derived.Lib.LaidTab
import Derived.LaidMore
import Derived.Stop.Joined
namespace Go.Proofs.YtijpgbkjgjpmmaaDoor
open Go.RowKit

/-- Names behind names. -/
def compN (p q : List Nat) : List Nat := p.map fun v => q[v]?.getD 0

theorem permsL_in : ∀ (k : Nat) (us p : List Nat), us.length = k → p.Perm us → p ∈ permsL k us
  | 0, us, p, hl, hp => by
    have h1 : us = [] := List.eq_nil_of_length_eq_zero hl
    subst h1
    have h2 : p = [] := List.Perm.eq_nil hp
    simp [permsL, h2]
  | k + 1, us, p, hl, hp => by
    cases p with
    | nil => have := hp.length_eq; simp at this; omega
    | cons v p =>
      obtain ⟨hv, h2⟩ := List.cons_perm_iff_perm_erase.1 hp
      simp only [permsL, List.mem_flatMap, List.mem_map]
      exact ⟨v, hv, p, permsL_in k _ _ (by rw [List.length_erase_of_mem hv]; omega) h2, rfl⟩

theorem lvl_perm {k : Nat} {p : List Nat} : p ∈ lvlL k k ↔ p.Perm (List.range k) := by
  rw [lvlL_perms]
  exact ⟨permsL_perm k _ _ (by simp), permsL_in k _ _ (by simp)⟩

theorem at_range {k : Nat} {q : List Nat} (hl : q.length = k) : ((List.range k).map fun v => q[v]?.getD 0) = q := by
  apply List.ext_getElem
  · simp [hl]
  · intro i h1 h2
    simp [h2]

theorem comp_in {k : Nat} {p q : List Nat} (hp : p ∈ lvlL k k) (hq : q ∈ lvlL k k) : compN p q ∈ lvlL k k := by
  rw [lvl_perm] at hp hq ⊢
  have h1 : (compN p q).Perm ((List.range k).map fun v => q[v]?.getD 0) := hp.map _
  rw [at_range (by simpa using hq.length_eq)] at h1
  exact h1.trans hq

theorem nI_at (p : List Nat) (v : Nat) (h : v < p.length) : ((nI p)[v]?.getD 0).toNat = p[v]?.getD 0 := by simp [nI, h]
theorem called_comp {k : Nat} (hk : k ≤ 6) {p q : List Nat} (hp : p ∈ lvlL k k) (hq : q ∈ lvlL k k) {s : Nat} (hs : s < 2 ^ k) : called (nI q) (called (nI p) s) = called (nI (compN p q)) s := by
  have hc := comp_in hp hq
  have hpl := lvlL_in hp
  have hql := lvlL_in hq
  have hcl := lvlL_in hc
  have hs2 := called_lt hk (perm_names hk hp) hs
  apply Nat.eq_of_testBit_eq
  intro i
  by_cases hi : i < k
  · obtain ⟨v, hv, e⟩ := List.getElem_of_mem (show i ∈ compN p q from (lvl_perm.1 hc).symm.subset (List.mem_range.2 hi))
    have hvk : v < k := by omega
    have hpv : p[v]?.getD 0 < k := by
      have := lvlL_lt hp p[v] (List.getElem_mem _)
      simpa [show v < p.length by omega] using this
    have e1 : (compN p q)[v]?.getD 0 = i := by simp [hv, e]
    have e2 : q[p[v]?.getD 0]?.getD 0 = i := by
      rw [← e1]
      simp [compN, show v < p.length by omega]
    have b1 := called_bit hk (perm_names hk hq) hs2 hpv
    rw [nI_at q _ (by omega), e2] at b1
    have b2 := called_bit hk (perm_names hk hp) hs hvk
    rw [nI_at p _ (by omega)] at b2
    have b3 := called_bit hk (perm_names hk hc) hs hvk
    rw [nI_at _ _ (by omega), e1] at b3
    rw [b1, b2, b3]
  · have hpw : 2 ^ k ≤ 2 ^ i := Nat.pow_le_pow_right (by decide) (by omega)
    rw [Nat.testBit_lt_two_pow (Nat.lt_of_lt_of_le (called_lt hk (perm_names hk hq) hs2) hpw), Nat.testBit_lt_two_pow (Nat.lt_of_lt_of_le (called_lt hk (perm_names hk hc) hs) hpw)]

theorem callZ_comp {k : Nat} (hk : k ≤ 6) {p q : List Nat} (hp : p ∈ lvlL k k) (hq : q ∈ lvlL k k) {z : Int} (hz : z.toNat < 2 ^ k) : callZ (nI q) (callZ (nI p) z) = callZ (nI (compN p q)) z := by
  unfold callZ
  rw [Int.toNat_natCast, called_comp hk hp hq hz]

theorem range_in (k : Nat) : List.range k ∈ lvlL k k := lvl_perm.2 (List.Perm.refl _)
theorem callZ_id {k : Nat} (hk : k ≤ 6) {z : Int} (h0 : 0 ≤ z) (hz : z.toNat < 2 ^ k) : callZ (nI (List.range k)) z = z := by
  have : called (nI (List.range k)) z.toNat = z.toNat := by
    apply Nat.eq_of_testBit_eq
    intro i
    by_cases hi : i < k
    · have b1 := called_bit hk (perm_names hk (range_in k)) hz hi
      rw [nI_at _ _ (by simpa using hi)] at b1
      simpa [hi] using b1
    · have hpw : 2 ^ k ≤ 2 ^ i := Nat.pow_le_pow_right (by decide) (by omega)
      rw [Nat.testBit_lt_two_pow (Nat.lt_of_lt_of_le (called_lt hk (perm_names hk (range_in k)) hz) hpw), Nat.testBit_lt_two_pow (Nat.lt_of_lt_of_le hz hpw)]
  unfold callZ
  rw [this]
  omega

theorem fam_small {k : Nat} {zs : List Int} (h : famIn (k : Int) zs = true) : ∀ z ∈ zs, 0 ≤ z ∧ z.toNat < 2 ^ k := by
  intro z hz
  have h1 := (famIn_out h).2.2.2 z hz
  have h6 : fullI (k : Int) = ((2 ^ k - 1 : Nat) : Int) := full_nat k
  have h7 : 1 ≤ 2 ^ k := Nat.one_le_two_pow
  omega

theorem fam_called {k : Nat} (hk : k ≤ 6) {p : List Nat} (hp : p ∈ lvlL k k) {zs : List Int} (hf : famIn (k : Int) zs = true) : famIn (k : Int) (zs.map (callZ (nI p))) = true := by
  have h2 : namIn (k : Int) zs (nI p) = true := by
    rw [namIn, hf, Bool.true_and]
    exact perm_names hk hp
  have := (named_facts h2).2.2.1
  rwa [namZ, if_pos h2] at this

theorem lst_perm (zs : List Int) (p : List Nat) : (lstP zs p).Perm (zs.map (callZ (nI p))) := List.mergeSort_perm _ _
theorem lst_comp {k : Nat} (hk : k ≤ 6) {p q : List Nat} (hp : p ∈ lvlL k k) (hq : q ∈ lvlL k k) {zs : List Int} (hf : famIn (k : Int) zs = true) : lstP (lstP zs p) q = lstP zs (compN p q) := by
  have h1 : ((lstP zs p).map (callZ (nI q))).Perm (zs.map (callZ (nI (compN p q)))) := by
    refine ((lst_perm zs p).map _).trans ?_
    rw [List.map_map, show zs.map (callZ (nI q) ∘ callZ (nI p)) = zs.map (callZ (nI (compN p q))) from List.map_congr_left fun z hz => callZ_comp hk hp hq (fam_small hf z hz).2]
  exact sortZ_congr h1

theorem least_le {k : Nat} (hk : k ≤ 6) (zs : List Int) {r : List Nat} (hr : r ∈ lvlL k k) : lexB (lstP zs r) (lstP zs (firstN k zs)) = false := by
  obtain ⟨j, hj, rfl⟩ := List.getElem_of_mem hr
  have h1 := bestG_least zs (lvlL k k) ((lvlL k k).length - 1) j (by omega)
  rw [bestG_of] at h1
  simpa [hj, firstN] using h1

end Go.Proofs.YtijpgbkjgjpmmaaDoor

/- It is proved that own names divide all names, and are those of the family of all other members; conditions: those of each statement. -/
namespace Go.Proofs.YtijpgbkjgjpmmaaDoor
open Go.RowKit

theorem permsL_nodup : ∀ (k : Nat) (us : List Nat), us.Nodup → (permsL k us).Nodup
  | 0, us, h => by simp [permsL]
  | k + 1, us, h => by
    unfold permsL
    unfold List.Nodup
    rw [List.pairwise_flatMap]
    refine ⟨fun v hv => ?_, ?_⟩
    · rw [List.pairwise_map]
      exact (permsL_nodup k _ (h.erase v)).imp (fun hne e => hne (by injection e))
    · refine h.imp fun hne x hx y hy e => ?_
      obtain ⟨x1, -, rfl⟩ := List.mem_map.1 hx
      obtain ⟨y1, -, rfl⟩ := List.mem_map.1 hy
      injection e with e1 e2
      exact hne e1

theorem lvl_nodup (k : Nat) : (lvlL k k).Nodup := by rw [lvlL_perms]; exact permsL_nodup k _ List.nodup_range
theorem comp_assoc {p q r : List Nat} (h : ∀ v ∈ p, v < q.length) : compN (compN p q) r = compN p (compN q r) := by
  unfold compN
  rw [List.map_map]
  apply List.map_congr_left
  intro v hv
  have := h v hv
  simp [this]

theorem comp_idR {k : Nat} {p : List Nat} (hp : p ∈ lvlL k k) : compN p (List.range k) = p := by
  unfold compN
  conv => rhs; rw [← List.map_id p]
  apply List.map_congr_left
  intro v hv
  have := lvlL_lt hp v hv
  simp [this]

theorem comp_idL {k : Nat} {p : List Nat} (hp : p ∈ lvlL k k) : compN (List.range k) p = p := at_range (lvlL_in hp)
/-- Names the other way. -/
def invN (k : Nat) (p : List Nat) : List Nat := (List.range k).map fun i => p.idxOf i

theorem idx_map {p : List Nat} (h : p.Nodup) : p.map (fun v => p.idxOf v) = List.range p.length := by
  apply List.ext_getElem
  · simp
  · intro i h1 h2
    have hi : i < p.length := by simpa using h1
    simp only [List.getElem_map, List.getElem_range]
    exact h.idxOf_getElem i hi

theorem inv_in {k : Nat} {p : List Nat} (hp : p ∈ lvlL k k) : invN k p ∈ lvlL k k := by
  have h := lvl_perm.1 hp
  rw [lvl_perm]
  have hn : p.Nodup := h.symm.nodup List.nodup_range
  have h1 : ((List.range k).map fun i => p.idxOf i).Perm (p.map fun i => p.idxOf i) := h.symm.map _
  rw [idx_map hn, lvlL_in hp] at h1
  exact h1

theorem comp_inv {k : Nat} {p : List Nat} (hp : p ∈ lvlL k k) : compN p (invN k p) = List.range k := by
  have h := lvl_perm.1 hp
  have hn : p.Nodup := h.symm.nodup List.nodup_range
  have : compN p (invN k p) = p.map (fun v => p.idxOf v) := by
    unfold compN
    apply List.map_congr_left
    intro v hv
    have := lvlL_lt hp v hv
    simp [invN, this]
  rw [this, idx_map hn, lvlL_in hp]

theorem inv_comp {k : Nat} {p : List Nat} (hp : p ∈ lvlL k k) : compN (invN k p) p = List.range k := by
  have h := lvl_perm.1 hp
  unfold compN invN
  rw [List.map_map]
  conv => rhs; rw [← List.map_id (List.range k)]
  apply List.map_congr_left
  intro v hv
  have hm : v ∈ p := h.symm.subset hv
  have hi := List.idxOf_lt_length_of_mem hm
  simp only [Function.comp, id]
  rw [List.getElem?_eq_getElem hi, Option.getD_some, List.getElem_idxOf]

def keepsN (k : Nat) (zs : List Int) (p : List Nat) : Bool := decide (lstP zs p = lstP zs (List.range k))
theorem own_keep (k : Nat) (zs : List Int) : ownL k zs = (lvlL k k).filter (keepsN k zs) := by
  rw [ownL, ← lvlL_perms]
  apply List.filter_congr
  intro p _
  rw [Bool.eq_iff_iff]
  simp only [keepsN, beq_iff_eq, decide_eq_true_eq]
  exact lst_eq rfl

theorem own_mem {k : Nat} {zs : List Int} {p : List Nat} : p ∈ ownL k zs ↔ p ∈ lvlL k k ∧ lstP zs p = lstP zs (List.range k) := by
  rw [own_keep, List.mem_filter, keepsN, decide_eq_true_eq]

def clsL (k : Nat) (zs : List Int) (r : List Nat) : List (List Nat) := (lvlL k k).filter fun p => decide (lstP zs p = lstP zs r)
theorem cls_len {k : Nat} (hk : k ≤ 6) {zs : List Int} (hf : famIn (k : Int) zs = true) {r : List Nat} (hr : r ∈ lvlL k k) : (clsL k zs r).length = (ownL k zs).length := by
  have lt_of : ∀ {p q : List Nat}, p ∈ lvlL k k → q ∈ lvlL k k → ∀ v ∈ p, v < q.length := fun hp hq v hv => by rw [lvlL_in hq]; exact lvlL_lt hp v hv
  have hback : ∀ q ∈ lvlL k k, compN (compN q r) (invN k r) = q := fun q hq => by
    rw [comp_assoc (lt_of hq hr), comp_inv hr, comp_idR hq]
  have h : (clsL k zs r).Perm ((ownL k zs).map fun q => compN q r) := by
    refine (List.perm_ext_iff_of_nodup ?_ ?_).2 fun p => ?_
    · exact List.Pairwise.filter _ (lvl_nodup k)
    · unfold List.Nodup
      rw [List.pairwise_map]
      refine List.Pairwise.imp_of_mem ?_ (show (ownL k zs).Pairwise (· ≠ ·) from by rw [own_keep]; exact List.Pairwise.filter _ (lvl_nodup k))
      intro x y hx hy hne e
      apply hne
      rw [← hback x (own_mem.1 hx).1, ← hback y (own_mem.1 hy).1, e]
    · rw [clsL, List.mem_filter, decide_eq_true_eq, List.mem_map]
      constructor
      · rintro ⟨hp, he⟩
        refine ⟨compN p (invN k r), own_mem.2 ⟨comp_in hp (inv_in hr), ?_⟩, ?_⟩
        · rw [← lst_comp hk hp (inv_in hr) hf, he, lst_comp hk hr (inv_in hr) hf, comp_inv hr]
        · rw [comp_assoc (lt_of hp (inv_in hr)), inv_comp hr, comp_idR hp]
      · rintro ⟨q, hq, rfl⟩
        obtain ⟨hq1, hq2⟩ := own_mem.1 hq
        refine ⟨comp_in hq1 hr, ?_⟩
        rw [← lst_comp hk hq1 hr hf, hq2, lst_comp hk (range_in k) hr hf, comp_idL hr]
  rw [h.length_eq, List.length_map]

theorem dvd_classes {α β : Type} [DecidableEq β] (v : α → β) (g : Nat) : ∀ (n : Nat) (xs : List α), xs.length ≤ n → (∀ x ∈ xs, (xs.filter fun y => decide (v y = v x)).length = g) → g ∣ xs.length
  | 0, xs, hl, _ => by
    have : xs = [] := List.eq_nil_of_length_eq_zero (by omega)
    subst this
    exact ⟨0, rfl⟩
  | n + 1, [], _, _ => ⟨0, rfl⟩
  | n + 1, x :: t, hl, h => by
    have h1 := h x (by simp)
    have hsp : (x :: t).length = ((x :: t).filter fun y => decide (v y = v x)).length + ((x :: t).filter fun y => !decide (v y = v x)).length := by
      rw [← List.countP_eq_length_filter, ← List.countP_eq_length_filter]
      have := List.length_eq_countP_add_countP (p := fun y => decide (v y = v x)) (l := x :: t)
      simpa using this
    have hlt : ((x :: t).filter fun y => !decide (v y = v x)).length ≤ n := by
      have : 0 < ((x :: t).filter fun y => decide (v y = v x)).length := List.length_pos_of_mem (a := x) (List.mem_filter.2 ⟨by simp, by simp⟩)
      omega
    have ih := dvd_classes v g n ((x :: t).filter fun y => !decide (v y = v x)) hlt (by
      intro y hy
      obtain ⟨hy1, hy2⟩ := List.mem_filter.1 hy
      rw [List.filter_filter, ← h y hy1]
      congr 1
      apply List.filter_congr
      intro z _
      by_cases hz : v z = v y
      · have : ¬ v y = v x := by simpa using hy2
        simp [hz, this]
      · simp [hz])
    rw [hsp, h1]
    exact (Nat.dvd_add_right (Nat.dvd_refl g)).2 ih

theorem own_dvd {k : Nat} (hk : k ≤ 6) {zs : List Int} (hf : famIn (k : Int) zs = true) : (ownL k zs).length ∣ (lvlL k k).length :=
  dvd_classes (fun p => lstP zs p) _ _ (lvlL k k) (Nat.le_refl _) (fun p hp => cls_len hk hf hp)

theorem own_pos {k : Nat} {zs : List Int} : 1 ≤ (ownL k zs).length := List.length_pos_of_mem (own_mem.2 ⟨range_in k, rfl⟩)
/-! ### all other members -/
def notZ (k : Nat) (z : Int) : Int := bits .andNot .i64 (fullI (k : Int)) z
theorem notZ_nat {k s : Nat} (hk1 : 1 ≤ k) (hk : k ≤ 6) (hs : s < 64) : notZ k (s : Int) = (((2 ^ k - 1) ^^^ ((2 ^ k - 1) &&& s) : Nat) : Int) := bits_not_nat k s hk1 hk hs
theorem callZ_not {k : Nat} (hk1 : 1 ≤ k) (hk : k ≤ 6) {p : List Nat} (hp : p ∈ lvlL k k) {z : Int} (h0 : 0 ≤ z) (hz : z.toNat < 2 ^ k) : callZ (nI p) (notZ k z) = notZ k (callZ (nI p) z) := by
  obtain ⟨s, rfl⟩ : ∃ s : Nat, z = (s : Int) := ⟨z.toNat, by omega⟩
  rw [Int.toNat_natCast] at hz
  have h64 : 2 ^ k ≤ 64 := pow64 k hk
  have hpl := lvlL_in hp
  have hN : (2 ^ k - 1) ^^^ ((2 ^ k - 1) &&& s) < 2 ^ k := Nat.xor_lt_two_pow (n := k) (by have := Nat.one_le_two_pow (n := k); omega) (Nat.lt_of_le_of_lt Nat.and_le_left (by have := Nat.one_le_two_pow (n := k); omega))
  have hc := called_lt hk (perm_names hk hp) hz
  unfold callZ
  rw [notZ_nat hk1 hk (by omega), Int.toNat_natCast, Int.toNat_natCast, notZ_nat hk1 hk (by omega)]
  congr 1
  apply Nat.eq_of_testBit_eq
  intro i
  by_cases hi : i < k
  · obtain ⟨v, hv, e⟩ := List.getElem_of_mem (show i ∈ p from (lvl_perm.1 hp).symm.subset (List.mem_range.2 hi))
    have hvk : v < k := by omega
    have e1 : p[v]?.getD 0 = i := by simp [hv, e]
    have b1 := called_bit hk (perm_names hk hp) hN hvk
    have b2 := called_bit hk (perm_names hk hp) hz hvk
    rw [nI_at p _ (by omega), e1] at b1 b2
    rw [b1]
    simp only [Nat.testBit_xor, Nat.testBit_and, b2, Nat.testBit_two_pow_sub_one, hi, hvk]
  · have hpw : 2 ^ k ≤ 2 ^ i := Nat.pow_le_pow_right (by decide) (by omega)
    rw [Nat.testBit_lt_two_pow (Nat.lt_of_lt_of_le (called_lt hk (perm_names hk hp) hN) hpw), Nat.testBit_lt_two_pow (Nat.lt_of_lt_of_le (Nat.xor_lt_two_pow (n := k) (by have := Nat.one_le_two_pow (n := k); omega) (Nat.lt_of_le_of_lt Nat.and_le_left (by have := Nat.one_le_two_pow (n := k); omega))) hpw)]

theorem lst_iff {zs : List Int} {p q : List Nat} : lstP zs p = lstP zs q ↔ (zs.map (callZ (nI p))).Perm (zs.map (callZ (nI q))) :=
  ⟨fun h => (lst_perm zs p).symm.trans (h ▸ lst_perm zs q), fun h => sortZ_congr h⟩

theorem not_not {k : Nat} (hk1 : 1 ≤ k) (hk : k ≤ 6) {xs : List Int} (hf : famIn (k : Int) xs = true) : (xs.map (notZ k)).map (notZ k) = xs := by
  rw [List.map_map]
  conv => rhs; rw [← List.map_id xs]
  apply List.map_congr_left
  intro z hz
  have h1 := (famIn_out hf).2.2.2 z hz
  exact other_other (by omega) (by omega) h1.1 h1.2

theorem lst_not {k : Nat} (hk1 : 1 ≤ k) (hk : k ≤ 6) {zs : List Int} (hf : famIn (k : Int) zs = true) {p q : List Nat} (hp : p ∈ lvlL k k) (hq : q ∈ lvlL k k) :
    lstP (zs.map (notZ k)) p = lstP (zs.map (notZ k)) q ↔ lstP zs p = lstP zs q := by
  have e : ∀ {r : List Nat}, r ∈ lvlL k k → (zs.map (notZ k)).map (callZ (nI r)) = (zs.map (callZ (nI r))).map (notZ k) := fun {r} hr => by
    rw [List.map_map, List.map_map]
    exact List.map_congr_left fun z hz => callZ_not hk1 hk hr (fam_small hf z hz).1 (fam_small hf z hz).2
  rw [lst_iff, lst_iff, e hp, e hq]
  constructor
  · intro h
    have h2 := h.map (notZ k)
    rwa [not_not hk1 hk (fam_called hk hp hf), not_not hk1 hk (fam_called hk hq hf)] at h2
  · intro h
    exact h.map _

theorem own_not {k : Nat} (hk1 : 1 ≤ k) (hk : k ≤ 6) {zs : List Int} (hf : famIn (k : Int) zs = true) : ownL k (zs.map (notZ k)) = ownL k zs := by
  rw [own_keep, own_keep]
  apply List.filter_congr
  intro p hp
  rw [keepsN, keepsN]
  exact decide_eq_decide.2 (lst_not hk1 hk hf hp (range_in k))

theorem lvl_fact : ∀ k : Fin 7, (lvlL k.val k.val).length = [1, 1, 2, 6, 24, 120, 720][k.val] := by decide +kernel
theorem same_facts {m : Int} {zs : List Int} (h : famIn m zs = true) : otherM m zs = m ∧ famIn m (otherZ m zs) = true ∧ sameZ m (otherZ m zs) = sameZ m zs ∧ 1 ≤ sameZ m zs ∧ sameZ m zs ≤ 720 ∧
    ((([1, 1, 2, 6, 24, 120, 720] : List Nat)[m.toNat]?.getD 1 : Nat) : Int).tmod (sameZ m zs) = 0 := by
  obtain ⟨hm1, hm6, -, -⟩ := famIn_out h
  obtain ⟨k, rfl⟩ : ∃ k : Nat, m = (k : Int) := ⟨m.toNat, by omega⟩
  have hk : k ≤ 6 := by omega
  have hk1 : 1 ≤ k := by omega
  have e1 : otherM (k : Int) zs = k := by simp [otherM, h]
  have e2 : otherZ (k : Int) zs = zs.map (notZ k) := by rw [otherZ, if_pos h]; rfl
  have h2 := (other_facts h).1
  rw [e1] at h2
  have e3 : sameZ (k : Int) zs = ((ownL k zs).length : Int) := by rw [sameZ, if_pos h]; rfl
  have hlen := lvl_fact ⟨k, by omega⟩
  have hd := own_dvd hk h
  have hle : (ownL k zs).length ≤ (lvlL k k).length := Nat.le_of_dvd (lvlL_pos hk) hd
  have h720 : (lvlL k k).length ≤ 720 := by
    have : ∀ k : Fin 7, (lvlL k.val k.val).length ≤ 720 := by decide +kernel
    exact this ⟨k, by omega⟩
  have hfl : ([1, 1, 2, 6, 24, 120, 720] : List Nat)[(k : Int).toNat]?.getD 1 = (lvlL k k).length := by
    rw [Int.toNat_natCast, hlen]
    simp [show k < 7 by omega]
  refine ⟨e1, h2, ?_, ?_, ?_, ?_⟩
  · rw [sameZ, if_pos h2, e3, e2, Int.toNat_natCast, own_not hk1 hk h]
  · rw [e3]; have := own_pos (k := k) (zs := zs); omega
  · rw [e3]; omega
  · rw [e3, hfl, ← Int.ofNat_tmod]
    have := Nat.mod_eq_zero_of_dvd hd
    omega

end Go.Proofs.YtijpgbkjgjpmmaaDoor

/- It is proved that the call of the law FnSame returns true; conditions: those of each statement. -/
namespace Go.Proofs.YtijpgbkjgjpmmaaDoor
open Go.RowKit

def facN (k : Nat) : Nat := ([1, 1, 2, 6, 24, 120, 720] : List Nat)[k]?.getD 1
set_option maxRecDepth 100000 in
set_option maxHeartbeats 1600000 in
theorem factorial_any (n : Nat) (h1 : 1 ≤ n) (h6 : n ≤ 6) (w : World) :
    Calls Tryd.prog 16 #[.int .i64 (n : Int)] w fun e w' => e = .returned (.int .i64 ((facN n : Nat) : Int)) ∧ w = w' := by
  go_enter Tryd.func16, Tryd.ntmps16
  go_wp2
  go_loop [3, 4] (fun o k => ∃ (j : Nat) (f : Int), j + 1 ≤ n ∧ k = .int .i64 ((j : Int) + 2) ∧ f = ((facN (j + 1) : Nat) : Int) ∧ o = .int .i64 f) (fun _ k => 9 - (intOf k).toNat)
  case atStart => exact ⟨0, 1, by omega, rfl, rfl, rfl⟩
  case round =>
    obtain ⟨j, f, hj, rfl, hf, rfl⟩ := hrel
    by_cases hlt : j + 2 ≤ n
    · have hle : (j : Int) + 2 ≤ (n : Int) := by omega
      obtain rfl | rfl | rfl | rfl | rfl : j = 0 ∨ j = 1 ∨ j = 2 ∨ j = 3 ∨ j = 4 := by omega
      all_goals
        simp only [facN, List.getElem?_cons_succ, List.getElem?_cons_zero, Option.getD_some, Nat.reduceAdd] at hf
        subst hf
        go_wp2
        go_round
        case rel => first | exact ⟨1, _, by omega, by go_num, rfl, rfl⟩ | exact ⟨2, _, by omega, by go_num, rfl, rfl⟩ | exact ⟨3, _, by omega, by go_num, rfl, rfl⟩ | exact ⟨4, _, by omega, by go_num, rfl, rfl⟩ | exact ⟨5, _, by omega, by go_num, rfl, rfl⟩
        case measure => simp [intOf]
    · obtain rfl : n = j + 1 := by omega
      have hle : ¬ ((j : Int) + 2 ≤ ((j + 1 : Nat) : Int)) := by omega
      have HF := Lib.hid hf
      clear hf
      go_wp2
      go_ret
      exact ⟨by rw [← HF.out]; rfl, rfl⟩

set_option maxRecDepth 100000 in
set_option maxHeartbeats 8000000 in
theorem walkFnSame (a : Option Addr) (n cap : Nat) (w : World) (hb : Bys w w.heap.size a n) (hT : Tab w) (hn : n ≤ 1048576) (hc : n ≤ cap) (hc2 : cap ≤ 9223372036854775807) :
    Calls Tryd.prog 4 #[.slice a n cap] w fun e w' => e = .returned (.bool true) ∧ Below w.heap.size w w' := by
  have HBy := Lib.hid hb
  have HT := Lib.hid hT
  clear hb hT
  go_enter Tryd.func4, Tryd.ntmps4
  go_wp2_with fail
  refine (drawAlikeSame_any a n cap w HBy.out hn hc hc2).mono ?_
  rintro e w1 ⟨m, a1, zs, c1, rfl, hl, ho1, hb1⟩
  have F1 := FB.start (m := m) (c := c1) (own_ints ho1)
  have B1 := Lib.hid (hb1.trans ((below1 w1 (.cells #[.int .i64 m, .slice a1 zs.length c1] 25)).mono hb1.size))
  have hln : zs.length ≤ 1048576 := by omega
  have f_1 := Lib.hid F1
  clear F1 ho1 hb1
  obtain ⟨s, hs⟩ : ∃ s, s = sameZ m zs := ⟨_, rfl⟩
  have HS := Lib.hid hs
  clear hs
  have x0 := f_1.out.x0
  have x1 := f_1.out.x1
  go_wp2_with fail
  refine (implSame_any m a1 c1 zs _ f_1.out.ints (HT.out.below B1.out HT.out.lt) hln).mono ?_
  rw [← HS.out]
  rintro e w2 ⟨rfl, hb2⟩
  have B2 := Lib.hid (B1.out.trans (hb2.mono B1.out.size))
  have f_2 := Lib.hid (f_1.out.step hb2)
  clear hb2 B1 f_1 x0 x1
  have x0 := f_2.out.x0
  have x1 := f_2.out.x1
  go_wp2_with fail
  refine (specSame_any m a1 c1 zs _ f_2.out.ints hln).mono ?_
  rw [← HS.out]
  rintro e w3 ⟨rfl, hb3⟩
  have B3 := Lib.hid (B2.out.trans (hb3.mono B2.out.size))
  have f_3 := Lib.hid (f_2.out.step hb3)
  clear hb3 B2 f_2 x0 x1
  cases hd : famIn m zs
  · clear hd HS
    go_wp2
    go_ret
    exact ⟨rfl, B3.out⟩
  · have HD := Lib.hid hd
    have hm1 : 1 ≤ m := (famIn_out hd).1
    have hm6 : m ≤ 6 := (famIn_out hd).2.1
    clear hd
    obtain ⟨k, rfl⟩ : ∃ k : Nat, m = (k : Int) := ⟨m.toNat, by omega⟩
    obtain ⟨M, hM⟩ : ∃ M, M = otherM (k : Int) zs := ⟨_, rfl⟩
    obtain ⟨ys, hys⟩ : ∃ ys, ys = otherZ (k : Int) zs := ⟨_, rfl⟩
    have hyl : ys.length ≤ 1048576 := by rw [hys]; exact otherZ_len _ zs hln
    have HF : Hid (M = (k : Int) ∧ famIn (k : Int) ys = true ∧ sameZ (k : Int) ys = s ∧ 1 ≤ s ∧ s ≤ 720 ∧ ((facN k : Nat) : Int).tmod s = 0) := Lib.hid (by rw [hM, hys, HS.out]; exact same_facts HD.out)
    have HM := Lib.hid hM
    have HY := Lib.hid hys
    have hs1 := HF.out.2.2.2.1
    have hs720 := HF.out.2.2.2.2.1
    have hrem := HF.out.2.2.2.2.2
    have hs0 : (s == 0) = false := by simp; omega
    clear hM hys
    have x0 := f_3.out.x0
    have x1 := f_3.out.x1
    go_wp2_with fail
    refine (implOther_any (k : Int) a1 c1 zs _ f_3.out.ints hln).mono ?_
    rw [← HM.out, ← HY.out, HD.out, HF.out.1]
    rintro e w4 ⟨a4, c4, rfl, ho4, hb4⟩
    have F4 := FB.start (m := (k : Int)) (c := c4) (own_ints ho4)
    have hb4x := hb4.trans ((below1 w4 (.cells #[.int .i64 (k : Int), .slice a4 ys.length c4] 25)).mono hb4.size)
    have B4 := Lib.hid (B3.out.trans (hb4x.mono B3.out.size))
    have f_4 := Lib.hid (f_3.out.step hb4x)
    have g_4 := Lib.hid F4
    clear F4 ho4 hb4 hb4x B3 f_3 x0 x1
    have y0 := g_4.out.x0
    have y1 := g_4.out.x1
    go_wp2_with fail
    refine (implSame_any (k : Int) a4 c4 ys _ g_4.out.ints (HT.out.below B4.out HT.out.lt) hyl).mono ?_
    rw [HF.out.2.2.1, HF.out.2.1]
    rintro e w5 ⟨rfl, hb5⟩
    have B5 := Lib.hid (B4.out.trans (hb5.mono B4.out.size))
    have f_5 := Lib.hid (f_4.out.step hb5)
    clear hb5 B4 f_4 g_4 y0 y1
    have x0 := f_5.out.x0
    clear f_5
    go_wp2_with fail
    refine (factorial_any k (by omega) (by omega) _).mono ?_
    rintro e w6 ⟨rfl, rfl⟩
    go_wp2
    go_ret
    exact ⟨rfl, B5.out⟩

end Go.Proofs.YtijpgbkjgjpmmaaDoor

/- It is proved that what a row lists of the library's tables is what the walks ask of them; conditions: none but the row's. -/
namespace Go.Proofs.YtijpgbkjgjpmmaaDoor
open Go.ChangeShapes Go.WideShapes Go.ChangeAt Go.RowKit Go.Joins

def laidL : List (String × DataW Unit) := [("math/bits.deBruijn32tab", Rows.laid_math_bits_deBruijn32tab), ("math/bits.deBruijn64tab", Rows.laid_math_bits_deBruijn64tab)]
theorem Tryd.g0 : Tryd.prog.globalNamed "math/bits.deBruijn32tab" = some 0 := by kernel_rfl
theorem Tryd.g1 : Tryd.prog.globalNamed "math/bits.deBruijn64tab" = some 1 := by kernel_rfl
theorem Tryd.tg0 : (Tryd.prog.globals[0]?).map (·.type) = some 116 := by kernel_rfl
theorem Tryd.tg1 : (Tryd.prog.globals[1]?).map (·.type) = some 117 := by kernel_rfl
theorem tab_is : (Rows.laid_math_bits_deBruijn64tab : DataW Unit) = Lib.tabData .u8 (Lib.deBruijn64tab.map fun (n : Nat) => (n : Int)) := rfl
/-- The door's own heap meets the condition: closed facts. -/
theorem door_met (os : Os) (args : Array Value) : laidMetH Tryd.prog laidL ((World.doorLaid Tryd.prog 40 os).forCall (fun _ _ => 0) ⟨#[], args, []⟩).memory :=
  laidMetH_of_parts3 (fuel := 8) (laidMet_of_run' 8 (by kernel_rfl) (by kernel_rfl)) (by kernel_rfl) (by kernel_rfl)

set_option maxRecDepth 100000 in
theorem tab_of_laid {W : World} (h : laidMetH Tryd.prog laidL W) : Tab W := by
  rw [MakeChecks.laidMetH_plain _ _ _ (by kernel_rfl)] at h
  obtain ⟨ps, ⟨g0, t0, cs0, f0, p0, q0, hg0, ht0, hv0, hd0, ⟨g1, t1, cs1, f1, p1, q1, hg1, ht1, hv1, hd1, _, _⟩, _⟩, _, _⟩ := h
  obtain rfl := Option.some.inj (Tryd.g1.symm.trans hg1)
  obtain rfl := Option.some.inj (Tryd.tg1.symm.trans ht1)
  rw [tab_is] at hd1
  have hcs := Lib.cells_of_tab (n := 64) (e := 5) Tryd.underlying117 Tryd.underlying5 (by kernel_rfl) (by kernel_rfl) hd1
  intro j hj
  have h1 := World.var?_cell hg1 hv1 j
  rw [h1, ← Array.getElem?_toList, hcs]
  simp [List.getD, hj]

end Go.Proofs.YtijpgbkjgjpmmaaDoor
