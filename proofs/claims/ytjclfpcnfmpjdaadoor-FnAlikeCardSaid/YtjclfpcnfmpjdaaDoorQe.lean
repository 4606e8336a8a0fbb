/- It is proved that own names divide all names, and are those of the family of all other members; conditions: those of each statement. -/
import Derived.RowKit
import Derived.Laws.CopyRow
import Derived.Lib.SlBuf
import Derived.Deep.QuietTactic
import Derived.RangeFuncNested
import Derived.RangeFuncBound
import Derived.RangeFuncCalls
import Derived.RangeFuncLeaves
import Derived.RangeFuncBox
import Derived.RangeFuncWrites
import Derived.StillTailTactics
import Derived.Maps.OwnIn
import Derived.Maps.Ext
import Derived.DeepKeys4
import Derived.MapKept
import Derived.Test.YtjclfpcnfmpjdaaDoorRows
import Derived.WalkKit
import Derived.WalkSpells
import Derived.ProofKit
import Derived.OpenShut
import Derived.ShutString
import Derived.ChangeOld
import Derived.Below
import Derived.Deep.RegionHeld3
import Derived.BigQuiet
import Derived.Lib.Hide
import Derived.Lib.SmallJoins
import Derived.Outline
import Derived.Laws.MakeOwn
import Derived.Laws.OwnMore
import Derived.IntWalk
import Derived.Maps.AppendAt
import Derived.Sort.MapsRangeIn
import Derived.Deep.RegionLaw
import Derived.Deep.AppendLies
import Derived.Lib.AppendZeros
import Derived.OwnWalk
import Derived.Lib.SlicesCompact
import Derived.Lib.OwnBridge
import Derived.OrdersIn
import Derived.TacticsIn
import Derived.Shelf.Sort.Plain
import Derived.Shelf.Slices.In.SortNone
import Derived.Shelf.Slices.CompactI
import Derived.Ground.Names2Prog
import Derived.Shelf.Abstract
import Derived.Shelf.RegionOpen
import Derived.OwnWalkIn
import Derived.TacticsInMore
import Derived.LoopNIn
import Derived.LoopIn
import Derived.StillTail
import Derived.StillTactics
import Derived.Shelf.Spec.TrailingZeros
import Derived.Test.YtjclfpcnfmpjdaaDoorMsa
import Derived.Test.YtjclfpcnfmpjdaaDoorMsb
import Derived.Test.YtjclfpcnfmpjdaaDoorCe
import Derived.Test.YtjclfpcnfmpjdaaDoorPq
import Derived.Test.YtjclfpcnfmpjdaaDoorPso
import Derived.Test.YtjclfpcnfmpjdaaDoorPzB
import Derived.Test.YtjclfpcnfmpjdaaDoorQb
import Derived.Test.YtjclfpcnfmpjdaaDoorQc
import Derived.Test.YtjclfpcnfmpjdaaDoorY
namespace Go.Proofs.YtjclfpcnfmpjdaaDoor
open Go.RowKit

theorem permsL_nodup : ∀ (k : Nat) (us : List Nat), us.Nodup → (permsL k us).Nodup
  | 0, us, h => by simp [permsL]
  | k + 1, us, h => by
    unfold permsL
    unfold List.Nodup
    rw [List.pairwise_flatMap]
    refine ⟨fun v hv => ?_, ?_⟩
    · rw [List.pairwise_map]
      exact (permsL_nodup k _ (h.erase v)).imp (fun hne e => hne (by injection e))
    · refine h.imp fun hne x hx y hy e => ?_
      obtain ⟨x1, -, rfl⟩ := List.mem_map.1 hx
      obtain ⟨y1, -, rfl⟩ := List.mem_map.1 hy
      injection e with e1 e2
      exact hne e1

theorem lvl_nodup (k : Nat) : (lvlL k k).Nodup := by rw [lvlL_perms]; exact permsL_nodup k _ List.nodup_range
theorem comp_assoc {p q r : List Nat} (h : ∀ v ∈ p, v < q.length) : compN (compN p q) r = compN p (compN q r) := by
  unfold compN
  rw [List.map_map]
  apply List.map_congr_left
  intro v hv
  have := h v hv
  simp [this]

theorem comp_idR {k : Nat} {p : List Nat} (hp : p ∈ lvlL k k) : compN p (List.range k) = p := by
  unfold compN
  conv => rhs; rw [← List.map_id p]
  apply List.map_congr_left
  intro v hv
  have := lvlL_lt hp v hv
  simp [this]

theorem comp_idL {k : Nat} {p : List Nat} (hp : p ∈ lvlL k k) : compN (List.range k) p = p := at_range (lvlL_in hp)
/-- Names the other way. -/
def invN (k : Nat) (p : List Nat) : List Nat := (List.range k).map fun i => p.idxOf i

theorem idx_map {p : List Nat} (h : p.Nodup) : p.map (fun v => p.idxOf v) = List.range p.length := by
  apply List.ext_getElem
  · simp
  · intro i h1 h2
    have hi : i < p.length := by simpa using h1
    simp only [List.getElem_map, List.getElem_range]
    exact h.idxOf_getElem i hi

theorem inv_in {k : Nat} {p : List Nat} (hp : p ∈ lvlL k k) : invN k p ∈ lvlL k k := by
  have h := lvl_perm.1 hp
  rw [lvl_perm]
  have hn : p.Nodup := h.symm.nodup List.nodup_range
  have h1 : ((List.range k).map fun i => p.idxOf i).Perm (p.map fun i => p.idxOf i) := h.symm.map _
  rw [idx_map hn, lvlL_in hp] at h1
  exact h1

theorem comp_inv {k : Nat} {p : List Nat} (hp : p ∈ lvlL k k) : compN p (invN k p) = List.range k := by
  have h := lvl_perm.1 hp
  have hn : p.Nodup := h.symm.nodup List.nodup_range
  have : compN p (invN k p) = p.map (fun v => p.idxOf v) := by
    unfold compN
    apply List.map_congr_left
    intro v hv
    have := lvlL_lt hp v hv
    simp [invN, this]
  rw [this, idx_map hn, lvlL_in hp]

theorem inv_comp {k : Nat} {p : List Nat} (hp : p ∈ lvlL k k) : compN (invN k p) p = List.range k := by
  have h := lvl_perm.1 hp
  unfold compN invN
  rw [List.map_map]
  conv => rhs; rw [← List.map_id (List.range k)]
  apply List.map_congr_left
  intro v hv
  have hm : v ∈ p := h.symm.subset hv
  have hi := List.idxOf_lt_length_of_mem hm
  simp only [Function.comp, id]
  rw [List.getElem?_eq_getElem hi, Option.getD_some, List.getElem_idxOf]

def keepsN (k : Nat) (zs : List Int) (p : List Nat) : Bool := decide (lstP zs p = lstP zs (List.range k))
theorem own_keep (k : Nat) (zs : List Int) : ownL k zs = (lvlL k k).filter (keepsN k zs) := by
  rw [ownL, ← lvlL_perms]
  apply List.filter_congr
  intro p _
  rw [Bool.eq_iff_iff]
  simp only [keepsN, beq_iff_eq, decide_eq_true_eq]
  exact lst_eq rfl

theorem own_mem {k : Nat} {zs : List Int} {p : List Nat} : p ∈ ownL k zs ↔ p ∈ lvlL k k ∧ lstP zs p = lstP zs (List.range k) := by
  rw [own_keep, List.mem_filter, keepsN, decide_eq_true_eq]

def clsL (k : Nat) (zs : List Int) (r : List Nat) : List (List Nat) := (lvlL k k).filter fun p => decide (lstP zs p = lstP zs r)
theorem cls_len {k : Nat} (hk : k ≤ 6) {zs : List Int} (hf : famIn (k : Int) zs = true) {r : List Nat} (hr : r ∈ lvlL k k) : (clsL k zs r).length = (ownL k zs).length := by
  have lt_of : ∀ {p q : List Nat}, p ∈ lvlL k k → q ∈ lvlL k k → ∀ v ∈ p, v < q.length := fun hp hq v hv => by rw [lvlL_in hq]; exact lvlL_lt hp v hv
  have hback : ∀ q ∈ lvlL k k, compN (compN q r) (invN k r) = q := fun q hq => by
    rw [comp_assoc (lt_of hq hr), comp_inv hr, comp_idR hq]
  have h : (clsL k zs r).Perm ((ownL k zs).map fun q => compN q r) := by
    refine (List.perm_ext_iff_of_nodup ?_ ?_).2 fun p => ?_
    · exact List.Pairwise.filter _ (lvl_nodup k)
    · unfold List.Nodup
      rw [List.pairwise_map]
      refine List.Pairwise.imp_of_mem ?_ (show (ownL k zs).Pairwise (· ≠ ·) from by rw [own_keep]; exact List.Pairwise.filter _ (lvl_nodup k))
      intro x y hx hy hne e
      apply hne
      rw [← hback x (own_mem.1 hx).1, ← hback y (own_mem.1 hy).1, e]
    · rw [clsL, List.mem_filter, decide_eq_true_eq, List.mem_map]
      constructor
      · rintro ⟨hp, he⟩
        refine ⟨compN p (invN k r), own_mem.2 ⟨comp_in hp (inv_in hr), ?_⟩, ?_⟩
        · rw [← lst_comp hk hp (inv_in hr) hf, he, lst_comp hk hr (inv_in hr) hf, comp_inv hr]
        · rw [comp_assoc (lt_of hp (inv_in hr)), inv_comp hr, comp_idR hp]
      · rintro ⟨q, hq, rfl⟩
        obtain ⟨hq1, hq2⟩ := own_mem.1 hq
        refine ⟨comp_in hq1 hr, ?_⟩
        rw [← lst_comp hk hq1 hr hf, hq2, lst_comp hk (range_in k) hr hf, comp_idL hr]
  rw [h.length_eq, List.length_map]

theorem dvd_classes {α β : Type} [DecidableEq β] (v : α → β) (g : Nat) : ∀ (n : Nat) (xs : List α), xs.length ≤ n → (∀ x ∈ xs, (xs.filter fun y => decide (v y = v x)).length = g) → g ∣ xs.length
  | 0, xs, hl, _ => by
    have : xs = [] := List.eq_nil_of_length_eq_zero (by omega)
    subst this
    exact ⟨0, rfl⟩
  | n + 1, [], _, _ => ⟨0, rfl⟩
  | n + 1, x :: t, hl, h => by
    have h1 := h x (by simp)
    have hsp : (x :: t).length = ((x :: t).filter fun y => decide (v y = v x)).length + ((x :: t).filter fun y => !decide (v y = v x)).length := by
      rw [← List.countP_eq_length_filter, ← List.countP_eq_length_filter]
      have := List.length_eq_countP_add_countP (p := fun y => decide (v y = v x)) (l := x :: t)
      simpa using this
    have hlt : ((x :: t).filter fun y => !decide (v y = v x)).length ≤ n := by
      have : 0 < ((x :: t).filter fun y => decide (v y = v x)).length := List.length_pos_of_mem (a := x) (List.mem_filter.2 ⟨by simp, by simp⟩)
      omega
    have ih := dvd_classes v g n ((x :: t).filter fun y => !decide (v y = v x)) hlt (by
      intro y hy
      obtain ⟨hy1, hy2⟩ := List.mem_filter.1 hy
      rw [List.filter_filter, ← h y hy1]
      congr 1
      apply List.filter_congr
      intro z _
      by_cases hz : v z = v y
      · have : ¬ v y = v x := by simpa using hy2
        simp [hz, this]
      · simp [hz])
    rw [hsp, h1]
    exact (Nat.dvd_add_right (Nat.dvd_refl g)).2 ih

theorem own_dvd {k : Nat} (hk : k ≤ 6) {zs : List Int} (hf : famIn (k : Int) zs = true) : (ownL k zs).length ∣ (lvlL k k).length :=
  dvd_classes (fun p => lstP zs p) _ _ (lvlL k k) (Nat.le_refl _) (fun p hp => cls_len hk hf hp)

theorem own_pos {k : Nat} {zs : List Int} : 1 ≤ (ownL k zs).length := List.length_pos_of_mem (own_mem.2 ⟨range_in k, rfl⟩)
/-! ### all other members -/
def notZ (k : Nat) (z : Int) : Int := bits .andNot .i64 (fullI (k : Int)) z
theorem notZ_nat {k s : Nat} (hk1 : 1 ≤ k) (hk : k ≤ 6) (hs : s < 64) : notZ k (s : Int) = (((2 ^ k - 1) ^^^ ((2 ^ k - 1) &&& s) : Nat) : Int) := bits_not_nat k s hk1 hk hs
theorem callZ_not {k : Nat} (hk1 : 1 ≤ k) (hk : k ≤ 6) {p : List Nat} (hp : p ∈ lvlL k k) {z : Int} (h0 : 0 ≤ z) (hz : z.toNat < 2 ^ k) : callZ (nI p) (notZ k z) = notZ k (callZ (nI p) z) := by
  obtain ⟨s, rfl⟩ : ∃ s : Nat, z = (s : Int) := ⟨z.toNat, by omega⟩
  rw [Int.toNat_natCast] at hz
  have h64 : 2 ^ k ≤ 64 := pow64 k hk
  have hpl := lvlL_in hp
  have hN : (2 ^ k - 1) ^^^ ((2 ^ k - 1) &&& s) < 2 ^ k := Nat.xor_lt_two_pow (n := k) (by have := Nat.one_le_two_pow (n := k); omega) (Nat.lt_of_le_of_lt Nat.and_le_left (by have := Nat.one_le_two_pow (n := k); omega))
  have hc := called_lt hk (perm_names hk hp) hz
  unfold callZ
  rw [notZ_nat hk1 hk (by omega), Int.toNat_natCast, Int.toNat_natCast, notZ_nat hk1 hk (by omega)]
  congr 1
  apply Nat.eq_of_testBit_eq
  intro i
  by_cases hi : i < k
  · obtain ⟨v, hv, e⟩ := List.getElem_of_mem (show i ∈ p from (lvl_perm.1 hp).symm.subset (List.mem_range.2 hi))
    have hvk : v < k := by omega
    have e1 : p[v]?.getD 0 = i := by simp [hv, e]
    have b1 := called_bit hk (perm_names hk hp) hN hvk
    have b2 := called_bit hk (perm_names hk hp) hz hvk
    rw [nI_at p _ (by omega), e1] at b1 b2
    rw [b1]
    simp only [Nat.testBit_xor, Nat.testBit_and, b2, Nat.testBit_two_pow_sub_one, hi, hvk]
  · have hpw : 2 ^ k ≤ 2 ^ i := Nat.pow_le_pow_right (by decide) (by omega)
    rw [Nat.testBit_lt_two_pow (Nat.lt_of_lt_of_le (called_lt hk (perm_names hk hp) hN) hpw), Nat.testBit_lt_two_pow (Nat.lt_of_lt_of_le (Nat.xor_lt_two_pow (n := k) (by have := Nat.one_le_two_pow (n := k); omega) (Nat.lt_of_le_of_lt Nat.and_le_left (by have := Nat.one_le_two_pow (n := k); omega))) hpw)]

theorem lst_iff {zs : List Int} {p q : List Nat} : lstP zs p = lstP zs q ↔ (zs.map (callZ (nI p))).Perm (zs.map (callZ (nI q))) :=
  ⟨fun h => (lst_perm zs p).symm.trans (h ▸ lst_perm zs q), fun h => sortZ_congr h⟩

theorem not_not {k : Nat} (hk1 : 1 ≤ k) (hk : k ≤ 6) {xs : List Int} (hf : famIn (k : Int) xs = true) : (xs.map (notZ k)).map (notZ k) = xs := by
  rw [List.map_map]
  conv => rhs; rw [← List.map_id xs]
  apply List.map_congr_left
  intro z hz
  have h1 := (famIn_out hf).2.2.2 z hz
  exact other_other (by omega) (by omega) h1.1 h1.2

theorem lst_not {k : Nat} (hk1 : 1 ≤ k) (hk : k ≤ 6) {zs : List Int} (hf : famIn (k : Int) zs = true) {p q : List Nat} (hp : p ∈ lvlL k k) (hq : q ∈ lvlL k k) :
    lstP (zs.map (notZ k)) p = lstP (zs.map (notZ k)) q ↔ lstP zs p = lstP zs q := by
  have e : ∀ {r : List Nat}, r ∈ lvlL k k → (zs.map (notZ k)).map (callZ (nI r)) = (zs.map (callZ (nI r))).map (notZ k) := fun {r} hr => by
    rw [List.map_map, List.map_map]
    exact List.map_congr_left fun z hz => callZ_not hk1 hk hr (fam_small hf z hz).1 (fam_small hf z hz).2
  rw [lst_iff, lst_iff, e hp, e hq]
  constructor
  · intro h
    have h2 := h.map (notZ k)
    rwa [not_not hk1 hk (fam_called hk hp hf), not_not hk1 hk (fam_called hk hq hf)] at h2
  · intro h
    exact h.map _

theorem own_not {k : Nat} (hk1 : 1 ≤ k) (hk : k ≤ 6) {zs : List Int} (hf : famIn (k : Int) zs = true) : ownL k (zs.map (notZ k)) = ownL k zs := by
  rw [own_keep, own_keep]
  apply List.filter_congr
  intro p hp
  rw [keepsN, keepsN]
  exact decide_eq_decide.2 (lst_not hk1 hk hf hp (range_in k))

theorem lvl_fact : ∀ k : Fin 7, (lvlL k.val k.val).length = [1, 1, 2, 6, 24, 120, 720][k.val] := by decide +kernel
theorem same_facts {m : Int} {zs : List Int} (h : famIn m zs = true) : otherM m zs = m ∧ famIn m (otherZ m zs) = true ∧ sameZ m (otherZ m zs) = sameZ m zs ∧ 1 ≤ sameZ m zs ∧ sameZ m zs ≤ 720 ∧
    ((([1, 1, 2, 6, 24, 120, 720] : List Nat)[m.toNat]?.getD 1 : Nat) : Int).tmod (sameZ m zs) = 0 := by
  obtain ⟨hm1, hm6, -, -⟩ := famIn_out h
  obtain ⟨k, rfl⟩ : ∃ k : Nat, m = (k : Int) := ⟨m.toNat, by omega⟩
  have hk : k ≤ 6 := by omega
  have hk1 : 1 ≤ k := by omega
  have e1 : otherM (k : Int) zs = k := by simp [otherM, h]
  have e2 : otherZ (k : Int) zs = zs.map (notZ k) := by rw [otherZ, if_pos h]; rfl
  have h2 := (other_facts h).1
  rw [e1] at h2
  have e3 : sameZ (k : Int) zs = ((ownL k zs).length : Int) := by rw [sameZ, if_pos h]; rfl
  have hlen := lvl_fact ⟨k, by omega⟩
  have hd := own_dvd hk h
  have hle : (ownL k zs).length ≤ (lvlL k k).length := Nat.le_of_dvd (lvlL_pos hk) hd
  have h720 : (lvlL k k).length ≤ 720 := by
    have : ∀ k : Fin 7, (lvlL k.val k.val).length ≤ 720 := by decide +kernel
    exact this ⟨k, by omega⟩
  have hfl : ([1, 1, 2, 6, 24, 120, 720] : List Nat)[(k : Int).toNat]?.getD 1 = (lvlL k k).length := by
    rw [Int.toNat_natCast, hlen]
    simp [show k < 7 by omega]
  refine ⟨e1, h2, ?_, ?_, ?_, ?_⟩
  · rw [sameZ, if_pos h2, e3, e2, Int.toNat_natCast, own_not hk1 hk h]
  · rw [e3]; have := own_pos (k := k) (zs := zs); omega
  · rw [e3]; omega
  · rw [e3, hfl, ← Int.ofNat_tmod]
    have := Nat.mod_eq_zero_of_dvd hd
    omega

end Go.Proofs.YtjclfpcnfmpjdaaDoor
