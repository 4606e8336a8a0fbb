/- It is proved that names may be called one behind the other, and that the least list is its own least list; conditions: those of each statement. -/
import Derived.RowKit
import Derived.Laws.CopyRow
import Derived.Lib.SlBuf
import Derived.Deep.QuietTactic
import Derived.RangeFuncNested
import Derived.RangeFuncBound
import Derived.RangeFuncCalls
import Derived.RangeFuncLeaves
import Derived.RangeFuncBox
import Derived.RangeFuncWrites
import Derived.StillTailTactics
import Derived.Maps.OwnIn
import Derived.Maps.Ext
import Derived.DeepKeys4
import Derived.MapKept
import Derived.Test.YtcnicdaagknmpaaDoorRows
import Derived.WalkKit
import Derived.WalkSpells
import Derived.ProofKit
import Derived.OpenShut
import Derived.ShutString
import Derived.ChangeOld
import Derived.Below
import Derived.Deep.RegionHeld3
import Derived.BigQuiet
import Derived.Lib.Hide
import Derived.Lib.SmallJoins
import Derived.Outline
import Derived.Laws.MakeOwn
import Derived.Laws.OwnMore
import Derived.IntWalk
import Derived.Maps.AppendAt
import Derived.Sort.MapsRangeIn
import Derived.Deep.RegionLaw
import Derived.Deep.AppendLies
import Derived.Lib.AppendZeros
import Derived.OwnWalk
import Derived.Lib.SlicesCompact
import Derived.Lib.OwnBridge
import Derived.OrdersIn
import Derived.TacticsIn
import Derived.Shelf.Sort.Plain
import Derived.Shelf.Slices.In.SortNone
import Derived.Shelf.Slices.CompactI
import Derived.Ground.Names2Prog
import Derived.Shelf.Abstract
import Derived.Shelf.RegionOpen
import Derived.OwnWalkIn
import Derived.TacticsInMore
import Derived.LoopNIn
import Derived.LoopIn
import Derived.StillTail
import Derived.StillTactics
import Derived.Shelf.Spec.TrailingZeros
import Derived.Test.YtcnicdaagknmpaaDoorGaab
import Derived.Test.YtcnicdaagknmpaaDoorGaae
import Derived.Test.YtcnicdaagknmpaaDoorGaag
import Derived.Test.YtcnicdaagknmpaaDoorGaai
import Derived.Test.YtcnicdaagknmpaaDoorGaaj
import Derived.Test.YtcnicdaagknmpaaDoorGaam
import Derived.Test.YtcnicdaagknmpaaDoorGaan
import Derived.Test.YtcnicdaagknmpaaDoorGaaa
import Derived.Test.YtcnicdaagknmpaaDoorGaac
import Derived.Test.YtcnicdaagknmpaaDoorGaaq
import Derived.Test.YtcnicdaagknmpaaDoorGaar
import Derived.Test.YtcnicdaagknmpaaDoorGaad
import Derived.Deep.RegionWith
namespace Go.Proofs.YtcnicdaagknmpaaDoor
open Go.RowKit

/-- Names behind names. -/
def compN (p q : List Nat) : List Nat := p.map fun v => q[v]?.getD 0

theorem permsL_in : ∀ (k : Nat) (us p : List Nat), us.length = k → p.Perm us → p ∈ permsL k us
  | 0, us, p, hl, hp => by
    have h1 : us = [] := List.eq_nil_of_length_eq_zero hl
    subst h1
    have h2 : p = [] := List.Perm.eq_nil hp
    simp [permsL, h2]
  | k + 1, us, p, hl, hp => by
    cases p with
    | nil => have := hp.length_eq; simp at this; omega
    | cons v p =>
      obtain ⟨hv, h2⟩ := List.cons_perm_iff_perm_erase.1 hp
      simp only [permsL, List.mem_flatMap, List.mem_map]
      exact ⟨v, hv, p, permsL_in k _ _ (by rw [List.length_erase_of_mem hv]; omega) h2, rfl⟩

theorem lvl_perm {k : Nat} {p : List Nat} : p ∈ lvlL k k ↔ p.Perm (List.range k) := by
  rw [lvlL_perms]
  exact ⟨permsL_perm k _ _ (by simp), permsL_in k _ _ (by simp)⟩

theorem at_range {k : Nat} {q : List Nat} (hl : q.length = k) : ((List.range k).map fun v => q[v]?.getD 0) = q := by
  apply List.ext_getElem
  · simp [hl]
  · intro i h1 h2
    simp [h2]

theorem comp_in {k : Nat} {p q : List Nat} (hp : p ∈ lvlL k k) (hq : q ∈ lvlL k k) : compN p q ∈ lvlL k k := by
  rw [lvl_perm] at hp hq ⊢
  have h1 : (compN p q).Perm ((List.range k).map fun v => q[v]?.getD 0) := hp.map _
  rw [at_range (by simpa using hq.length_eq)] at h1
  exact h1.trans hq

theorem nI_at (p : List Nat) (v : Nat) (h : v < p.length) : ((nI p)[v]?.getD 0).toNat = p[v]?.getD 0 := by simp [nI, h]
theorem called_comp {k : Nat} (hk : k ≤ 6) {p q : List Nat} (hp : p ∈ lvlL k k) (hq : q ∈ lvlL k k) {s : Nat} (hs : s < 2 ^ k) : called (nI q) (called (nI p) s) = called (nI (compN p q)) s := by
  have hc := comp_in hp hq
  have hpl := lvlL_in hp
  have hql := lvlL_in hq
  have hcl := lvlL_in hc
  have hs2 := called_lt hk (perm_names hk hp) hs
  apply Nat.eq_of_testBit_eq
  intro i
  by_cases hi : i < k
  · obtain ⟨v, hv, e⟩ := List.getElem_of_mem (show i ∈ compN p q from (lvl_perm.1 hc).symm.subset (List.mem_range.2 hi))
    have hvk : v < k := by omega
    have hpv : p[v]?.getD 0 < k := by
      have := lvlL_lt hp p[v] (List.getElem_mem _)
      simpa [show v < p.length by omega] using this
    have e1 : (compN p q)[v]?.getD 0 = i := by simp [hv, e]
    have e2 : q[p[v]?.getD 0]?.getD 0 = i := by
      rw [← e1]
      simp [compN, show v < p.length by omega]
    have b1 := called_bit hk (perm_names hk hq) hs2 hpv
    rw [nI_at q _ (by omega), e2] at b1
    have b2 := called_bit hk (perm_names hk hp) hs hvk
    rw [nI_at p _ (by omega)] at b2
    have b3 := called_bit hk (perm_names hk hc) hs hvk
    rw [nI_at _ _ (by omega), e1] at b3
    rw [b1, b2, b3]
  · have hpw : 2 ^ k ≤ 2 ^ i := Nat.pow_le_pow_right (by decide) (by omega)
    rw [Nat.testBit_lt_two_pow (Nat.lt_of_lt_of_le (called_lt hk (perm_names hk hq) hs2) hpw), Nat.testBit_lt_two_pow (Nat.lt_of_lt_of_le (called_lt hk (perm_names hk hc) hs) hpw)]

theorem callZ_comp {k : Nat} (hk : k ≤ 6) {p q : List Nat} (hp : p ∈ lvlL k k) (hq : q ∈ lvlL k k) {z : Int} (hz : z.toNat < 2 ^ k) : callZ (nI q) (callZ (nI p) z) = callZ (nI (compN p q)) z := by
  unfold callZ
  rw [Int.toNat_natCast, called_comp hk hp hq hz]

theorem range_in (k : Nat) : List.range k ∈ lvlL k k := lvl_perm.2 (List.Perm.refl _)
theorem callZ_id {k : Nat} (hk : k ≤ 6) {z : Int} (h0 : 0 ≤ z) (hz : z.toNat < 2 ^ k) : callZ (nI (List.range k)) z = z := by
  have : called (nI (List.range k)) z.toNat = z.toNat := by
    apply Nat.eq_of_testBit_eq
    intro i
    by_cases hi : i < k
    · have b1 := called_bit hk (perm_names hk (range_in k)) hz hi
      rw [nI_at _ _ (by simpa using hi)] at b1
      simpa [hi] using b1
    · have hpw : 2 ^ k ≤ 2 ^ i := Nat.pow_le_pow_right (by decide) (by omega)
      rw [Nat.testBit_lt_two_pow (Nat.lt_of_lt_of_le (called_lt hk (perm_names hk (range_in k)) hz) hpw), Nat.testBit_lt_two_pow (Nat.lt_of_lt_of_le hz hpw)]
  unfold callZ
  rw [this]
  omega

theorem fam_small {k : Nat} {zs : List Int} (h : famIn (k : Int) zs = true) : ∀ z ∈ zs, 0 ≤ z ∧ z.toNat < 2 ^ k := by
  intro z hz
  have h1 := (famIn_out h).2.2.2 z hz
  have h6 : fullI (k : Int) = ((2 ^ k - 1 : Nat) : Int) := full_nat k
  have h7 : 1 ≤ 2 ^ k := Nat.one_le_two_pow
  omega

theorem fam_called {k : Nat} (hk : k ≤ 6) {p : List Nat} (hp : p ∈ lvlL k k) {zs : List Int} (hf : famIn (k : Int) zs = true) : famIn (k : Int) (zs.map (callZ (nI p))) = true := by
  have h2 : namIn (k : Int) zs (nI p) = true := by
    rw [namIn, hf, Bool.true_and]
    exact perm_names hk hp
  have := (named_facts h2).2.2.1
  rwa [namZ, if_pos h2] at this

theorem lst_perm (zs : List Int) (p : List Nat) : (lstP zs p).Perm (zs.map (callZ (nI p))) := List.mergeSort_perm _ _
theorem lst_comp {k : Nat} (hk : k ≤ 6) {p q : List Nat} (hp : p ∈ lvlL k k) (hq : q ∈ lvlL k k) {zs : List Int} (hf : famIn (k : Int) zs = true) : lstP (lstP zs p) q = lstP zs (compN p q) := by
  have h1 : ((lstP zs p).map (callZ (nI q))).Perm (zs.map (callZ (nI (compN p q)))) := by
    refine ((lst_perm zs p).map _).trans ?_
    rw [List.map_map, show zs.map (callZ (nI q) ∘ callZ (nI p)) = zs.map (callZ (nI (compN p q))) from List.map_congr_left fun z hz => callZ_comp hk hp hq (fam_small hf z hz).2]
  exact sortZ_congr h1

theorem least_le {k : Nat} (hk : k ≤ 6) (zs : List Int) {r : List Nat} (hr : r ∈ lvlL k k) : lexB (lstP zs r) (lstP zs (firstN k zs)) = false := by
  obtain ⟨j, hj, rfl⟩ := List.getElem_of_mem hr
  have h1 := bestG_least zs (lvlL k k) ((lvlL k k).length - 1) j (by omega)
  rw [bestG_of] at h1
  simpa [hj, firstN] using h1

end Go.Proofs.YtcnicdaagknmpaaDoor

/- It is proved that own names divide all names, and are those of the family of all other members; conditions: those of each statement. -/
namespace Go.Proofs.YtcnicdaagknmpaaDoor
open Go.RowKit

theorem comp_idL {k : Nat} {p : List Nat} (hp : p ∈ lvlL k k) : compN (List.range k) p = p := at_range (lvlL_in hp)
/-- Names the other way. -/
def invN (k : Nat) (p : List Nat) : List Nat := (List.range k).map fun i => p.idxOf i

theorem idx_map {p : List Nat} (h : p.Nodup) : p.map (fun v => p.idxOf v) = List.range p.length := by
  apply List.ext_getElem
  · simp
  · intro i h1 h2
    have hi : i < p.length := by simpa using h1
    simp only [List.getElem_map, List.getElem_range]
    exact h.idxOf_getElem i hi

theorem inv_in {k : Nat} {p : List Nat} (hp : p ∈ lvlL k k) : invN k p ∈ lvlL k k := by
  have h := lvl_perm.1 hp
  rw [lvl_perm]
  have hn : p.Nodup := h.symm.nodup List.nodup_range
  have h1 : ((List.range k).map fun i => p.idxOf i).Perm (p.map fun i => p.idxOf i) := h.symm.map _
  rw [idx_map hn, lvlL_in hp] at h1
  exact h1

theorem comp_inv {k : Nat} {p : List Nat} (hp : p ∈ lvlL k k) : compN p (invN k p) = List.range k := by
  have h := lvl_perm.1 hp
  have hn : p.Nodup := h.symm.nodup List.nodup_range
  have : compN p (invN k p) = p.map (fun v => p.idxOf v) := by
    unfold compN
    apply List.map_congr_left
    intro v hv
    have := lvlL_lt hp v hv
    simp [invN, this]
  rw [this, idx_map hn, lvlL_in hp]

/-! ### all other members -/
def notZ (k : Nat) (z : Int) : Int := bits .andNot .i64 (fullI (k : Int)) z
theorem notZ_nat {k s : Nat} (hk1 : 1 ≤ k) (hk : k ≤ 6) (hs : s < 64) : notZ k (s : Int) = (((2 ^ k - 1) ^^^ ((2 ^ k - 1) &&& s) : Nat) : Int) := bits_not_nat k s hk1 hk hs
theorem callZ_not {k : Nat} (hk1 : 1 ≤ k) (hk : k ≤ 6) {p : List Nat} (hp : p ∈ lvlL k k) {z : Int} (h0 : 0 ≤ z) (hz : z.toNat < 2 ^ k) : callZ (nI p) (notZ k z) = notZ k (callZ (nI p) z) := by
  obtain ⟨s, rfl⟩ : ∃ s : Nat, z = (s : Int) := ⟨z.toNat, by omega⟩
  rw [Int.toNat_natCast] at hz
  have h64 : 2 ^ k ≤ 64 := pow64 k hk
  have hpl := lvlL_in hp
  have hN : (2 ^ k - 1) ^^^ ((2 ^ k - 1) &&& s) < 2 ^ k := Nat.xor_lt_two_pow (n := k) (by have := Nat.one_le_two_pow (n := k); omega) (Nat.lt_of_le_of_lt Nat.and_le_left (by have := Nat.one_le_two_pow (n := k); omega))
  have hc := called_lt hk (perm_names hk hp) hz
  unfold callZ
  rw [notZ_nat hk1 hk (by omega), Int.toNat_natCast, Int.toNat_natCast, notZ_nat hk1 hk (by omega)]
  congr 1
  apply Nat.eq_of_testBit_eq
  intro i
  by_cases hi : i < k
  · obtain ⟨v, hv, e⟩ := List.getElem_of_mem (show i ∈ p from (lvl_perm.1 hp).symm.subset (List.mem_range.2 hi))
    have hvk : v < k := by omega
    have e1 : p[v]?.getD 0 = i := by simp [hv, e]
    have b1 := called_bit hk (perm_names hk hp) hN hvk
    have b2 := called_bit hk (perm_names hk hp) hz hvk
    rw [nI_at p _ (by omega), e1] at b1 b2
    rw [b1]
    simp only [Nat.testBit_xor, Nat.testBit_and, b2, Nat.testBit_two_pow_sub_one, hi, hvk]
  · have hpw : 2 ^ k ≤ 2 ^ i := Nat.pow_le_pow_right (by decide) (by omega)
    rw [Nat.testBit_lt_two_pow (Nat.lt_of_lt_of_le (called_lt hk (perm_names hk hp) hN) hpw), Nat.testBit_lt_two_pow (Nat.lt_of_lt_of_le (Nat.xor_lt_two_pow (n := k) (by have := Nat.one_le_two_pow (n := k); omega) (Nat.lt_of_le_of_lt Nat.and_le_left (by have := Nat.one_le_two_pow (n := k); omega))) hpw)]

end Go.Proofs.YtcnicdaagknmpaaDoor

/- It is proved that the orbits of a family's own names divide its members, have members of one degree, and sizes that divide the number of own names; conditions: those of each statement. -/
namespace Go.Proofs.YtcnicdaagknmpaaDoor
open Go.RowKit

theorem name_lt {k : Nat} {p : List Nat} (hp : p ∈ lvlL k k) {v : Nat} (hv : v < k) : p[v]?.getD 0 < k := by
  have hl := lvlL_in hp
  have := lvlL_lt hp p[v] (List.getElem_mem _)
  simpa [show v < p.length by omega] using this

/-! ### orbits as sets -/
/-! ### sizes -/
/-! ### degrees -/
theorem count_bit_fin : ∀ s : Fin 64, ∀ v : Fin 6, (mem s.val).count v.val = if s.val.testBit v.val then 1 else 0 := by decide +kernel
theorem count_bit {s v : Nat} (hs : s < 64) (hv : v < 6) : (mem s).count v = if s.testBit v then 1 else 0 := count_bit_fin ⟨s, hs⟩ ⟨v, hv⟩
theorem deg_countP {v : Nat} (hv : v < 6) : ∀ (zs : List Int), (∀ z ∈ zs, z.toNat < 64) → (allMem zs).count v = zs.countP fun z => z.toNat.testBit v
  | [], _ => by simp [allMem]
  | z :: zs, h => by
    rw [allMem_cons, List.count_append, deg_countP hv zs (fun x hx => h x (by simp [hx])), count_bit (h z (by simp)) hv, List.countP_cons, Nat.add_comm]

theorem called_deg {k : Nat} (hk : k ≤ 6) {zs : List Int} (hf : famIn (k : Int) zs = true) {p : List Nat} (hp : p ∈ lvlL k k) {v : Nat} (hv : v < k) : (allMem (zs.map (callZ (nI p)))).count (p[v]?.getD 0) = (allMem zs).count v := by
  have h64 := pow64 k hk
  have hpv := name_lt hp hv
  rw [deg_countP (by omega) zs (fun z hz => by have := (fam_small hf z hz).2; omega), deg_countP (by omega) _ (fun z hz => by have := (fam_small (fam_called hk hp hf) z hz).2; omega), List.countP_map]
  apply List.countP_congr
  intro z hz
  have b := called_bit hk (perm_names hk hp) (fam_small hf z hz).2 hv
  rw [nI_at p _ (by rw [lvlL_in hp]; exact hv)] at b
  rw [Function.comp, callZ, Int.toNat_natCast, b]

theorem allMem_perm {xs ys : List Int} (h : xs.Perm ys) : (allMem xs).Perm (allMem ys) := h.flatMap_right _
/-! ### all at once -/
end Go.Proofs.YtcnicdaagknmpaaDoor

/- It is proved what families that are alike have in common; conditions: those of each statement. -/
namespace Go.Proofs.YtcnicdaagknmpaaDoor
open Go.RowKit

theorem lst_two {xs ys : List Int} {p q : List Nat} : lstP xs p = lstP ys q ↔ (xs.map (callZ (nI p))).Perm (ys.map (callZ (nI q))) :=
  ⟨fun h => (lst_perm xs p).symm.trans (h ▸ lst_perm ys q), fun h => sortZ_congr h⟩

/-- Some names make the one the other. -/
def TwinB (k : Nat) (xs ys : List Int) : Prop := ∃ p, p ∈ lvlL k k ∧ lstP xs p = lstP ys (List.range k)

theorem twin_back {k : Nat} (hk : k ≤ 6) {xs ys : List Int} (hx : famIn (k : Int) xs = true) (hy : famIn (k : Int) ys = true) (h : TwinB k xs ys) : TwinB k ys xs := by
  obtain ⟨p, hp, e⟩ := h
  refine ⟨invN k p, inv_in hp, ?_⟩
  have h1 := lst_comp hk (range_in k) (inv_in hp) hy
  rw [← e, lst_comp hk hp (inv_in hp) hx, comp_inv hp, comp_idL (inv_in hp)] at h1
  exact h1.symm

theorem twin_half {k : Nat} (hk : k ≤ 6) {xs ys : List Int} (hx : famIn (k : Int) xs = true) (hy : famIn (k : Int) ys = true) (h : TwinB k xs ys) : lexB (lstP ys (firstN k ys)) (lstP xs (firstN k xs)) = false := by
  obtain ⟨p, hp, e⟩ := h
  have hq := first_in hk ys
  have h1 := lst_comp hk (range_in k) hq hy
  rw [← e, lst_comp hk hp hq hx, comp_idL hq] at h1
  rw [← h1]
  exact least_le hk xs (comp_in hp hq)

theorem twin_least {k : Nat} (hk : k ≤ 6) {xs ys : List Int} (hx : famIn (k : Int) xs = true) (hy : famIn (k : Int) ys = true) (h : TwinB k xs ys) : lstP xs (firstN k xs) = lstP ys (firstN k ys) :=
  lexB_eq (twin_half hk hy hx (twin_back hk hx hy h)) (twin_half hk hx hy h)

theorem twin_of {k : Nat} (hk : k ≤ 6) {xs ys : List Int} (hx : famIn (k : Int) xs = true) (hy : famIn (k : Int) ys = true) (h : lstP xs (firstN k xs) = lstP ys (firstN k ys)) : TwinB k xs ys := by
  have hp := first_in hk xs
  have hq := first_in hk ys
  refine ⟨compN (firstN k xs) (invN k (firstN k ys)), comp_in hp (inv_in hq), ?_⟩
  rw [← lst_comp hk hp (inv_in hq) hx, h, lst_comp hk hq (inv_in hq) hy, comp_inv hq]

theorem map_idN {k : Nat} (hk : k ≤ 6) {zs : List Int} (hf : famIn (k : Int) zs = true) : zs.map (callZ (nI (List.range k))) = zs := by
  conv => rhs; rw [← List.map_id zs]
  exact List.map_congr_left fun z hz => callZ_id hk (fam_small hf z hz).1 (fam_small hf z hz).2

theorem twin_perm {k : Nat} (hk : k ≤ 6) {xs ys : List Int} (hy : famIn (k : Int) ys = true) (h : TwinB k xs ys) : ∃ p, p ∈ lvlL k k ∧ (xs.map (callZ (nI p))).Perm ys := by
  obtain ⟨p, hp, e⟩ := h
  have h1 := lst_two.1 e
  rw [map_idN hk hy] at h1
  exact ⟨p, hp, h1⟩

theorem pop_called {k : Nat} (hk : k ≤ 6) {p : List Nat} (hp : p ∈ lvlL k k) {z : Int} (h0 : 0 ≤ z) (hz : z.toNat < 2 ^ k) : pop (callZ (nI p) z) = pop z := by
  have h64 := pow64 k hk
  obtain ⟨s, rfl⟩ : ∃ s : Nat, z = (s : Int) := ⟨z.toNat, by omega⟩
  rw [Int.toNat_natCast] at hz
  have h1 := called_pop hk (perm_names hk hp) hz
  have h2 := called_lt hk (perm_names hk hp) hz
  rw [callZ, Int.toNat_natCast, pop_mem (by omega), pop_mem (by omega)]
  unfold popS at h1
  rw [h1]

theorem twin_sizes {k : Nat} (hk : k ≤ 6) {xs ys : List Int} (hx : famIn (k : Int) xs = true) (hy : famIn (k : Int) ys = true) (h : TwinB k xs ys) : (xs.map pop).Perm (ys.map pop) := by
  obtain ⟨p, hp, hpm⟩ := twin_perm hk hy h
  have h1 := hpm.map pop
  rw [List.map_map, show xs.map (pop ∘ callZ (nI p)) = xs.map pop from List.map_congr_left fun z hz => pop_called hk hp (fam_small hx z hz).1 (fam_small hx z hz).2] at h1
  exact h1

theorem twin_degrees {k : Nat} (hk : k ≤ 6) {xs ys : List Int} (hx : famIn (k : Int) xs = true) (hy : famIn (k : Int) ys = true) (h : TwinB k xs ys) : (degL k (allMem xs)).Perm (degL k (allMem ys)) := by
  obtain ⟨p, hp, hpm⟩ := twin_perm hk hy h
  have e : degL k (allMem xs) = p.map fun v => (((allMem ys).count v : Nat) : Int) := by
    rw [← at_range (lvlL_in hp), List.map_map]
    unfold degL
    apply List.map_congr_left
    intro v hv
    rw [List.mem_range] at hv
    rw [Function.comp, ← called_deg hk hx hp hv, (allMem_perm hpm).count_eq]
  rw [e]
  exact (lvl_perm.1 hp).map _

theorem twin_not {k : Nat} (hk1 : 1 ≤ k) (hk : k ≤ 6) {xs ys : List Int} (hx : famIn (k : Int) xs = true) (hy : famIn (k : Int) ys = true) (h : TwinB k xs ys) : TwinB k (xs.map (notZ k)) (ys.map (notZ k)) := by
  obtain ⟨p, hp, e⟩ := h
  refine ⟨p, hp, ?_⟩
  have e2 : ∀ {zs : List Int}, famIn (k : Int) zs = true → ∀ {r : List Nat}, r ∈ lvlL k k → (zs.map (notZ k)).map (callZ (nI r)) = (zs.map (callZ (nI r))).map (notZ k) := fun {zs} hf {r} hr => by
    rw [List.map_map, List.map_map]
    exact List.map_congr_left fun z hz => callZ_not hk1 hk hr (fam_small hf z hz).1 (fam_small hf z hz).2
  rw [lst_two, e2 hx hp, e2 hy (range_in k)]
  exact (lst_two.1 e).map _

theorem alikeB_of {k : Nat} (hk : k ≤ 6) {xs ys : List Int} (hx : famIn (k : Int) xs = true) (hy : famIn (k : Int) ys = true) (hl : xs.length = ys.length) (h : TwinB k xs ys) : alikeB (k : Int) xs (k : Int) ys = true := by
  rw [alikeB, hx, hy]
  simp only [Bool.true_and, decide_true, Bool.and_eq_true, decide_eq_true_eq, Int.toNat_natCast]
  exact ⟨hl, twin_least hk hx hy h⟩

theorem alike_facts {m j : Int} {xs ys : List Int} (h : alikeB m xs j ys = true) : j = m ∧ famIn m xs = true ∧ famIn m ys = true ∧ xs.length = ys.length ∧ sortZ (sizesZ m xs) = sortZ (sizesZ m ys) ∧ sortZ (famDeg m xs) = sortZ (famDeg m ys) ∧
    alikeB m ys m xs = true ∧ otherM m xs = m ∧ otherM m ys = m ∧ alikeB m (otherZ m xs) m (otherZ m ys) = true := by
  simp only [alikeB, Bool.and_eq_true, decide_eq_true_eq] at h
  obtain ⟨hx, hy, rfl, hl, he⟩ := h
  obtain ⟨hm1, hm6, -, -⟩ := famIn_out hx
  obtain ⟨k, rfl⟩ : ∃ k : Nat, m = (k : Int) := ⟨m.toNat, by omega⟩
  have hk : k ≤ 6 := by omega
  have hk1 : 1 ≤ k := by omega
  rw [Int.toNat_natCast] at he
  have ht := twin_of hk hx hy he
  have ex : otherZ (k : Int) xs = xs.map (notZ k) := by rw [otherZ, if_pos hx]; rfl
  have ey : otherZ (k : Int) ys = ys.map (notZ k) := by rw [otherZ, if_pos hy]; rfl
  have mx : otherM (k : Int) xs = k := by simp [otherM, hx]
  have my : otherM (k : Int) ys = k := by simp [otherM, hy]
  have fx := (other_facts hx).1
  have fy := (other_facts hy).1
  rw [mx] at fx
  rw [my] at fy
  refine ⟨rfl, hx, hy, hl, ?_, ?_, alikeB_of hk hy hx hl.symm (twin_back hk hx hy ht), mx, my, alikeB_of hk fx fy (by rw [ex, ey, List.length_map, List.length_map, hl]) ?_⟩
  · rw [sizesZ, if_pos hx, sizesZ, if_pos hy]
    exact sortZ_congr (twin_sizes hk hx hy ht)
  · rw [famDeg, if_pos hx, famDeg, if_pos hy]
    exact sortZ_congr (twin_degrees hk hx hy ht)
  · rw [ex, ey]
    exact twin_not hk1 hk hx hy ht

end Go.Proofs.YtcnicdaagknmpaaDoor

/- It is proved that the drawn family is one of the call's own; conditions: those of each statement. -/
namespace Go.Proofs.YtcnicdaagknmpaaDoor
open Go.RowKit

theorem DS.rebase {w : World} {R : Nat} {b : Option Addr} {n cap P : Nat} {W : World} (h : DS w R b n cap P W) : DS W R b n cap P W := ⟨h.rd, World.grownBy.refl _ _⟩
theorem DS.over {w w1 W : World} {R : Nat} {b : Option Addr} {n cap P : Nat} (h : DS w1 R b n cap P W) (hg : w.grownBy w1 (some R)) : DS w R b n cap P W := ⟨h.rd, only_trans hg h.gr⟩
theorem blk_grown {R : Nat} {W W' : World} {g : Nat} {cs : Array Value} {t : TypeId} (h : HasBlk W g cs t) (hg : W.grownBy W' (some R)) (hR : R < g) : HasBlk W' g cs t := h.kept hg (fun e => by injection e; omega)
theorem own_drew {W : World} {B size n : Nat} {e : TypeId} {v : Value} {xs : List Value} (h : W.ownsRow B e size v n xs) : W.drew.ownsRow B e size v n xs := h
def DrawnF (w : World) (R : Nat) (b : Option Addr) (n cap P most : Nat) (e : Ending) (W : World) : Prop :=
  ∃ (m : Int) (a : Option Addr) (zs : List Int) (c : Nat), e = .returned (.agg #[.int .i64 m, .slice a zs.length c]) ∧ (zs.length ≤ most + 1 ∧ 1 ≤ m ∧ m ≤ 6) ∧ OwnI W w.heap.size (.slice a zs.length c) zs ∧ DS w R b n cap (P + 200) W

set_option maxRecDepth 100000 in
set_option maxHeartbeats 4000000 in
theorem someD_any (mm most : Nat) (Mm M : Int) (hMm : Mm = (mm : Int)) (hM : M = (most : Int)) (hmm1 : 1 ≤ mm) (hmm : mm ≤ 6) (hmo : most ≤ 9) (R : Nat) (b : Option Addr) (n cap P : Nat) (w : World) (hD : DS w R b n cap P w) (hB : Bys w R b n) (hR : R < w.heap.size) (hn : n ≤ 1048576) (hP : P ≤ 1000) :
    Calls Tryd.prog 13 #[.pointer (some ⟨R, 0, none⟩), .int .i64 Mm, .int .i64 M] w (DrawnF w R b n cap P most) := by
  subst hMm
  subst hM
  obtain ⟨i0, hi0, hz0, hz1, hz2⟩ := info_parts Tryd.info3
  have HD0 := Lib.hid (hD.alloc (.cells #[.int .i64 0, .slice none 0 0] 25) hR)
  have HB := Lib.hid hB
  have HX0 : Hid (HasBlk (w.alloc (.cells #[.int .i64 0, .slice none 0 0] 25)) w.heap.size #[.int .i64 0, .slice none 0 0] 25) := Lib.hid (alloc_new w _)
  clear hD hB
  go_enter Tryd.func13, Tryd.ntmps13
  go_wp2_with fail
  refine (pickD HD0.out HB.out hR hn (by omega) _ (by omega) (by omega)).mono ?_
  rintro e w1 ⟨r1, rfl, h1, D1, g1⟩
  have h16 : r1 < mm := by have := h1 (by omega); omega
  have HX1 : Hid (HasBlk w1 w.heap.size #[.int .i64 0, .slice none 0 0] 25) := Lib.hid (HX0.out.kept g1 (fun e => by injection e; omega))
  have hs1 : w.heap.size < w1.heap.size := lt_of_some HX1.out
  have HD1 := Lib.hid D1
  clear D1 g1 h1 HD0 HX0
  go_wp2_with fail
  rw [show (1 : Int) + (r1 : Int) = ((1 + r1 : Nat) : Int) from by omega]
  refine (clubsD_any R b n cap _ (1 + r1) most w1 HD1.out.rebase (HB.out.kept hR HD1.out.gr) (by omega) hn (by omega) (by omega) (by omega) (by omega)).mono ?_
  rintro e w2 ⟨a2, zs, c2, rfl, hl, ho, D2⟩
  have hs2 : w1.heap.size ≤ w2.heap.size := D2.gr.size
  have HX2 : Hid (HasBlk w2 w.heap.size #[.int .i64 0, .slice none 0 0] 25) := Lib.hid (HX1.out.kept D2.gr (fun e => by injection e; omega))
  have HD2 := Lib.hid (D2.over HD1.out.gr)
  have HO2 : Hid (OwnN w2 w1.heap.size a2 zs.length c2 zs) := Lib.hid ho
  have hgb : ∀ g, (Value.slice a2 zs.length c2).ownBlock = some g → w1.heap.size ≤ g ∧ g < w2.heap.size := fun g e => World.ownsRow.lt ho g e
  clear ho D2 HD1 HX1
  go_wp2_with fail
  refine (pickD (HD2.out.alloc _ hR) HB.out hR hn (by omega) _ (by omega) (by omega)).mono ?_
  rintro e w4 ⟨r4, rfl, -, D4, g4⟩
  have q0 := blk_grown (HasBlk.alloc HX2.out (.cells #[.int .i64 ((1 + r1 : Nat) : Int), .slice a2 zs.length c2] 25)) g4 hR
  have q1 := blk_grown (alloc_new w2 (.cells #[.int .i64 ((1 + r1 : Nat) : Int), .slice a2 zs.length c2] 25) : HasBlk _ _ _ _) g4 (by omega)
  have HO4 : Hid (OwnN w4 w1.heap.size a2 zs.length c2 zs) := Lib.hid (own_grown (World.ownsRow.alloc HO2.out _) g4 (by omega))
  have HD4 := Lib.hid D4
  have hs4 : w2.heap.size < w4.heap.size := lt_of_some q1
  have x0 := blk_cell q1 0
  have x1 := blk_cell q1 1
  have f1 := blk_frozen q1 1
  have d0 := blk_cell q0 0
  have d1 := blk_cell q0 1
  have e0 := blk_frozen q0 0
  have e1 := blk_frozen q0 1
  simp only [cell2_0, cell2_1] at x0 x1 d0 d1
  have HQ0 := Lib.hid q0
  have HQ1 := Lib.hid q1
  clear D4 g4 q0 q1 HD2 HO2 HX2
  by_cases h4 : r4 = 0
  · have hmx : Tryd.prog.follows .mixedOrders = true := by kernel_rfl
    have hrn : r1 < 6 := by omega
    go_wp2
    go_region_law (refine step_append_lies _ rfl (.tmp 23) (.tmp 26) 23 rfl w1.heap.size 3 i0 (.int .i64 0) 1 8 Tryd.underlying23 hi0 hz0 hz1 hz2 rfl (by decide) _ _ _ rfl (own_drew (World.ownsRow.alloc HO4.out _)) ⟨w4.heap.size, 0, none⟩ 1 1 [.int .i64 _] rfl rfl (World.news_of_block (cs := #[.int .i64 _]) (fr := (0, 0)) (t := 3) (alloc_new w4 _)) (by simp [Value.oneCell']) (by decide) (by simp only [maxLen]; omega) (by omega) (Nat.le_trans (Nat.le_trans hs2 (Nat.le_of_lt hs4)) (Nat.le_trans (Nat.le_succ _) (Nat.le_of_eq (World.size_alloc w4 _).symm))) (w4.heap.size + 1) (World.size_alloc w4 _) ?_; intro g9 c9 w9 hown hg9 hgg hgs; have q9 := HasBlk.kept (W := World.drew (World.alloc w4 _)) (HasBlk.alloc HQ1.out _) hg9 (fun e => by have := hgb _ e; omega); have p9 := HasBlk.kept (W := World.drew (World.alloc w4 _)) (HasBlk.alloc HQ0.out _) hg9 (fun e => by have := hgb _ e; omega); have y0 := (blk_cell q9 0).trans (cell2_0 _ _); have y1 := (blk_cell q9 1).trans (cell2_1 _ _); have yf := blk_frozen q9 1; have z0 := (blk_cell p9 0).trans (cell2_0 _ _); have z1 := (blk_cell p9 1).trans (cell2_1 _ _); have zf0 := blk_frozen p9 0; have zf1 := blk_frozen p9 1)
    all_goals
      have hg9' : (World.drew (World.alloc w4 (.cells #[.int .i64 (IntKind.i64.wrap (2 ^ (1 + (r1 : Int)).toNat))] 3))).grownBy w9 (Value.slice a2 zs.length c2).ownBlock := hg9
      have hgg' : (Value.slice a2 zs.length c2).ownBlock = some g9 ∨ g9 = w4.heap.size + 1 := hgg
      have hg9ne : g9 ≠ w2.heap.size := by
        rcases hgg' with h | h
        · have := hgb _ h; omega
        · omega
      have hg91 : w1.heap.size ≤ g9 := by
        rcases hgg' with h | h
        · have := hgb _ h; omega
        · omega
      have HD9 : Hid (DS w R b n cap (P + 150) w9) := Lib.hid ((((HD4.out.alloc _ hR).drew.step hg9' (fun g e => by have := hgb g e; omega) hR)).mono (by omega))
      have HO9 : Hid (OwnN w9 w1.heap.size (some ⟨g9, 0, none⟩) (zs.length + 1) c9 (zs ++ [IntKind.i64.wrap (2 ^ (1 + (r1 : Int)).toNat)])) := Lib.hid (own_more hown)
      have HQ9 := Lib.hid q9
      clear hg9 hg9' hgg hgg' hown x0 x1 d0 d1 e0 e1 f1 q9 p9
      go_wp2
      refine bodyPost_ret (v := .agg #[.int .i64 ((1 + r1 : Nat) : Int), .slice (some ⟨g9, 0, none⟩) (zs.length + 1) c9]) (by simp [results, Tryd.results13, go_sem, z0, z1]) rfl ?_
      refine ⟨_, some ⟨g9, 0, none⟩, zs ++ [IntKind.i64.wrap (2 ^ (1 + (r1 : Int)).toNat)], c9, by rw [List.length_append]; rfl, ⟨by simp; omega, by omega, by omega⟩, ?_, ?_⟩
      · have h1 := ownsRow_setCell_ne HO9.out (p := ⟨w2.heap.size, 1, none⟩) (by simp [Value.ownBlock]; omega) (.slice (some ⟨g9, 0, none⟩) (zs.length + 1) c9)
        have h2 := ownsRow_setCell_below h1 (a := ⟨w.heap.size, 0, none⟩) hs1 (.int .i64 (1 + (r1 : Int)))
        have h3 := ownsRow_setCell_below h2 (a := ⟨w.heap.size, 1, none⟩) hs1 (.slice (some ⟨g9, 0, none⟩) (zs.length + 1) c9)
        unfold OwnI
        rw [List.length_append]
        exact ownsRow_base h3 (by omega)
      · exact (((HD9.out.step (only_setCell (p := ⟨w2.heap.size, 1, none⟩) (World.grownBy.refl _ (some w2.heap.size)) rfl _) (fun g e => by injection e; omega) hR).step (only_setCell (p := ⟨w.heap.size, 0, none⟩) (World.grownBy.refl _ (some w.heap.size)) rfl _) (fun g e => by injection e; omega) hR).step (only_setCell (p := ⟨w.heap.size, 1, none⟩) (World.grownBy.refl _ (some w.heap.size)) rfl _) (fun g e => by injection e; omega) hR).mono (by omega)
  · go_wp2
    refine bodyPost_ret (v := .agg #[.int .i64 ((1 + r1 : Nat) : Int), .slice a2 zs.length c2]) (by simp [results, Tryd.results13, go_sem, d0, d1]) rfl ?_
    refine ⟨_, a2, zs, c2, rfl, ⟨by omega, by omega, by omega⟩, ?_, ?_⟩
    · exact own_mono (B' := w.heap.size) (ownsRow_setCell_below (ownsRow_setCell_below (show OwnI w4 w1.heap.size _ zs from HO4.out) (a := ⟨w.heap.size, 0, none⟩) hs1 _) (a := ⟨w.heap.size, 1, none⟩) hs1 _) (by omega)
    · exact (((HD4.out.step (only_setCell (p := ⟨w.heap.size, 0, none⟩) (World.grownBy.refl _ (some w.heap.size)) rfl _) (fun g e => by injection e; omega) hR).step (only_setCell (p := ⟨w.heap.size, 1, none⟩) (World.grownBy.refl _ (some w.heap.size)) rfl _) (fun g e => by injection e; omega) hR)).mono (by omega)

end Go.Proofs.YtcnicdaagknmpaaDoor

/- It is proved that a drawn family and a drawn set are the call's own; conditions: those of each statement. -/
namespace Go.Proofs.YtcnicdaagknmpaaDoor
open Go.RowKit

theorem DS.belowR {w W : World} {R : Nat} {b : Option Addr} {n cap P B : Nat} (h : DS w R b n cap P W) (hB : B ≤ R) (hs : B ≤ w.heap.size) : Below B w W :=
  (Below.refl B w).grown h.gr hs (fun g e => by injection e with e; omega)

end Go.Proofs.YtcnicdaagknmpaaDoor
