/- It is proved that own names divide all names, and are those of the family of all other members; conditions: those of each statement. -/
import Derived.RowKit
import Derived.Laws.CopyRow
import Derived.Lib.SlBuf
import Derived.Deep.QuietTactic
import Derived.RangeFuncNested
import Derived.RangeFuncBound
import Derived.RangeFuncCalls
import Derived.RangeFuncLeaves
import Derived.RangeFuncBox
import Derived.RangeFuncWrites
import Derived.StillTailTactics
import Derived.Maps.OwnIn
import Derived.Maps.Ext
import Derived.DeepKeys4
import Derived.MapKept
import Derived.Test.YtgpgocijacgkhaaDoorRows
import Derived.WalkKit
import Derived.WalkSpells
import Derived.ProofKit
import Derived.OpenShut
import Derived.ShutString
import Derived.ChangeOld
import Derived.Below
import Derived.Deep.RegionHeld3
import Derived.BigQuiet
import Derived.Lib.Hide
import Derived.Lib.SmallJoins
import Derived.Outline
import Derived.Laws.MakeOwn
import Derived.Laws.OwnMore
import Derived.IntWalk
import Derived.Maps.AppendAt
import Derived.Sort.MapsRangeIn
import Derived.Deep.RegionLaw
import Derived.Deep.AppendLies
import Derived.Lib.AppendZeros
import Derived.OwnWalk
import Derived.Lib.SlicesCompact
import Derived.Lib.OwnBridge
import Derived.OrdersIn
import Derived.TacticsIn
import Derived.Shelf.Sort.Plain
import Derived.Shelf.Slices.In.SortNone
import Derived.Shelf.Slices.CompactI
import Derived.Ground.Names2Prog
import Derived.Shelf.Abstract
import Derived.Shelf.RegionOpen
import Derived.OwnWalkIn
import Derived.TacticsInMore
import Derived.LoopNIn
import Derived.LoopIn
import Derived.StillTail
import Derived.StillTactics
import Derived.Shelf.Spec.TrailingZeros
import Derived.Test.YtgpgocijacgkhaaDoorRabdxFnAlik
import Derived.Test.YtgpgocijacgkhaaDoorRabexFnAlik
import Derived.Test.YtgpgocijacgkhaaDoorRaab
import Derived.Test.YtgpgocijacgkhaaDoorRabqxFnAlik
import Derived.Test.YtgpgocijacgkhaaDoorRabrxFnAlik
import Derived.Test.YtgpgocijacgkhaaDoorRabb
import Derived.Test.YtgpgocijacgkhaaDoorRaay
import Derived.Test.YtgpgocijacgkhaaDoorRaac
import Derived.Test.YtgpgocijacgkhaaDoorTb
import Derived.Test.YtgpgocijacgkhaaDoorRabixFnAlik
import Derived.Test.YtgpgocijacgkhaaDoorRabmxFnAlik
import Derived.Test.YtgpgocijacgkhaaDoorRabnxFnAlik
import Derived.Test.YtgpgocijacgkhaaDoorTc
import Derived.Test.YtgpgocijacgkhaaDoorRaar
import Derived.Test.YtgpgocijacgkhaaDoorRaaz
import Derived.Test.YtgpgocijacgkhaaDoorRaaa
import Derived.Test.YtgpgocijacgkhaaDoorRaah
import Derived.Test.YtgpgocijacgkhaaDoorRabgxFnAlik
namespace Go.Proofs.YtgpgocijacgkhaaDoor
open Go.RowKit

theorem comp_idL {k : Nat} {p : List Nat} (hp : p ∈ lvlL k k) : compN (List.range k) p = p := at_range (lvlL_in hp)
/-- Names the other way. -/
def invN (k : Nat) (p : List Nat) : List Nat := (List.range k).map fun i => p.idxOf i

theorem idx_map {p : List Nat} (h : p.Nodup) : p.map (fun v => p.idxOf v) = List.range p.length := by
  apply List.ext_getElem
  · simp
  · intro i h1 h2
    have hi : i < p.length := by simpa using h1
    simp only [List.getElem_map, List.getElem_range]
    exact h.idxOf_getElem i hi

theorem inv_in {k : Nat} {p : List Nat} (hp : p ∈ lvlL k k) : invN k p ∈ lvlL k k := by
  have h := lvl_perm.1 hp
  rw [lvl_perm]
  have hn : p.Nodup := h.symm.nodup List.nodup_range
  have h1 : ((List.range k).map fun i => p.idxOf i).Perm (p.map fun i => p.idxOf i) := h.symm.map _
  rw [idx_map hn, lvlL_in hp] at h1
  exact h1

theorem comp_inv {k : Nat} {p : List Nat} (hp : p ∈ lvlL k k) : compN p (invN k p) = List.range k := by
  have h := lvl_perm.1 hp
  have hn : p.Nodup := h.symm.nodup List.nodup_range
  have : compN p (invN k p) = p.map (fun v => p.idxOf v) := by
    unfold compN
    apply List.map_congr_left
    intro v hv
    have := lvlL_lt hp v hv
    simp [invN, this]
  rw [this, idx_map hn, lvlL_in hp]

/-! ### all other members -/
def notZ (k : Nat) (z : Int) : Int := bits .andNot .i64 (fullI (k : Int)) z
theorem notZ_nat {k s : Nat} (hk1 : 1 ≤ k) (hk : k ≤ 6) (hs : s < 64) : notZ k (s : Int) = (((2 ^ k - 1) ^^^ ((2 ^ k - 1) &&& s) : Nat) : Int) := bits_not_nat k s hk1 hk hs
theorem callZ_not {k : Nat} (hk1 : 1 ≤ k) (hk : k ≤ 6) {p : List Nat} (hp : p ∈ lvlL k k) {z : Int} (h0 : 0 ≤ z) (hz : z.toNat < 2 ^ k) : callZ (nI p) (notZ k z) = notZ k (callZ (nI p) z) := by
  obtain ⟨s, rfl⟩ : ∃ s : Nat, z = (s : Int) := ⟨z.toNat, by omega⟩
  rw [Int.toNat_natCast] at hz
  have h64 : 2 ^ k ≤ 64 := pow64 k hk
  have hpl := lvlL_in hp
  have hN : (2 ^ k - 1) ^^^ ((2 ^ k - 1) &&& s) < 2 ^ k := Nat.xor_lt_two_pow (n := k) (by have := Nat.one_le_two_pow (n := k); omega) (Nat.lt_of_le_of_lt Nat.and_le_left (by have := Nat.one_le_two_pow (n := k); omega))
  have hc := called_lt hk (perm_names hk hp) hz
  unfold callZ
  rw [notZ_nat hk1 hk (by omega), Int.toNat_natCast, Int.toNat_natCast, notZ_nat hk1 hk (by omega)]
  congr 1
  apply Nat.eq_of_testBit_eq
  intro i
  by_cases hi : i < k
  · obtain ⟨v, hv, e⟩ := List.getElem_of_mem (show i ∈ p from (lvl_perm.1 hp).symm.subset (List.mem_range.2 hi))
    have hvk : v < k := by omega
    have e1 : p[v]?.getD 0 = i := by simp [hv, e]
    have b1 := called_bit hk (perm_names hk hp) hN hvk
    have b2 := called_bit hk (perm_names hk hp) hz hvk
    rw [nI_at p _ (by omega), e1] at b1 b2
    rw [b1]
    simp only [Nat.testBit_xor, Nat.testBit_and, b2, Nat.testBit_two_pow_sub_one, hi, hvk]
  · have hpw : 2 ^ k ≤ 2 ^ i := Nat.pow_le_pow_right (by decide) (by omega)
    rw [Nat.testBit_lt_two_pow (Nat.lt_of_lt_of_le (called_lt hk (perm_names hk hp) hN) hpw), Nat.testBit_lt_two_pow (Nat.lt_of_lt_of_le (Nat.xor_lt_two_pow (n := k) (by have := Nat.one_le_two_pow (n := k); omega) (Nat.lt_of_le_of_lt Nat.and_le_left (by have := Nat.one_le_two_pow (n := k); omega))) hpw)]

end Go.Proofs.YtgpgocijacgkhaaDoor

/- It is proved that the orbits of a family's own names divide its members, have members of one degree, and sizes that divide the number of own names; conditions: those of each statement. -/
namespace Go.Proofs.YtgpgocijacgkhaaDoor
open Go.RowKit

theorem name_lt {k : Nat} {p : List Nat} (hp : p ∈ lvlL k k) {v : Nat} (hv : v < k) : p[v]?.getD 0 < k := by
  have hl := lvlL_in hp
  have := lvlL_lt hp p[v] (List.getElem_mem _)
  simpa [show v < p.length by omega] using this

/-! ### orbits as sets -/
/-! ### sizes -/
/-! ### degrees -/
theorem count_bit {s v : Nat} (hs : s < 64) (hv : v < 6) : (mem s).count v = if s.testBit v then 1 else 0 := count_bit_fin ⟨s, hs⟩ ⟨v, hv⟩
theorem deg_countP {v : Nat} (hv : v < 6) : ∀ (zs : List Int), (∀ z ∈ zs, z.toNat < 64) → (allMem zs).count v = zs.countP fun z => z.toNat.testBit v
  | [], _ => by simp [allMem]
  | z :: zs, h => by
    rw [allMem_cons, List.count_append, deg_countP hv zs (fun x hx => h x (by simp [hx])), count_bit (h z (by simp)) hv, List.countP_cons, Nat.add_comm]

theorem called_deg {k : Nat} (hk : k ≤ 6) {zs : List Int} (hf : famIn (k : Int) zs = true) {p : List Nat} (hp : p ∈ lvlL k k) {v : Nat} (hv : v < k) : (allMem (zs.map (callZ (nI p)))).count (p[v]?.getD 0) = (allMem zs).count v := by
  have h64 := pow64 k hk
  have hpv := name_lt hp hv
  rw [deg_countP (by omega) zs (fun z hz => by have := (fam_small hf z hz).2; omega), deg_countP (by omega) _ (fun z hz => by have := (fam_small (fam_called hk hp hf) z hz).2; omega), List.countP_map]
  apply List.countP_congr
  intro z hz
  have b := called_bit hk (perm_names hk hp) (fam_small hf z hz).2 hv
  rw [nI_at p _ (by rw [lvlL_in hp]; exact hv)] at b
  rw [Function.comp, callZ, Int.toNat_natCast, b]

theorem allMem_perm {xs ys : List Int} (h : xs.Perm ys) : (allMem xs).Perm (allMem ys) := h.flatMap_right _
/-! ### all at once -/
end Go.Proofs.YtgpgocijacgkhaaDoor

/- It is proved what families that are alike have in common; conditions: those of each statement. -/
namespace Go.Proofs.YtgpgocijacgkhaaDoor
open Go.RowKit

theorem lst_two {xs ys : List Int} {p q : List Nat} : lstP xs p = lstP ys q ↔ (xs.map (callZ (nI p))).Perm (ys.map (callZ (nI q))) :=
  ⟨fun h => (lst_perm xs p).symm.trans (h ▸ lst_perm ys q), fun h => sortZ_congr h⟩

/-- Some names make the one the other. -/
def TwinB (k : Nat) (xs ys : List Int) : Prop := ∃ p, p ∈ lvlL k k ∧ lstP xs p = lstP ys (List.range k)

theorem twin_back {k : Nat} (hk : k ≤ 6) {xs ys : List Int} (hx : famIn (k : Int) xs = true) (hy : famIn (k : Int) ys = true) (h : TwinB k xs ys) : TwinB k ys xs := by
  obtain ⟨p, hp, e⟩ := h
  refine ⟨invN k p, inv_in hp, ?_⟩
  have h1 := lst_comp hk (range_in k) (inv_in hp) hy
  rw [← e, lst_comp hk hp (inv_in hp) hx, comp_inv hp, comp_idL (inv_in hp)] at h1
  exact h1.symm

theorem twin_half {k : Nat} (hk : k ≤ 6) {xs ys : List Int} (hx : famIn (k : Int) xs = true) (hy : famIn (k : Int) ys = true) (h : TwinB k xs ys) : lexB (lstP ys (firstN k ys)) (lstP xs (firstN k xs)) = false := by
  obtain ⟨p, hp, e⟩ := h
  have hq := first_in hk ys
  have h1 := lst_comp hk (range_in k) hq hy
  rw [← e, lst_comp hk hp hq hx, comp_idL hq] at h1
  rw [← h1]
  exact least_le hk xs (comp_in hp hq)

theorem twin_least {k : Nat} (hk : k ≤ 6) {xs ys : List Int} (hx : famIn (k : Int) xs = true) (hy : famIn (k : Int) ys = true) (h : TwinB k xs ys) : lstP xs (firstN k xs) = lstP ys (firstN k ys) :=
  lexB_eq (twin_half hk hy hx (twin_back hk hx hy h)) (twin_half hk hx hy h)

theorem twin_of {k : Nat} (hk : k ≤ 6) {xs ys : List Int} (hx : famIn (k : Int) xs = true) (hy : famIn (k : Int) ys = true) (h : lstP xs (firstN k xs) = lstP ys (firstN k ys)) : TwinB k xs ys := by
  have hp := first_in hk xs
  have hq := first_in hk ys
  refine ⟨compN (firstN k xs) (invN k (firstN k ys)), comp_in hp (inv_in hq), ?_⟩
  rw [← lst_comp hk hp (inv_in hq) hx, h, lst_comp hk hq (inv_in hq) hy, comp_inv hq]

theorem map_idN {k : Nat} (hk : k ≤ 6) {zs : List Int} (hf : famIn (k : Int) zs = true) : zs.map (callZ (nI (List.range k))) = zs := by
  conv => rhs; rw [← List.map_id zs]
  exact List.map_congr_left fun z hz => callZ_id hk (fam_small hf z hz).1 (fam_small hf z hz).2

theorem twin_perm {k : Nat} (hk : k ≤ 6) {xs ys : List Int} (hy : famIn (k : Int) ys = true) (h : TwinB k xs ys) : ∃ p, p ∈ lvlL k k ∧ (xs.map (callZ (nI p))).Perm ys := by
  obtain ⟨p, hp, e⟩ := h
  have h1 := lst_two.1 e
  rw [map_idN hk hy] at h1
  exact ⟨p, hp, h1⟩

theorem pop_called {k : Nat} (hk : k ≤ 6) {p : List Nat} (hp : p ∈ lvlL k k) {z : Int} (h0 : 0 ≤ z) (hz : z.toNat < 2 ^ k) : pop (callZ (nI p) z) = pop z := by
  have h64 := pow64 k hk
  obtain ⟨s, rfl⟩ : ∃ s : Nat, z = (s : Int) := ⟨z.toNat, by omega⟩
  rw [Int.toNat_natCast] at hz
  have h1 := called_pop hk (perm_names hk hp) hz
  have h2 := called_lt hk (perm_names hk hp) hz
  rw [callZ, Int.toNat_natCast, pop_mem (by omega), pop_mem (by omega)]
  unfold popS at h1
  rw [h1]

theorem twin_sizes {k : Nat} (hk : k ≤ 6) {xs ys : List Int} (hx : famIn (k : Int) xs = true) (hy : famIn (k : Int) ys = true) (h : TwinB k xs ys) : (xs.map pop).Perm (ys.map pop) := by
  obtain ⟨p, hp, hpm⟩ := twin_perm hk hy h
  have h1 := hpm.map pop
  rw [List.map_map, show xs.map (pop ∘ callZ (nI p)) = xs.map pop from List.map_congr_left fun z hz => pop_called hk hp (fam_small hx z hz).1 (fam_small hx z hz).2] at h1
  exact h1

theorem twin_degrees {k : Nat} (hk : k ≤ 6) {xs ys : List Int} (hx : famIn (k : Int) xs = true) (hy : famIn (k : Int) ys = true) (h : TwinB k xs ys) : (degL k (allMem xs)).Perm (degL k (allMem ys)) := by
  obtain ⟨p, hp, hpm⟩ := twin_perm hk hy h
  have e : degL k (allMem xs) = p.map fun v => (((allMem ys).count v : Nat) : Int) := by
    rw [← at_range (lvlL_in hp), List.map_map]
    unfold degL
    apply List.map_congr_left
    intro v hv
    rw [List.mem_range] at hv
    rw [Function.comp, ← called_deg hk hx hp hv, (allMem_perm hpm).count_eq]
  rw [e]
  exact (lvl_perm.1 hp).map _

theorem twin_not {k : Nat} (hk1 : 1 ≤ k) (hk : k ≤ 6) {xs ys : List Int} (hx : famIn (k : Int) xs = true) (hy : famIn (k : Int) ys = true) (h : TwinB k xs ys) : TwinB k (xs.map (notZ k)) (ys.map (notZ k)) := by
  obtain ⟨p, hp, e⟩ := h
  refine ⟨p, hp, ?_⟩
  have e2 : ∀ {zs : List Int}, famIn (k : Int) zs = true → ∀ {r : List Nat}, r ∈ lvlL k k → (zs.map (notZ k)).map (callZ (nI r)) = (zs.map (callZ (nI r))).map (notZ k) := fun {zs} hf {r} hr => by
    rw [List.map_map, List.map_map]
    exact List.map_congr_left fun z hz => callZ_not hk1 hk hr (fam_small hf z hz).1 (fam_small hf z hz).2
  rw [lst_two, e2 hx hp, e2 hy (range_in k)]
  exact (lst_two.1 e).map _

theorem alikeB_of {k : Nat} (hk : k ≤ 6) {xs ys : List Int} (hx : famIn (k : Int) xs = true) (hy : famIn (k : Int) ys = true) (hl : xs.length = ys.length) (h : TwinB k xs ys) : alikeB (k : Int) xs (k : Int) ys = true := by
  rw [alikeB, hx, hy]
  simp only [Bool.true_and, decide_true, Bool.and_eq_true, decide_eq_true_eq, Int.toNat_natCast]
  exact ⟨hl, twin_least hk hx hy h⟩

theorem alike_facts {m j : Int} {xs ys : List Int} (h : alikeB m xs j ys = true) : j = m ∧ famIn m xs = true ∧ famIn m ys = true ∧ xs.length = ys.length ∧ sortZ (sizesZ m xs) = sortZ (sizesZ m ys) ∧ sortZ (famDeg m xs) = sortZ (famDeg m ys) ∧
    alikeB m ys m xs = true ∧ otherM m xs = m ∧ otherM m ys = m ∧ alikeB m (otherZ m xs) m (otherZ m ys) = true := by
  simp only [alikeB, Bool.and_eq_true, decide_eq_true_eq] at h
  obtain ⟨hx, hy, rfl, hl, he⟩ := h
  obtain ⟨hm1, hm6, -, -⟩ := famIn_out hx
  obtain ⟨k, rfl⟩ : ∃ k : Nat, m = (k : Int) := ⟨m.toNat, by omega⟩
  have hk : k ≤ 6 := by omega
  have hk1 : 1 ≤ k := by omega
  rw [Int.toNat_natCast] at he
  have ht := twin_of hk hx hy he
  have ex : otherZ (k : Int) xs = xs.map (notZ k) := by rw [otherZ, if_pos hx]; rfl
  have ey : otherZ (k : Int) ys = ys.map (notZ k) := by rw [otherZ, if_pos hy]; rfl
  have mx : otherM (k : Int) xs = k := by simp [otherM, hx]
  have my : otherM (k : Int) ys = k := by simp [otherM, hy]
  have fx := (other_facts hx).1
  have fy := (other_facts hy).1
  rw [mx] at fx
  rw [my] at fy
  refine ⟨rfl, hx, hy, hl, ?_, ?_, alikeB_of hk hy hx hl.symm (twin_back hk hx hy ht), mx, my, alikeB_of hk fx fy (by rw [ex, ey, List.length_map, List.length_map, hl]) ?_⟩
  · rw [sizesZ, if_pos hx, sizesZ, if_pos hy]
    exact sortZ_congr (twin_sizes hk hx hy ht)
  · rw [famDeg, if_pos hx, famDeg, if_pos hy]
    exact sortZ_congr (twin_degrees hk hx hy ht)
  · rw [ex, ey]
    exact twin_not hk1 hk hx hy ht

end Go.Proofs.YtgpgocijacgkhaaDoor

/- It is proved what three appends in one statement make, in each order that Go allows; conditions: those of each statement. -/
namespace Go.Proofs.YtgpgocijacgkhaaDoor
open Go.RowKit

theorem insA (W : World) (a1 a2 : Option Addr) (L1 L2 : List Int) (x : Int) (k1 c1 k2 c2 s t : Nat) (h1 : Ints W W.heap.size a1 L1) (h2 : Ints W W.heap.size a2 L2) (l1 : L1.length = k1) (l2 : L2.length = k2) (hs : k1 + 1 = s) (ht : s + k2 = t) (hk : t ≤ 1048576) :
    ∃ a3 c3 w3 a4 c4 w4 a5 c5 w5, (Builtin.append_ #[23, 23] 23 #[.slice (some ⟨W.heap.size, 0, none⟩) 0 0, .slice a1 k1 c1]).run Tryd.prog (W.alloc (.cells #[] 3)).drew = .ok (.slice a3 k1 c3) w3 ∧
      (Builtin.append_ #[23, 23] 23 #[.slice a3 k1 c3, .slice (some ⟨w3.heap.size, 0, none⟩) 1 1]).run Tryd.prog (w3.alloc (.cells #[.int .i64 x] 3)) = .ok (.slice a4 s c4) w4 ∧
      (Builtin.append_ #[23, 23] 23 #[.slice a4 s c4, .slice a2 k2 c2]).run Tryd.prog w4 = .ok (.slice a5 t c5) w5 ∧
      OwnN w5 W.heap.size a5 t c5 (L1 ++ [x] ++ L2) ∧ Below W.heap.size W w5 := by
  have hEA : OwnI (W.alloc (.cells #[] 3)).drew W.heap.size (.slice (some ⟨W.heap.size, 0, none⟩) 0 0) [] := own_empty (w := (W.alloc (.cells #[] 3)).drew) (alloc_new W _) (Nat.le_refl _)
  have hB0A : Below W.heap.size W (W.alloc (.cells #[] 3)).drew := (below1 W (.cells #[] 3)).drew
  obtain ⟨a3A, c3A, w3A, hr3A, ho3A, hg3A⟩ := app_run0n (k := k1) hEA hB0A.size a1 c1 L1 l1 ((h1.below hB0A).mono hB0A.size) (by omega)
  have hb3A : Below W.heap.size W w3A := hB0A.grown hg3A hB0A.size (fun g e => (World.ownsRow.lt hEA g e).1)
  have hX2A : Ints (w3A.alloc (.cells #[.int .i64 x] 3)) (w3A.alloc (.cells #[.int .i64 x] 3)).heap.size (some ⟨w3A.heap.size, 0, none⟩) [x] := one_ints0 w3A x
  have hO2A := ho3A.alloc (.cells #[.int .i64 x] 3)
  have hBW2A : Below W.heap.size W (w3A.alloc (.cells #[.int .i64 x] 3)) := hb3A.alloc hb3A.size _
  obtain ⟨a4A, c4A, w4A, hr4A, ho4A, hg4A⟩ := app_run_t (t := s) (k := 1) hO2A hBW2A.size (some ⟨w3A.heap.size, 0, none⟩) 1 [x] rfl hX2A (by omega) (by omega) (by omega)
  have hb4A : Below W.heap.size W w4A := hBW2A.grown hg4A hBW2A.size (fun g e => (World.ownsRow.lt hO2A g e).1)
  obtain ⟨a5A, c5A, w5A, hr5A, ho5A, hg5A⟩ := app_run_t (t := t) (k := k2) ho4A hb4A.size a2 c2 L2 l2 ((h2.below hb4A).mono hb4A.size) (by omega) (by omega) (by omega)
  have hb5A : Below W.heap.size W w5A := hb4A.grown hg5A hb4A.size (fun g e => (World.ownsRow.lt ho4A g e).1)
  exact ⟨_, _, _, _, _, _, _, _, _, hr3A, hr4A, hr5A, by unfold OwnN; rw [List.map_append, List.map_append]; simpa using ho5A, hb5A⟩

theorem insB (W : World) (a1 a2 : Option Addr) (L1 L2 : List Int) (x : Int) (k1 c1 k2 c2 s t : Nat) (h1 : Ints W W.heap.size a1 L1) (h2 : Ints W W.heap.size a2 L2) (l1 : L1.length = k1) (l2 : L2.length = k2) (hs : k1 + 1 = s) (ht : s + k2 = t) (hk : t ≤ 1048576) :
    ∃ a3 c3 w3 a4 c4 w4 a5 c5 w5, (Builtin.append_ #[23, 23] 23 #[.slice (some ⟨W.heap.size + 1, 0, none⟩) 0 0, .slice a1 k1 c1]).run Tryd.prog ((W.alloc (.cells #[.int .i64 x] 3)).alloc (.cells #[] 3)).drew = .ok (.slice a3 k1 c3) w3 ∧
      (Builtin.append_ #[23, 23] 23 #[.slice a3 k1 c3, .slice (some ⟨W.heap.size, 0, none⟩) 1 1]).run Tryd.prog w3 = .ok (.slice a4 s c4) w4 ∧
      (Builtin.append_ #[23, 23] 23 #[.slice a4 s c4, .slice a2 k2 c2]).run Tryd.prog w4 = .ok (.slice a5 t c5) w5 ∧
      OwnN w5 W.heap.size a5 t c5 (L1 ++ [x] ++ L2) ∧ Below W.heap.size W w5 := by
  have hEB : OwnI ((W.alloc (.cells #[.int .i64 x] 3)).alloc (.cells #[] 3)).drew W.heap.size (.slice (some ⟨W.heap.size + 1, 0, none⟩) 0 0) [] := own_empty (w := ((W.alloc (.cells #[.int .i64 x] 3)).alloc (.cells #[] 3)).drew) (alloc2_1 W _ _) (by omega)
  have hB0B : Below W.heap.size W ((W.alloc (.cells #[.int .i64 x] 3)).alloc (.cells #[] 3)).drew := (below2 W (.cells #[.int .i64 x] 3) (.cells #[] 3)).drew
  obtain ⟨a3B, c3B, w3B, hr3B, ho3B, hg3B⟩ := app_run0n (k := k1) hEB hB0B.size a1 c1 L1 l1 ((h1.below hB0B).mono hB0B.size) (by omega)
  have hb3B : Below W.heap.size W w3B := hB0B.grown hg3B hB0B.size (fun g e => (World.ownsRow.lt hEB g e).1)
  have hXbB : w3B.heap[W.heap.size]? = some (.cells #[.int .i64 x] 3 (0, 0)) := (hg3B.block W.heap.size (lt_of_some (W := ((W.alloc (.cells #[.int .i64 x] 3)).alloc (.cells #[] 3)).drew) (alloc2_0 W _ _)) (by simp [Value.ownBlock])).trans (alloc2_0 W _ _)
  have hX2B : Ints w3B w3B.heap.size (some ⟨W.heap.size, 0, none⟩) [x] := one_blk hXbB
  obtain ⟨a4B, c4B, w4B, hr4B, ho4B, hg4B⟩ := app_run_t (t := s) (k := 1) ho3B hb3B.size (some ⟨W.heap.size, 0, none⟩) 1 [x] rfl hX2B (by omega) (by omega) (by omega)
  have hb4B : Below W.heap.size W w4B := hb3B.grown hg4B hb3B.size (fun g e => (World.ownsRow.lt ho3B g e).1)
  obtain ⟨a5B, c5B, w5B, hr5B, ho5B, hg5B⟩ := app_run_t (t := t) (k := k2) ho4B hb4B.size a2 c2 L2 l2 ((h2.below hb4B).mono hb4B.size) (by omega) (by omega) (by omega)
  have hb5B : Below W.heap.size W w5B := hb4B.grown hg5B hb4B.size (fun g e => (World.ownsRow.lt ho4B g e).1)
  exact ⟨_, _, _, _, _, _, _, _, _, hr3B, hr4B, hr5B, by unfold OwnN; rw [List.map_append, List.map_append]; simpa using ho5B, hb5B⟩

theorem insC (W : World) (a1 a2 : Option Addr) (L1 L2 : List Int) (x : Int) (k1 c1 k2 c2 s t : Nat) (h1 : Ints W W.heap.size a1 L1) (h2 : Ints W W.heap.size a2 L2) (l1 : L1.length = k1) (l2 : L2.length = k2) (hs : k1 + 1 = s) (ht : s + k2 = t) (hk : t ≤ 1048576) :
    ∃ a3 c3 w3 a4 c4 w4 a5 c5 w5, (Builtin.append_ #[23, 23] 23 #[.slice (some ⟨W.heap.size, 0, none⟩) 0 0, .slice a1 k1 c1]).run Tryd.prog ((W.alloc (.cells #[] 3)).alloc (.cells #[.int .i64 x] 3)).drew = .ok (.slice a3 k1 c3) w3 ∧
      (Builtin.append_ #[23, 23] 23 #[.slice a3 k1 c3, .slice (some ⟨W.heap.size + 1, 0, none⟩) 1 1]).run Tryd.prog w3 = .ok (.slice a4 s c4) w4 ∧
      (Builtin.append_ #[23, 23] 23 #[.slice a4 s c4, .slice a2 k2 c2]).run Tryd.prog w4 = .ok (.slice a5 t c5) w5 ∧
      OwnN w5 W.heap.size a5 t c5 (L1 ++ [x] ++ L2) ∧ Below W.heap.size W w5 := by
  have hEC : OwnI ((W.alloc (.cells #[] 3)).alloc (.cells #[.int .i64 x] 3)).drew W.heap.size (.slice (some ⟨W.heap.size, 0, none⟩) 0 0) [] := own_empty (w := ((W.alloc (.cells #[] 3)).alloc (.cells #[.int .i64 x] 3)).drew) (alloc2_0 W _ _) (Nat.le_refl _)
  have hB0C : Below W.heap.size W ((W.alloc (.cells #[] 3)).alloc (.cells #[.int .i64 x] 3)).drew := (below2 W (.cells #[] 3) (.cells #[.int .i64 x] 3)).drew
  obtain ⟨a3C, c3C, w3C, hr3C, ho3C, hg3C⟩ := app_run0n (k := k1) hEC hB0C.size a1 c1 L1 l1 ((h1.below hB0C).mono hB0C.size) (by omega)
  have hb3C : Below W.heap.size W w3C := hB0C.grown hg3C hB0C.size (fun g e => (World.ownsRow.lt hEC g e).1)
  have hXbC : w3C.heap[(W.heap.size + 1)]? = some (.cells #[.int .i64 x] 3 (0, 0)) := (hg3C.block (W.heap.size + 1) (lt_of_some (W := ((W.alloc (.cells #[] 3)).alloc (.cells #[.int .i64 x] 3)).drew) (alloc2_1 W _ _)) (by simp [Value.ownBlock])).trans (alloc2_1 W _ _)
  have hX2C : Ints w3C w3C.heap.size (some ⟨(W.heap.size + 1), 0, none⟩) [x] := one_blk hXbC
  obtain ⟨a4C, c4C, w4C, hr4C, ho4C, hg4C⟩ := app_run_t (t := s) (k := 1) ho3C hb3C.size (some ⟨(W.heap.size + 1), 0, none⟩) 1 [x] rfl hX2C (by omega) (by omega) (by omega)
  have hb4C : Below W.heap.size W w4C := hb3C.grown hg4C hb3C.size (fun g e => (World.ownsRow.lt ho3C g e).1)
  obtain ⟨a5C, c5C, w5C, hr5C, ho5C, hg5C⟩ := app_run_t (t := t) (k := k2) ho4C hb4C.size a2 c2 L2 l2 ((h2.below hb4C).mono hb4C.size) (by omega) (by omega) (by omega)
  have hb5C : Below W.heap.size W w5C := hb4C.grown hg5C hb4C.size (fun g e => (World.ownsRow.lt ho4C g e).1)
  exact ⟨_, _, _, _, _, _, _, _, _, hr3C, hr4C, hr5C, by unfold OwnN; rw [List.map_append, List.map_append]; simpa using ho5C, hb5C⟩

end Go.Proofs.YtgpgocijacgkhaaDoor
