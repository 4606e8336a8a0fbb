/- It is proved what families that are alike have in common; conditions: those of each statement. -/
import Derived.RowKit
import Derived.Laws.CopyRow
import Derived.Lib.SlBuf
import Derived.Deep.QuietTactic
import Derived.RangeFuncNested
import Derived.RangeFuncBound
import Derived.RangeFuncCalls
import Derived.RangeFuncLeaves
import Derived.RangeFuncBox
import Derived.RangeFuncWrites
import Derived.StillTailTactics
import Derived.Maps.OwnIn
import Derived.Maps.Ext
import Derived.DeepKeys4
import Derived.MapKept
import Derived.Test.YtijpgbkjgjpmmaaDoorRows
import Derived.WalkKit
import Derived.WalkSpells
import Derived.ProofKit
import Derived.OpenShut
import Derived.ShutString
import Derived.ChangeOld
import Derived.Below
import Derived.Deep.RegionHeld3
import Derived.BigQuiet
import Derived.Lib.Hide
import Derived.Lib.SmallJoins
import Derived.Outline
import Derived.Laws.MakeOwn
import Derived.Laws.OwnMore
import Derived.IntWalk
import Derived.Maps.AppendAt
import Derived.Sort.MapsRangeIn
import Derived.Deep.RegionLaw
import Derived.Deep.AppendLies
import Derived.Lib.AppendZeros
import Derived.OwnWalk
import Derived.Lib.SlicesCompact
import Derived.Lib.OwnBridge
import Derived.OrdersIn
import Derived.TacticsIn
import Derived.Shelf.Sort.Plain
import Derived.Shelf.Slices.In.SortNone
import Derived.Shelf.Slices.CompactI
import Derived.Ground.Names2Prog
import Derived.Shelf.Abstract
import Derived.Shelf.RegionOpen
import Derived.OwnWalkIn
import Derived.TacticsInMore
import Derived.LoopNIn
import Derived.LoopIn
import Derived.StillTail
import Derived.StillTactics
import Derived.Shelf.Spec.TrailingZeros
import Derived.Test.YtijpgbkjgjpmmaaDoorMrab
import Derived.Test.YtijpgbkjgjpmmaaDoorMrae
import Derived.Test.YtijpgbkjgjpmmaaDoorMram
import Derived.Test.YtijpgbkjgjpmmaaDoorMrao
import Derived.Test.YtijpgbkjgjpmmaaDoorMrap
import Derived.Test.YtijpgbkjgjpmmaaDoorMraq
import Derived.Test.YtijpgbkjgjpmmaaDoorMraa
import Derived.Test.YtijpgbkjgjpmmaaDoorMrad
import Derived.Test.YtijpgbkjgjpmmaaDoorMrar
import Derived.Test.YtijpgbkjgjpmmaaDoorMras
import Derived.Test.YtijpgbkjgjpmmaaDoorMrat
import Derived.Test.YtijpgbkjgjpmmaaDoorQg
import Derived.Test.YtijpgbkjgjpmmaaDoorMrac
namespace Go.Proofs.YtijpgbkjgjpmmaaDoor
open Go.RowKit

theorem lst_two {xs ys : List Int} {p q : List Nat} : lstP xs p = lstP ys q ↔ (xs.map (callZ (nI p))).Perm (ys.map (callZ (nI q))) :=
  ⟨fun h => (lst_perm xs p).symm.trans (h ▸ lst_perm ys q), fun h => sortZ_congr h⟩

/-- Some names make the one the other. -/
def TwinB (k : Nat) (xs ys : List Int) : Prop := ∃ p, p ∈ lvlL k k ∧ lstP xs p = lstP ys (List.range k)

theorem twin_back {k : Nat} (hk : k ≤ 6) {xs ys : List Int} (hx : famIn (k : Int) xs = true) (hy : famIn (k : Int) ys = true) (h : TwinB k xs ys) : TwinB k ys xs := by
  obtain ⟨p, hp, e⟩ := h
  refine ⟨invN k p, inv_in hp, ?_⟩
  have h1 := lst_comp hk (range_in k) (inv_in hp) hy
  rw [← e, lst_comp hk hp (inv_in hp) hx, comp_inv hp, comp_idL (inv_in hp)] at h1
  exact h1.symm

theorem twin_half {k : Nat} (hk : k ≤ 6) {xs ys : List Int} (hx : famIn (k : Int) xs = true) (hy : famIn (k : Int) ys = true) (h : TwinB k xs ys) : lexB (lstP ys (firstN k ys)) (lstP xs (firstN k xs)) = false := by
  obtain ⟨p, hp, e⟩ := h
  have hq := first_in hk ys
  have h1 := lst_comp hk (range_in k) hq hy
  rw [← e, lst_comp hk hp hq hx, comp_idL hq] at h1
  rw [← h1]
  exact least_le hk xs (comp_in hp hq)

theorem twin_least {k : Nat} (hk : k ≤ 6) {xs ys : List Int} (hx : famIn (k : Int) xs = true) (hy : famIn (k : Int) ys = true) (h : TwinB k xs ys) : lstP xs (firstN k xs) = lstP ys (firstN k ys) :=
  lexB_eq (twin_half hk hy hx (twin_back hk hx hy h)) (twin_half hk hx hy h)

theorem twin_of {k : Nat} (hk : k ≤ 6) {xs ys : List Int} (hx : famIn (k : Int) xs = true) (hy : famIn (k : Int) ys = true) (h : lstP xs (firstN k xs) = lstP ys (firstN k ys)) : TwinB k xs ys := by
  have hp := first_in hk xs
  have hq := first_in hk ys
  refine ⟨compN (firstN k xs) (invN k (firstN k ys)), comp_in hp (inv_in hq), ?_⟩
  rw [← lst_comp hk hp (inv_in hq) hx, h, lst_comp hk hq (inv_in hq) hy, comp_inv hq]

theorem map_idN {k : Nat} (hk : k ≤ 6) {zs : List Int} (hf : famIn (k : Int) zs = true) : zs.map (callZ (nI (List.range k))) = zs := by
  conv => rhs; rw [← List.map_id zs]
  exact List.map_congr_left fun z hz => callZ_id hk (fam_small hf z hz).1 (fam_small hf z hz).2

theorem twin_perm {k : Nat} (hk : k ≤ 6) {xs ys : List Int} (hy : famIn (k : Int) ys = true) (h : TwinB k xs ys) : ∃ p, p ∈ lvlL k k ∧ (xs.map (callZ (nI p))).Perm ys := by
  obtain ⟨p, hp, e⟩ := h
  have h1 := lst_two.1 e
  rw [map_idN hk hy] at h1
  exact ⟨p, hp, h1⟩

theorem pop_called {k : Nat} (hk : k ≤ 6) {p : List Nat} (hp : p ∈ lvlL k k) {z : Int} (h0 : 0 ≤ z) (hz : z.toNat < 2 ^ k) : pop (callZ (nI p) z) = pop z := by
  have h64 := pow64 k hk
  obtain ⟨s, rfl⟩ : ∃ s : Nat, z = (s : Int) := ⟨z.toNat, by omega⟩
  rw [Int.toNat_natCast] at hz
  have h1 := called_pop hk (perm_names hk hp) hz
  have h2 := called_lt hk (perm_names hk hp) hz
  rw [callZ, Int.toNat_natCast, pop_mem (by omega), pop_mem (by omega)]
  unfold popS at h1
  rw [h1]

theorem twin_sizes {k : Nat} (hk : k ≤ 6) {xs ys : List Int} (hx : famIn (k : Int) xs = true) (hy : famIn (k : Int) ys = true) (h : TwinB k xs ys) : (xs.map pop).Perm (ys.map pop) := by
  obtain ⟨p, hp, hpm⟩ := twin_perm hk hy h
  have h1 := hpm.map pop
  rw [List.map_map, show xs.map (pop ∘ callZ (nI p)) = xs.map pop from List.map_congr_left fun z hz => pop_called hk hp (fam_small hx z hz).1 (fam_small hx z hz).2] at h1
  exact h1

theorem twin_degrees {k : Nat} (hk : k ≤ 6) {xs ys : List Int} (hx : famIn (k : Int) xs = true) (hy : famIn (k : Int) ys = true) (h : TwinB k xs ys) : (degL k (allMem xs)).Perm (degL k (allMem ys)) := by
  obtain ⟨p, hp, hpm⟩ := twin_perm hk hy h
  have e : degL k (allMem xs) = p.map fun v => (((allMem ys).count v : Nat) : Int) := by
    rw [← at_range (lvlL_in hp), List.map_map]
    unfold degL
    apply List.map_congr_left
    intro v hv
    rw [List.mem_range] at hv
    rw [Function.comp, ← called_deg hk hx hp hv, (allMem_perm hpm).count_eq]
  rw [e]
  exact (lvl_perm.1 hp).map _

theorem twin_not {k : Nat} (hk1 : 1 ≤ k) (hk : k ≤ 6) {xs ys : List Int} (hx : famIn (k : Int) xs = true) (hy : famIn (k : Int) ys = true) (h : TwinB k xs ys) : TwinB k (xs.map (notZ k)) (ys.map (notZ k)) := by
  obtain ⟨p, hp, e⟩ := h
  refine ⟨p, hp, ?_⟩
  have e2 : ∀ {zs : List Int}, famIn (k : Int) zs = true → ∀ {r : List Nat}, r ∈ lvlL k k → (zs.map (notZ k)).map (callZ (nI r)) = (zs.map (callZ (nI r))).map (notZ k) := fun {zs} hf {r} hr => by
    rw [List.map_map, List.map_map]
    exact List.map_congr_left fun z hz => callZ_not hk1 hk hr (fam_small hf z hz).1 (fam_small hf z hz).2
  rw [lst_two, e2 hx hp, e2 hy (range_in k)]
  exact (lst_two.1 e).map _

theorem alikeB_of {k : Nat} (hk : k ≤ 6) {xs ys : List Int} (hx : famIn (k : Int) xs = true) (hy : famIn (k : Int) ys = true) (hl : xs.length = ys.length) (h : TwinB k xs ys) : alikeB (k : Int) xs (k : Int) ys = true := by
  rw [alikeB, hx, hy]
  simp only [Bool.true_and, decide_true, Bool.and_eq_true, decide_eq_true_eq, Int.toNat_natCast]
  exact ⟨hl, twin_least hk hx hy h⟩

theorem alike_facts {m j : Int} {xs ys : List Int} (h : alikeB m xs j ys = true) : j = m ∧ famIn m xs = true ∧ famIn m ys = true ∧ xs.length = ys.length ∧ sortZ (sizesZ m xs) = sortZ (sizesZ m ys) ∧ sortZ (famDeg m xs) = sortZ (famDeg m ys) ∧
    alikeB m ys m xs = true ∧ otherM m xs = m ∧ otherM m ys = m ∧ alikeB m (otherZ m xs) m (otherZ m ys) = true := by
  simp only [alikeB, Bool.and_eq_true, decide_eq_true_eq] at h
  obtain ⟨hx, hy, rfl, hl, he⟩ := h
  obtain ⟨hm1, hm6, -, -⟩ := famIn_out hx
  obtain ⟨k, rfl⟩ : ∃ k : Nat, m = (k : Int) := ⟨m.toNat, by omega⟩
  have hk : k ≤ 6 := by omega
  have hk1 : 1 ≤ k := by omega
  rw [Int.toNat_natCast] at he
  have ht := twin_of hk hx hy he
  have ex : otherZ (k : Int) xs = xs.map (notZ k) := by rw [otherZ, if_pos hx]; rfl
  have ey : otherZ (k : Int) ys = ys.map (notZ k) := by rw [otherZ, if_pos hy]; rfl
  have mx : otherM (k : Int) xs = k := by simp [otherM, hx]
  have my : otherM (k : Int) ys = k := by simp [otherM, hy]
  have fx := (other_facts hx).1
  have fy := (other_facts hy).1
  rw [mx] at fx
  rw [my] at fy
  refine ⟨rfl, hx, hy, hl, ?_, ?_, alikeB_of hk hy hx hl.symm (twin_back hk hx hy ht), mx, my, alikeB_of hk fx fy (by rw [ex, ey, List.length_map, List.length_map, hl]) ?_⟩
  · rw [sizesZ, if_pos hx, sizesZ, if_pos hy]
    exact sortZ_congr (twin_sizes hk hx hy ht)
  · rw [famDeg, if_pos hx, famDeg, if_pos hy]
    exact sortZ_congr (twin_degrees hk hx hy ht)
  · rw [ex, ey]
    exact twin_not hk1 hk hx hy ht

end Go.Proofs.YtijpgbkjgjpmmaaDoor
