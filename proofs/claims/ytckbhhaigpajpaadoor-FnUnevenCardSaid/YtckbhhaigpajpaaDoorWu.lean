/- It is proved how the least uneven number stands to sizes and forests; conditions: those of each statement. -/
import Derived.RowKit
import Derived.Laws.CopyRow
import Derived.Lib.SlBuf
import Derived.Deep.QuietTactic
import Derived.RangeFuncNested
import Derived.RangeFuncBound
import Derived.RangeFuncCalls
import Derived.RangeFuncLeaves
import Derived.RangeFuncBox
import Derived.RangeFuncWrites
import Derived.StillTailTactics
import Derived.Maps.OwnIn
import Derived.Maps.Ext
import Derived.DeepKeys4
import Derived.MapKept
import Derived.Test.YtckbhhaigpajpaaDoorRows
import Derived.WalkKit
import Derived.WalkSpells
import Derived.ProofKit
import Derived.OpenShut
import Derived.ShutString
import Derived.ChangeOld
import Derived.Below
import Derived.Deep.RegionHeld3
import Derived.BigQuiet
import Derived.Lib.Hide
import Derived.Lib.SmallJoins
import Derived.Outline
import Derived.Laws.MakeOwn
import Derived.Laws.OwnMore
import Derived.IntWalk
import Derived.Maps.AppendAt
import Derived.Sort.MapsRangeIn
import Derived.Deep.RegionLaw
import Derived.Deep.AppendLies
import Derived.Deep.RegionWith
import Derived.Lib.AppendZeros
import Derived.OwnWalk
import Derived.Lib.SlicesCompact
import Derived.Lib.OwnBridge
import Derived.OrdersIn
import Derived.TacticsIn
import Derived.Shelf.Sort.Plain
import Derived.Shelf.Slices.In.SortNone
import Derived.Shelf.Slices.CompactI
import Derived.Ground.Names2Prog
import Derived.Lib.SliceRun
import Derived.Shelf.Abstract
import Derived.Shelf.RegionOpen
import Derived.OwnWalkIn
import Derived.TacticsInMore
import Derived.LoopNIn
import Derived.LoopIn
import Derived.StillTail
import Derived.StillTactics
import Derived.Shelf.Spec.TrailingZeros
import Derived.Deep.LoopGhost
import Derived.Test.YtckbhhaigpajpaaDoorRaab
import Derived.Test.YtckbhhaigpajpaaDoorRaac
import Derived.Test.YtckbhhaigpajpaaDoorJf
import Derived.Test.YtckbhhaigpajpaaDoorRaad
import Derived.Test.YtckbhhaigpajpaaDoorRaaf
import Derived.Test.YtckbhhaigpajpaaDoorRaal
import Derived.Test.YtckbhhaigpajpaaDoorRaau
import Derived.Test.YtckbhhaigpajpaaDoorWr
import Derived.Test.YtckbhhaigpajpaaDoorRaai
import Derived.Test.YtckbhhaigpajpaaDoorRaak
import Derived.Test.YtckbhhaigpajpaaDoorYv
import Derived.Test.YtckbhhaigpajpaaDoorYx
import Derived.Test.YtckbhhaigpajpaaDoorZb
namespace Go.Proofs.YtckbhhaigpajpaaDoor
open Go.RowKit

/-- The greatest of numbers that are not below 0. -/
def mostS (ys : List Int) : Int := ys.foldl (fun b y => max b y) 0

theorem mostS_snoc (ys : List Int) (y : Int) : mostS (ys ++ [y]) = max (mostS ys) y := by simp [mostS]
theorem mostS_bound : ∀ {ys : List Int}, (∀ y ∈ ys, 0 ≤ y ∧ y ≤ 8) → 0 ≤ mostS ys ∧ mostS ys ≤ 8 := by
  intro ys
  induction ys using snoc_ind with
  | h0 => intro _; simp [mostS]
  | h1 l y ih =>
    intro h
    have h1 := ih (fun x hx => h x (by simp [hx]))
    have h2 := h y (by simp)
    rw [mostS_snoc]
    omega

/-- Whether one of some numbers is odd. -/
def oddS (ys : List Int) : Bool := ys.any fun y => y.tmod 2 == 1

theorem oddS_snoc (ys : List Int) (y : Int) : oddS (ys ++ [y]) = (oddS ys || (y.tmod 2 == 1)) := by simp [oddS]
theorem pop_cntI {z : Int} (h0 : 0 ≤ z) (h : z.toNat < 64) : pop z = ((cntK 8 z.toNat : Nat) : Int) := by
  have := pop_fin ⟨z.toNat, h⟩
  dsimp only at this
  rwa [Int.toNat_of_nonneg h0] at this

set_option maxRecDepth 100000 in
theorem dif0_fin : ∀ z : Fin 64, difN 0 z.val = 0 - ((cntK 8 z.val : Nat) : Int) := by decide +kernel

theorem unv0_most : ∀ {zs : List Int}, (∀ z ∈ zs, 0 ≤ z ∧ z.toNat < 64) → unvS 0 zs = mostS (zs.map pop) := by
  intro zs
  induction zs using snoc_ind with
  | h0 => intro _; rfl
  | h1 l z ih =>
    intro h
    obtain ⟨h2, h3⟩ := h z (by simp)
    have h4 := dif0_fin ⟨z.toNat, h3⟩
    dsimp only at h4
    rw [List.map_append, List.map_cons, List.map_nil, mostS_snoc, unvS_snoc, ih (fun x hx => h x (by simp [hx])), pop_cntI h2 h3, h4]
    omega

theorem minS_le (m : Nat) (zs : List Int) (n : Nat) (x : Int) : minS m zs n ≤ x ↔ (m : Int) ≤ x ∨ ∃ s, s < n ∧ unvS s zs ≤ x := by
  unfold minS
  rw [min_le]
  simp only [List.mem_range]

theorem unv_most {k : Nat} (hk6 : k ≤ 6) {zs : List Int} (hz : Sets k zs) : minS k zs (2 ^ k) ≤ mostS (zs.map pop) :=
  (minS_le _ _ _ _).2 (.inr ⟨0, Nat.two_pow_pos k, by rw [unv0_most fun z h => ⟨(hz z h).1, p64 hk6 (hz z h).2⟩]; exact Int.le_refl _⟩)

set_option maxRecDepth 100000 in
theorem unv2_fin : ∀ z : Fin 64, ∀ s : Fin 64, cntK 8 (z.val &&& s.val) + cntK 8 (z.val &&& (63 - s.val)) = cntK 8 z.val := by decide +kernel

theorem unvS_ge (s : Nat) : ∀ {zs : List Int} {z : Int}, z ∈ zs → max (difN s z.toNat) (0 - difN s z.toNat) ≤ unvS s zs := by
  intro zs
  induction zs using snoc_ind with
  | h0 => intro z h; cases h
  | h1 l y ih =>
    intro z h
    rw [unvS_snoc]
    rcases List.mem_append.1 h with h | h
    · have := ih h; omega
    · have : z = y := by simpa using h
      subst this; omega

theorem unv_odd {k : Nat} (hk1 : 1 ≤ k) (hk6 : k ≤ 6) {zs : List Int} (hz : Sets k zs) (h : oddS (zs.map pop) = true) : 1 ≤ minS k zs (2 ^ k) := by
  apply Decidable.byContradiction
  intro hc
  rcases (minS_le k zs (2 ^ k) 0).1 (by omega) with h1 | ⟨s, hs, h1⟩
  · omega
  · unfold oddS at h
    rw [List.any_eq_true] at h
    obtain ⟨y, hy, ho⟩ := h
    obtain ⟨z, hzz, rfl⟩ := List.mem_map.1 hy
    obtain ⟨h2, h3⟩ := hz z hzz
    have h64 := p64 hk6 h3
    rw [pop_cntI h2 h64] at ho
    have h5 := unvS_ge s hzz
    have h6 := unv2_fin ⟨z.toNat, h64⟩ ⟨s, p64 hk6 hs⟩
    dsimp only at h6
    have h7 : difN s z.toNat = 0 := by omega
    unfold difN at h7
    rw [beq_iff_eq, ← h6] at ho
    rw [Int.tmod_eq_emod_of_nonneg (by omega)] at ho
    omega

theorem unvS_le (s : Nat) : ∀ {zs : List Int}, (∀ z ∈ zs, -1 ≤ difN s z.toNat ∧ difN s z.toNat ≤ 1) → unvS s zs ≤ 1 := by
  intro zs
  induction zs using snoc_ind with
  | h0 => intro _; simp [unvS]
  | h1 l y ih =>
    intro h
    have h1 := ih (fun x hx => h x (by simp [hx]))
    have h2 := h y (by simp)
    rw [unvS_snoc]
    omega

set_option maxRecDepth 100000 in
theorem disc_fin : ∀ z : Fin 64, ∀ s : Fin 64, difN s.val z.val = disc (fun v => s.val.testBit v) (z.val : Int) := by decide +kernel

theorem disc_same {x y : Nat → Bool} {z : Int} {k : Nat} (hk6 : k ≤ 6) (h3 : z.toNat < 2 ^ k) (h : ∀ v, v < k → x v = y v) : disc x z = disc y z := by
  have : ∀ v, disc1 x z v = disc1 y z v := fun v => by
    unfold disc1
    by_cases hv : v < k
    · rw [h v hv]
    · have : Bt v z = false := Nat.testBit_lt_two_pow (Nat.lt_of_lt_of_le h3 (Nat.pow_le_pow_right (by decide) (by omega)))
      rw [this]
      rfl
  unfold disc
  simp only [this]

theorem unv_forest {k : Nat} (hk1 : 1 ≤ k) (hk6 : k ≤ 6) {zs : List Int} (hz : Sets k zs) (h : forestB (k : Int) zs = true) : minS k zs (2 ^ k) ≤ 1 := by
  obtain ⟨x, hx⟩ := forest_even hk6 hz (forest_br hk6 hz h)
  obtain ⟨s, hs, hw⟩ := word_set hk6 (w := (List.range k).map x) ((wordsL_mem _ _ _).2 ⟨by simp, fun c _ => by cases c <;> simp⟩)
  have hb : ∀ v, v < k → s.testBit v = x v := fun v hv => by
    have h1 := bitL_at (m := k) (s := s) hv
    rw [hw, List.getElem?_map, List.getElem?_range hv] at h1
    exact h1.symm
  refine (minS_le _ _ _ _).2 (.inr ⟨s, hs, unvS_le s fun z hzz => ?_⟩)
  obtain ⟨h2, h3⟩ := hz z hzz
  have h4 := hx z hzz
  unfold Even1 at h4
  have h5 := disc_fin ⟨z.toNat, p64 hk6 h3⟩ ⟨s, p64 hk6 hs⟩
  dsimp only at h5
  rw [Int.toNat_of_nonneg h2, disc_same hk6 h3 hb] at h5
  rw [h5]
  exact h4

theorem uneven_law {m : Int} {zs : List Int} (h : famIn m zs = true) : outCU m zs ≤ mostS (sizesZ m zs) ∧ (oddS (sizesZ m zs) = true → 1 ≤ outCU m zs) ∧ (forestB m zs = true → outCU m zs ≤ 1) ∧ 0 ≤ outCU m zs ∧ outCU m zs ≤ 6 ∧ (∀ y ∈ sizesZ m zs, 0 ≤ y ∧ y ≤ 8) := by
  obtain ⟨k, rfl, hk1, hk6, hset, hl8⟩ := fam_nat2 h
  have h1 : outCU (k : Int) zs = minS k zs (2 ^ k) := by unfold outCU; rw [h]; rfl
  have h2 : sizesZ (k : Int) zs = zs.map pop := by unfold sizesZ; rw [h]; rfl
  have h3 := minS_bound (m := k) (zs := zs) (fun z hh => p64 hk6 (hset z hh).2) (2 ^ k)
  rw [h1, h2]
  exact ⟨unv_most hk6 hset, unv_odd hk1 hk6 hset, unv_forest hk1 hk6 hset, h3.1, by omega, pop_bound fun z hh => ⟨(hset z hh).1, p64 hk6 (hset z hh).2⟩⟩

end Go.Proofs.YtckbhhaigpajpaaDoor
