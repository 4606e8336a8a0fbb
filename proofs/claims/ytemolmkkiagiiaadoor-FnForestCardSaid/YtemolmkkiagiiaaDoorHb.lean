/- It is proved what ascending lists without repeats are, and what l1Simple returns; conditions: the bounds in each statement. -/
import Derived.Lib.SlicesCompact
import Derived.Lib.OwnBridge
import Derived.Test.YtemolmkkiagiiaaDoorRows
import Derived.WalkKit
import Derived.WalkSpells
import Derived.ProofKit
import Derived.OpenShut
import Derived.ShutString
import Derived.ChangeOld
import Derived.Below
import Derived.Deep.RegionHeld3
import Derived.Deep.QuietTactic
import Derived.BigQuiet
import Derived.Lib.Hide
import Derived.Lib.SmallJoins
import Derived.Outline
import Derived.Laws.MakeOwn
import Derived.Laws.OwnMore
import Derived.IntWalk
import Derived.Lib.AppendZeros
import Derived.Maps.AppendAt
import Derived.Deep.AppendLies
import Derived.OwnWalk
import Derived.RangeFuncNested
import Derived.RangeFuncBound
import Derived.RangeFuncCalls
import Derived.RangeFuncLeaves
import Derived.RangeFuncBox
import Derived.Shelf.Abstract
import Derived.Shelf.RegionOpen
import Derived.OwnWalkIn
import Derived.TacticsInMore
import Derived.LoopNIn
import Derived.LoopIn
import Derived.Test.YtemolmkkiagiiaaDoorPaaa
import Derived.Test.YtemolmkkiagiiaaDoorPaac
import Derived.Test.YtemolmkkiagiiaaDoorGa
import Derived.Test.YtemolmkkiagiiaaDoorGb
import Derived.Test.YtemolmkkiagiiaaDoorHa
import Derived.Test.YtemolmkkiagiiaaDoorPaai
import Derived.Test.YtemolmkkiagiiaaDoorPaad
namespace Go.Proofs.YtemolmkkiagiiaaDoor
open Go.RowKit

/-- Ascending, each number once. -/
def Asc (xs : List Int) : Prop := xs.Pairwise (· < ·)

theorem asc_ext : ∀ (xs ys : List Int), Asc xs → Asc ys → (∀ z, z ∈ xs ↔ z ∈ ys) → xs = ys
  | [], [], _, _, _ => rfl
  | [], y :: _, _, _, h => by have := (h y).2 (by simp); simp at this
  | x :: _, [], _, _, h => by have := (h x).1 (by simp); simp at this
  | x :: xs, y :: ys, hx, hy, h => by
    have hx' := List.pairwise_cons.1 hx
    have hy' := List.pairwise_cons.1 hy
    have e : x = y := by
      have h1 := (h x).1 (by simp)
      have h2 := (h y).2 (by simp)
      rcases List.mem_cons.1 h1 with h1 | h1
      · exact h1
      · rcases List.mem_cons.1 h2 with h2 | h2
        · exact h2.symm
        · have := hy'.1 x h1
          have := hx'.1 y h2
          omega
    subst e
    rw [asc_ext xs ys hx'.2 hy'.2 fun z => ?_]
    constructor
    · intro hz
      have hlt := hx'.1 z hz
      rcases List.mem_cons.1 ((h z).1 (List.mem_cons_of_mem _ hz)) with h1 | h1
      · omega
      · exact h1
    · intro hz
      have hlt := hy'.1 z hz
      rcases List.mem_cons.1 ((h z).2 (List.mem_cons_of_mem _ hz)) with h1 | h1
      · omega
      · exact h1

/-- All clubs in order, once. -/
def simpZ (zs : List Int) : List Int := Lib.compact (zs.mergeSort fun x y => decide (x ≤ y))

theorem compact_asc (zs : List Int) (h : zs.Pairwise (· ≤ ·)) : Asc (Lib.compact zs) := by
  unfold Asc Lib.compact Lib.compactUpTo
  rw [List.pairwise_map]
  refine List.Pairwise.imp_of_mem (R := fun a b => a < b) ?_ (List.Pairwise.filter _ List.pairwise_lt_range)
  intro i j _ hj hij
  have hj' := List.mem_filter.1 hj
  have hjl : j < zs.length := List.mem_range.1 hj'.1
  have hk : j = 0 ∨ zs.toArray[j]! ≠ zs.toArray[j - 1]! := by simpa [Lib.keeps] using hj'.2
  have hk2 : zs.toArray[j]! ≠ zs.toArray[j - 1]! := by
    rcases hk with rfl | hk
    · omega
    · exact hk
  have e1 : zs.toArray[j]! = zs[j] := by simp [hjl]
  have e2 : zs.toArray[j - 1]! = zs[j - 1]'(by omega) := by simp [show j - 1 < zs.length by omega]
  have e3 : zs.toArray[i]! = zs[i]'(by omega) := by simp [show i < zs.length by omega]
  rw [e1, e2] at hk2
  rw [e1, e3]
  have h1 : zs[j - 1]'(by omega) ≤ zs[j] := List.pairwise_iff_getElem.1 h (j - 1) j (by omega) hjl (by omega)
  have h2 : zs[i]'(by omega) ≤ zs[j - 1]'(by omega) := by
    rcases Nat.lt_or_ge i (j - 1) with hlt | hge
    · exact List.pairwise_iff_getElem.1 h i (j - 1) (by omega) (by omega) hlt
    · have e : i = j - 1 := by omega
      subst e; exact Int.le_refl _
  omega

theorem compact_mem (zs : List Int) (z : Int) : z ∈ Lib.compact zs ↔ z ∈ zs := by
  unfold Lib.compact Lib.compactUpTo
  constructor
  · intro h
    obtain ⟨i, hi, e⟩ := List.mem_map.1 h
    have hil : i < zs.length := List.mem_range.1 (List.mem_filter.1 hi).1
    rw [← e]
    simp [hil]
  · intro h
    obtain ⟨i, hi, e⟩ := List.getElem_of_mem h
    have go : ∀ n i (hi : i < zs.length), i ≤ n → zs[i] = z → z ∈ ((List.range zs.length).filter (Lib.keeps zs.toArray)).map (zs.toArray[·]!) := by
      intro n
      induction n with
      | zero =>
        intro i hi hle e
        obtain rfl : i = 0 := by omega
        exact List.mem_map.2 ⟨0, List.mem_filter.2 ⟨List.mem_range.2 hi, by simp [Lib.keeps]⟩, by simp [hi, e]⟩
      | succ n ih =>
        intro i hi hle e
        by_cases hk : Lib.keeps zs.toArray i = true
        · exact List.mem_map.2 ⟨i, List.mem_filter.2 ⟨List.mem_range.2 hi, hk⟩, by simp [hi, e]⟩
        · have hk' : ¬ (i = 0 ∨ zs.toArray[i]! ≠ zs.toArray[i - 1]!) := by simpa [Lib.keeps] using hk
          have h0 : i ≠ 0 := fun h => hk' (.inl h)
          have h1 : zs.toArray[i]! = zs.toArray[i - 1]! := Classical.byContradiction fun h => hk' (.inr h)
          have e2 : zs.toArray[i - 1]! = zs[i - 1]'(by omega) := by simp [show i - 1 < zs.length by omega]
          have e1 : zs.toArray[i]! = zs[i] := by simp [hi]
          exact ih (i - 1) (by omega) (by omega) (by rw [← e2, ← h1, e1]; exact e)
    exact go i i hi (Nat.le_refl _) e

theorem sorted_le (zs : List Int) : (zs.mergeSort fun x y => decide (x ≤ y)).Pairwise (· ≤ ·) := by
  have := List.pairwise_mergeSort (le := fun x y : Int => decide (x ≤ y)) (by intro a b c h1 h2; simp at h1 h2 ⊢; omega) (by intro a b; simp; omega) zs
  exact this.imp (by intro a b h; simpa using h)

theorem simpZ_asc (zs : List Int) : Asc (simpZ zs) := compact_asc _ (sorted_le zs)
theorem simpZ_mem (zs : List Int) (z : Int) : z ∈ simpZ zs ↔ z ∈ zs := by
  unfold simpZ; rw [compact_mem, List.mem_mergeSort]

theorem simpZ_of {zs ys : List Int} (h : Asc ys) (hm : ∀ z, z ∈ ys ↔ z ∈ zs) : ys = simpZ zs :=
  asc_ext _ _ h (simpZ_asc zs) fun z => (hm z).trans (simpZ_mem zs z).symm

theorem simpZ_le (zs : List Int) : (simpZ zs).length ≤ zs.length := by
  unfold simpZ
  exact Nat.le_trans (Lib.compact_length_le _) (by rw [List.length_mergeSort]; exact Nat.le_refl _)

theorem put_asc {zs : List Int} {x : Int} {k n : Nat} (hl : zs.length = n) (hk : k ≤ n) (ha : Asc zs) (h1 : ∀ j, k ≤ j → j < n → x < zs[j]?.getD 0) (h2 : ∀ k', k = k' + 1 → zs[k']?.getD 0 < x) :
    Asc (zs.take k ++ [x] ++ zs.drop k) := by
  have hlow : ∀ y ∈ zs.take k, y < x := by
    intro y hy
    obtain ⟨i, hi, e⟩ := List.getElem_of_mem hy
    have hik : i < k := by simp at hi; omega
    have hil : i < zs.length := by omega
    have e' : zs[i] = y := by rw [← e]; simp
    obtain ⟨k', rfl⟩ : ∃ k', k = k' + 1 := ⟨k - 1, by omega⟩
    have h := h2 k' rfl
    have hkl : k' < zs.length := by omega
    simp [hkl] at h
    rcases Nat.lt_or_ge i k' with hlt | hge
    · have := List.pairwise_iff_getElem.1 ha i k' hil hkl hlt
      omega
    · have : i = k' := by omega
      subst this; omega
  have hhigh : ∀ y ∈ zs.drop k, x < y := by
    intro y hy
    obtain ⟨i, hi, e⟩ := List.getElem_of_mem hy
    have hil : k + i < zs.length := by simp at hi; omega
    have := h1 (k + i) (by omega) (by omega)
    simp [hil] at this
    rw [List.getElem_drop] at e
    omega
  have ht : Asc (zs.take k) := List.Pairwise.sublist (List.take_sublist _ _) ha
  have hd : Asc (zs.drop k) := List.Pairwise.sublist (List.drop_sublist _ _) ha
  unfold Asc
  rw [List.pairwise_append]
  refine ⟨?_, hd, ?_⟩
  · rw [List.pairwise_append]
    exact ⟨ht, by simp, fun a ha b hb => by
      have : b = x := by simpa using hb
      subst this; exact hlow a ha⟩
  · intro a ha b hb
    rcases List.mem_append.1 ha with ha | ha
    · have := hlow a ha
      have := hhigh b hb
      omega
    · have : a = x := by simpa using ha
      subst this; exact hhigh b hb

theorem put_mem {zs : List Int} {x : Int} (k : Nat) (z : Int) : z ∈ zs.take k ++ [x] ++ zs.drop k ↔ z ∈ zs ∨ z = x := by
  have h := List.take_append_drop k zs
  constructor
  · intro hz
    rcases List.mem_append.1 hz with hz | hz
    · rcases List.mem_append.1 hz with hz | hz
      · exact .inl (List.mem_of_mem_take hz)
      · exact .inr (by simpa using hz)
    · exact .inl (List.mem_of_mem_drop hz)
  · rintro (hz | hz)
    · rw [← h] at hz
      rcases List.mem_append.1 hz with hz | hz
      · simp [hz]
      · simp [hz]
    · simp [hz]

theorem put_len {zs : List Int} {x : Int} {k n : Nat} (hl : zs.length = n) (hk : k ≤ n) : (zs.take k ++ [x] ++ zs.drop k).length = n + 1 := by
  simp; omega

/-- What a function of a list returns: a list of the call's own. -/
def RetOwn (w : World) (ys : List Int) (e : Ending) (w' : World) : Prop :=
  ∃ g c, e = .returned (.slice (some ⟨g, 0, none⟩) ys.length c) ∧ OwnN w' w.heap.size (some ⟨g, 0, none⟩) ys.length c ys ∧ Below w.heap.size w w'

theorem take_mem_succ {zs : List Int} {k : Nat} (h : k < zs.length) (z : Int) : z ∈ zs.take (k + 1) ↔ z ∈ zs.take k ∨ z = zs[k]?.getD 0 := by
  rw [List.take_succ_eq_append_getElem h, List.mem_append, List.mem_singleton]; simp only [List.getElem?_eq_getElem h, Option.getD_some]

set_option maxRecDepth 100000 in
set_option maxHeartbeats 1600000 in
theorem l1Simple_any (a : Option Addr) (c : Nat) (zs : List Int) (w : World) (ha : Ints w w.heap.size a zs) (hx : zs.length < 1048576) :
    Calls Tryd.prog 44 #[.slice a zs.length c] w (RetOwn w (simpZ zs)) := by
  have HA := Lib.hid ha
  clear ha
  go_enter Tryd.func44, Tryd.ntmps44
  go_wp2
  go_loopw [3, 4] (fun v i wr => ∃ (k g n c' : Nat) (ys : List Int), k ≤ zs.length ∧ i = .int .i64 k ∧ v = .slice (some ⟨g, 0, none⟩) n c' ∧ n ≤ k ∧ Asc ys ∧ (∀ z, z ∈ ys ↔ z ∈ zs.take k) ∧ OwnN wr w.heap.size (some ⟨g, 0, none⟩) n c' ys ∧ Below w.heap.size w wr) (fun _ i _ => zs.length - (intOf i).toNat)
  case atStart => exact ⟨0, _, _, _, [], Nat.zero_le _, rfl, rfl, Nat.le_refl _, List.Pairwise.nil, fun z => by simp, own_empty (alloc_new w _) (Nat.le_refl _), below1 _ _⟩
  case round =>
    obtain ⟨k, g, n, c', ys, hk, rfl, rfl, hn, hasc, hmem, ho, hb⟩ := hrel
    have HO := Lib.hid ho
    have HB := Lib.hid hb
    have HM := Lib.hid hmem
    have HS := Lib.hid hasc
    by_cases hlt : k < zs.length
    · obtain ⟨b1, o1, rfl, hb1, hc1⟩ := (HA.out.below hb).at_ hlt
      clear ho hb hmem hasc
      go_wp2_with fail
      refine (l1Put_any g 0 n c' ys _ _ HO.out.len HO.out.ints (by omega) HO.out.cap_le).mono ?_
      rintro e w3 ⟨p, hp, hge, h3⟩
      have HG := Lib.hid hge
      clear hge
      rcases h3 with ⟨k', hpk, hkx, rfl, rfl⟩ | ⟨hlow, a', c2, rfl, ho3, hb3⟩
      · have HK := Lib.hid hkx
        clear hkx
        go_wp2
        go_roundw
        case rel => exact ⟨k + 1, g, n, c', ys, by omega, by go_num, rfl, by omega, HS.out, fun z => by
          have e : ys[k']?.getD 0 = zs[k]?.getD 0 := by have := HK.out; simpa [hlt] using this
          rw [take_mem_succ hlt, ← HM.out z]
          constructor
          · exact .inl
          · rintro (h | h)
            · exact h
            · have hk' : k' < ys.length := by rw [HO.out.len]; omega
              rw [h, ← e]; simp [hk'], HO.out, HB.out⟩
        case measure => simp [intOf]; omega
      · have HW := Lib.hid hlow
        have HO3 := Lib.hid ho3
        have HB3 := Lib.hid (HB.out.trans (hb3.mono HB.out.size))
        have hw2 : w.heap.size ≤ wr.heap.size := HB.out.size
        obtain ⟨g', rfl, -, -⟩ := ho3.addr (by omega)
        clear hlow ho3 hb3
        go_wp2
        go_roundw
        case rel => exact ⟨k + 1, g', n + 1, c2, ys.take p ++ [zs[k]?.getD 0] ++ ys.drop p, by omega, by go_num, rfl, by omega,
          put_asc HO.out.len hp HS.out (fun j h1 h2 => by have := HG.out j h1 h2; simpa [hlt] using this) (fun k' e => by have := HW.out k' e; simpa [hlt] using this),
          fun z => by rw [put_mem, take_mem_succ hlt, HM.out z], by have := HO3.out.base hw2; simpa [hlt] using this, HB3.out⟩
        case measure => simp [intOf]; omega
    · obtain rfl : k = zs.length := by omega
      rw [List.take_length] at hmem
      have hys : ys = simpZ zs := simpZ_of hasc hmem
      subst hys
      have hl := ho.len
      subst hl
      clear ho hb hmem hasc
      go_wp2
      go_ret
      exact ⟨g, c', rfl, HO.out, HB.out⟩

end Go.Proofs.YtemolmkkiagiiaaDoor
