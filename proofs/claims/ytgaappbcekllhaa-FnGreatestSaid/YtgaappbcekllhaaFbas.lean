/- It is proved that the laws' sorted returns the sorted list, in new memory; conditions: those of each statement. -/
import Derived.Test.YtgaappbcekllhaaRows
import Derived.WalkKit
import Derived.WalkSpells
import Derived.ProofKit
import Derived.OpenShut
import Derived.ShutString
import Derived.ChangeOld
import Derived.Below
import Derived.Deep.RegionHeld3
import Derived.Deep.QuietTactic
import Derived.BigQuiet
import Derived.Lib.Hide
import Derived.Lib.SmallJoins
import Derived.Outline
import Derived.Laws.MakeOwn
import Derived.Laws.OwnMore
import Derived.IntWalk
import Derived.Deep.RegionLaw
import Derived.Deep.AppendLies
import Derived.Lib.AppendZeros
import Derived.Maps.AppendAt
import Derived.OwnWalk
import Derived.RangeFuncNested
import Derived.RangeFuncBound
import Derived.RangeFuncCalls
import Derived.RangeFuncLeaves
import Derived.RangeFuncBox
import Derived.Shelf.Abstract
import Derived.Shelf.RegionOpen
import Derived.OwnWalkIn
import Derived.TacticsInMore
import Derived.LoopNIn
import Derived.LoopIn
import Derived.Shelf.Spec.TrailingZeros
import Derived.Test.YtgaappbcekllhaaFbaa
import Derived.Test.YtgaappbcekllhaaFbab
import Derived.Test.YtgaappbcekllhaaFbaq
import Derived.Test.YtgaappbcekllhaaFbaf
import Derived.Test.YtgaappbcekllhaaHa
import Derived.Test.YtgaappbcekllhaaFbah
import Derived.Test.YtgaappbcekllhaaFbae
namespace Go.Proofs.Ytgaappbcekllhaa
open Go.RowKit

/-- A list in order. -/
def sortZ (zs : List Int) : List Int := zs.mergeSort fun x y => decide (x ≤ y)

theorem sortZ_perm (zs : List Int) : (sortZ zs).Perm zs := List.mergeSort_perm zs _
theorem sortZ_le (zs : List Int) : (sortZ zs).Pairwise (· ≤ ·) := by
  have h := List.pairwise_mergeSort (le := fun x y : Int => decide (x ≤ y)) (fun a b c h1 h2 => by simp at *; omega) (fun a b => by simp; omega) zs
  exact h.imp (fun h => by simpa using h)

theorem le_ext : ∀ (xs ys : List Int), xs.Perm ys → xs.Pairwise (· ≤ ·) → ys.Pairwise (· ≤ ·) → xs = ys
  | [], ys, h, _, _ => by rw [List.nil_perm.1 h]
  | x :: xs, [], h, _, _ => by cases List.perm_nil.1 h
  | x :: xs, y :: ys, h, h1, h2 => by
    have hx := List.pairwise_cons.1 h1
    have hy := List.pairwise_cons.1 h2
    have e : x = y := by
      have m1 : x ∈ y :: ys := h.mem_iff.1 (by simp)
      have m2 : y ∈ x :: xs := h.mem_iff.2 (by simp)
      rcases List.mem_cons.1 m1 with e | m1
      · exact e
      · rcases List.mem_cons.1 m2 with e | m2
        · exact e.symm
        · have := hy.1 x m1; have := hx.1 y m2; omega
    subst e
    rw [le_ext xs ys (List.perm_cons x |>.1 h) hx.2 hy.2]

theorem sortZ_of {zs ys : List Int} (hp : ys.Perm zs) (h : ys.Pairwise (· ≤ ·)) : ys = sortZ zs := le_ext _ _ (hp.trans (sortZ_perm zs).symm) h (sortZ_le zs)
theorem sortZ_length (zs : List Int) : (sortZ zs).length = zs.length := (sortZ_perm zs).length_eq
theorem ins_perm {S T : List Int} {x : Int} {k : Nat} (h : S.Perm T) : (S.take k ++ x :: S.drop k).Perm (T ++ [x]) := by
  refine (List.perm_middle.trans ?_).trans (List.perm_append_singleton x T).symm
  rw [List.take_append_drop]
  exact h.cons x

theorem ins_le {S : List Int} {x : Int} {k : Nat} (hS : S.Pairwise (· ≤ ·)) (h1 : ∀ y ∈ S.drop k, x < y) (h2 : ∀ j, k = j + 1 → S[j]?.getD 0 ≤ x) (hk : k ≤ S.length) : (S.take k ++ x :: S.drop k).Pairwise (· ≤ ·) := by
  have hsplit : (S.take k ++ S.drop k).Pairwise (· ≤ ·) := by rw [List.take_append_drop]; exact hS
  obtain ⟨p1, p2, p3⟩ := List.pairwise_append.1 hsplit
  have hle : ∀ y ∈ S.take k, y ≤ x := by
    intro y hy
    cases k with
    | zero => simp at hy
    | succ j =>
      have h3 := h2 j rfl
      obtain ⟨i, hi, rfl⟩ := List.getElem_of_mem hy
      rw [List.length_take] at hi
      have hij : i ≤ j := by omega
      rw [List.getElem_take]
      rw [List.getElem?_eq_getElem (by omega), Option.getD_some] at h3
      rcases Nat.lt_or_eq_of_le hij with h | rfl
      · have := List.pairwise_iff_getElem.1 hS i j (by omega) (by omega) h; omega
      · exact h3
  refine List.pairwise_append.2 ⟨p1, List.pairwise_cons.2 ⟨fun y hy => by have := h1 y hy; omega, p2⟩, fun y hy z hz => ?_⟩
  rcases List.mem_cons.1 hz with rfl | hz
  · exact hle y hy
  · exact p3 y hy z hz

theorem rowZ_at (S R : List Int) (g : Int) (k : Nat) (hk : k ≤ S.length) : (S.take k ++ g :: S.drop k ++ R)[k]? = some g := by
  have hl : (S.take k).length = k := by rw [List.length_take]; omega
  rw [List.append_assoc, List.getElem?_append_right (by omega), hl, Nat.sub_self]
  simp

theorem rowZ_below (S R : List Int) (g : Int) (k j : Nat) (hk : k ≤ S.length) (hj : j < k) : (S.take k ++ g :: S.drop k ++ R)[j]? = some (S[j]?.getD 0) := by
  have hl : (S.take k).length = k := by rw [List.length_take]; omega
  rw [List.append_assoc, List.getElem?_append_left (by omega), List.getElem?_take_of_lt hj, List.getElem?_eq_getElem (by omega)]
  simp

theorem rowZ_set (S R : List Int) (g y : Int) (k : Nat) (hk : k ≤ S.length) : (S.take k ++ g :: S.drop k ++ R).set k y = S.take k ++ y :: S.drop k ++ R := by
  have hl : (S.take k).length = k := by rw [List.length_take]; omega
  rw [List.append_assoc, List.set_append_right _ _ (by omega), hl, Nat.sub_self, List.append_assoc]
  rfl

theorem rowZ_down (S R : List Int) (k : Nat) (hk : k < S.length) : S.take (k + 1) ++ (S[k]?.getD 0) :: S.drop (k + 1) ++ R = S.take k ++ (S[k]?.getD 0) :: S.drop k ++ R := by
  have e : S[k]?.getD 0 = S[k] := by simp [hk]
  have h1 : S.take (k + 1) = S.take k ++ [S[k]] := List.take_succ_eq_append_getElem hk
  have h2 : S.drop k = S[k] :: S.drop (k + 1) := List.drop_eq_getElem_cons hk
  rw [e, h1, h2]
  simp only [List.append_assoc, List.cons_append, List.nil_append]

set_option maxRecDepth 100000 in
set_option maxHeartbeats 3200000 in
theorem sorted_any (a : Option Addr) (c : Nat) (zs : List Int) (w : World) (ha : Ints w w.heap.size a zs) (hx : zs.length ≤ 1048576) :
    Calls Try.prog 18 #[.slice a zs.length c] w (RetInts w (sortZ zs)) := by
  obtain ⟨a', c', w1, hrun, ho1, hg1⟩ := app_run0n (B := w.heap.size) (own_empty (alloc_new w (.cells #[] 3)) (Nat.le_refl _)) (by simp) a c zs rfl ((ha.below (below1 w _)).mono (by simp)) hx
  obtain ⟨Z, hZ⟩ : ∃ Z, Z = zs.length := ⟨_, rfl⟩
  have HZ := Lib.hid hZ
  rw [← hZ] at hrun ho1 hx ⊢
  have HO : Hid (OwnN w1 w.heap.size a' Z c' zs) := Lib.hid ho1
  have HB : Hid (Below w.heap.size w w1) := Lib.hid ((below1 w _).trans ((Below.refl _ _).grown hg1 (by simp) (fun g e => by simp [Value.ownBlock] at e; omega)))
  clear ha ho1 hg1 hZ
  go_enter Try.func18, Try.ntmps18
  have HRUN := Lib.hid hrun
  clear hrun
  go_wp2_with (at_builtin; refine Lib.wpList_append_run _ rfl _ _ 23 23 rfl _ _ rfl rfl _ _ HRUN.out ?_)
  go_loopw [4] (fun i wr => ∃ (j : Nat) (S : List Int), 1 ≤ j ∧ i = .int .i64 (j : Int) ∧ S.Perm (zs.take j) ∧ S.Pairwise (· ≤ ·) ∧ OwnN wr w.heap.size a' Z c' (S ++ zs.drop j) ∧ Below w.heap.size w wr) (fun i _ => Z - (intOf i).toNat)
  case atStart => exact ⟨1, zs.take 1, Nat.le_refl _, rfl, List.Perm.refl _, by cases zs <;> simp, by rw [List.take_append_drop]; exact HO.out, HB.out⟩
  case round =>
    obtain ⟨j, S, hj, rfl, hS, hle, ho, hB⟩ := hrel
    obtain ⟨wo, hwo⟩ : ∃ wo, wo = wr := ⟨wr, rfl⟩
    subst hwo
    have HS := Lib.hid hS
    have HLE := Lib.hid hle
    by_cases hlt : j < Z
    · have hSl : S.length = j := by have := hS.length_eq; rw [List.length_take] at this; rw [this]; have := HZ.out; omega
      obtain ⟨g, rfl, -, -⟩ := ho.addr (by omega)
      obtain ⟨x, hxx⟩ : ∃ x, x = zs[j]?.getD 0 := ⟨_, rfl⟩
      have hcj : wo.cell? ⟨g, j, none⟩ = some (.int .i64 x) := by
        rw [ho.cell (by omega), List.getElem?_append_right (by omega), hSl, Nat.sub_self, hxx]
        simp
      have hdrop : zs.drop j = x :: zs.drop (j + 1) := by
        have h1 : j < zs.length := by have := HZ.out; omega
        rw [List.drop_eq_getElem_cons h1, hxx]; simp [h1]
      have HX := Lib.hid hxx
      have HSL := Lib.hid hSl
      have HO2 : Hid (OwnN wo w.heap.size (some ⟨g, 0, none⟩) Z c' (S.take j ++ x :: S.drop j ++ zs.drop (j + 1))) := Lib.hid (by
        rw [hdrop] at ho
        rw [List.take_of_length_le (by omega), List.drop_eq_nil_of_le (by omega), List.append_assoc]
        exact ho)
      have HB2 := Lib.hid hB
      have hjZ : j ≤ Z := by omega
      clear hS hle ho hB hxx hSl hdrop
      go_wp2
      go_loopw [6] (fun q wr => ∃ (k : Nat) (y : Int), k ≤ j ∧ q = .int .i64 (k : Int) ∧ (∀ z ∈ S.drop k, x < z) ∧ OwnN wr w.heap.size (some ⟨g, 0, none⟩) Z c' (S.take k ++ y :: S.drop k ++ zs.drop (j + 1)) ∧ Below w.heap.size w wr) (fun q _ => (intOf q).toNat)
      case atStart => exact ⟨j, x, Nat.le_refl _, rfl, by rw [List.drop_eq_nil_of_le (by rw [HSL.out]; exact Nat.le_refl _)]; simp, HO2.out, HB2.out⟩
      case round =>
        obtain ⟨k, y, hk, rfl, hgt, ho, hB⟩ := hrel
        have HG := Lib.hid hgt
        have HBw := Lib.hid hB
        have hfin : ∀ (hst : ∀ i, k = i + 1 → S[i]?.getD 0 ≤ x) (wx : World), OwnN wx w.heap.size (some ⟨g, 0, none⟩) Z c' (S.take k ++ x :: S.drop k ++ zs.drop (j + 1)) → Below w.heap.size w wx →
            ∃ (j' : Nat) (S' : List Int), 1 ≤ j' ∧ Value.int .i64 ((j : Int) + 1) = .int .i64 (j' : Int) ∧ S'.Perm (zs.take j') ∧ S'.Pairwise (· ≤ ·) ∧ OwnN wx w.heap.size (some ⟨g, 0, none⟩) Z c' (S' ++ zs.drop j') ∧ Below w.heap.size w wx := fun hst wx hox hbx =>
          ⟨j + 1, S.take k ++ x :: S.drop k, by omega, by simp, by
            have h1 : j < zs.length := by have := HZ.out; omega
            rw [List.take_succ_eq_append_getElem h1, show zs[j] = x from by rw [HX.out]; simp [h1]]
            exact ins_perm HS.out, ins_le HLE.out HG.out hst (by rw [HSL.out]; exact hk), hox, hbx⟩
        have HF := Lib.hid hfin
        have hck := ho.cell (j := k) (by omega)
        rw [rowZ_at _ _ _ _ (by rw [HSL.out]; exact hk), Option.getD_some] at hck
        have hfz := World.ownsRow.frozenAt ho k
        have HST := Lib.hid (fun v => (World.ownsRow.stored ho k (.int .i64 v)).1)
        have HOW := Lib.hid ho
        cases k with
        | zero =>
          clear hgt hB hfin ho
          go_wp2
          go_roundw
          case rel => exact HF.out (fun i hi => by omega) _ (by have h1 := HST.out x; rw [← List.map_set, rowZ_set _ _ _ _ _ (by omega)] at h1; exact h1) (HBw.out.setCell (p := ⟨g, 0, none⟩) (by have := HOW.out.addr (by omega); obtain ⟨g', e, h, -⟩ := this; injection e with e; injection e with e; subst e; exact h) _)
          case measure => simp [intOf]; omega
        | succ k =>
          have hc1 := ho.cell (j := k) (by omega)
          rw [rowZ_below _ _ _ _ _ (by rw [HSL.out]; exact hk) (by omega), Option.getD_some] at hc1
          have hgB : w.heap.size ≤ g := by obtain ⟨g', e, h, -⟩ := ho.addr (by omega); injection e with e; injection e with e; subst e; exact h
          obtain ⟨u, hu⟩ : ∃ u, u = S[k]?.getD 0 := ⟨_, rfl⟩
          rw [← hu] at hc1
          have HU := Lib.hid hu
          have hk1 : (0 : Int) < (k : Int) + 1 := by omega
          clear hgt hB hfin ho hu
          by_cases hxu : x < u
          · go_wp2
            go_roundw
            case rel => exact ⟨k, u, by omega, by simp, by
              intro z hz
              have hkS : k < S.length := by rw [HSL.out]; omega
              rw [List.drop_eq_getElem_cons hkS] at hz
              rcases List.mem_cons.1 hz with rfl | hz
              · have h2 := HU.out; simp [hkS] at h2; rw [← h2]; exact hxu
              · exact HG.out z hz, by
              have h1 := HST.out u
              rw [← List.map_set, rowZ_set _ _ _ _ _ (by rw [HSL.out]; exact hk), HU.out, rowZ_down _ _ _ (by rw [HSL.out]; omega)] at h1
              rw [HU.out]
              exact h1, HBw.out.setCell (p := ⟨g, k + 1, none⟩) hgB _⟩
            case measure => simp [intOf]
          · go_wp2
            go_roundw
            case rel => exact HF.out (fun i hi => by obtain rfl : i = k := by omega
                                                     rw [← HU.out]; omega) _ (by have h1 := HST.out x; rw [← List.map_set, rowZ_set _ _ _ _ _ (by rw [HSL.out]; exact hk)] at h1; exact h1) (HBw.out.setCell (p := ⟨g, k + 1, none⟩) hgB _)
            case measure => simp [intOf]; omega
    · have hSZ : S = sortZ zs := sortZ_of (by have := hS; rwa [List.take_of_length_le (by have := HZ.out; omega)] at this) hle
      have HR : Hid (RetInts w (sortZ zs) (.returned (.slice a' Z c')) wo) := Lib.hid (by
        refine ⟨a', c', by rw [sortZ_length, ← HZ.out], ?_, hB⟩
        rw [List.drop_eq_nil_of_le (by have := HZ.out; omega), List.append_nil, hSZ] at ho
        unfold OwnI
        rw [sortZ_length, ← HZ.out]
        exact ho)
      clear hS hle ho hB
      go_wp2
      go_ret
      exact HR.out

end Go.Proofs.Ytgaappbcekllhaa

/- It is proved that both sides count the members of a set alike; conditions: those of each statement. -/
namespace Go.Proofs.Ytgaappbcekllhaa
open Go.RowKit
/-- How many members a set has. -/
def popN : Nat → Int → Int
  | 0, _ => 0
  | f + 1, z => if 0 < z then bits .and .i64 z 1 + popN f (z / 2) else 0

def pop (z : Int) : Int := popN 7 z
theorem ret_int {a b : Int} (h : a = b) : Ending.returned (.int .i64 a) = .returned (.int .i64 b) := by rw [h]
set_option maxRecDepth 100000 in
theorem size_any (z : Int) (w : World) (h0 : 0 ≤ z) (h : z ≤ 63) : Calls Try.prog 34 #[.int .i64 z] w fun e w' => e = .returned (.int .i64 (pop z)) ∧ w = w' := by
  go_enter Try.func34, Try.ntmps34
  go_wp2
  go_ret
  refine ⟨ret_int ?_, rfl⟩
  obtain ⟨i, rfl⟩ : ∃ i : Fin 64, z = (i.val : Int) := ⟨⟨z.toNat, by omega⟩, by simp; omega⟩
  clear h0 h
  revert i
  decide +kernel

set_option maxRecDepth 100000 in
theorem size_some (z : Int) : ∃ r : Int, ∀ W : World, Calls Try.prog 34 #[.int .i64 z] W fun e W' => e = .returned (.int .i64 r) ∧ W = W' := by
  apply Exists.intro
  intro W
  go_enter Try.func34, Try.ntmps34
  go_wp2
  go_ret
  exact ⟨rfl, rfl⟩

/-- What club.size returns at each number. -/
theorem size_fn : ∃ g : Int → Int, (∀ z W, Calls Try.prog 34 #[.int .i64 z] W fun e W' => e = .returned (.int .i64 (g z)) ∧ Below W.heap.size W W') ∧ ∀ z, 0 ≤ z → z ≤ 63 → g z = pop z := by
  have h : ∀ z : Int, ∃ r : Int, (∀ W : World, Calls Try.prog 34 #[.int .i64 z] W fun e W' => e = .returned (.int .i64 r) ∧ W = W') ∧ (0 ≤ z → z ≤ 63 → r = pop z) := fun z => by
    by_cases hz : 0 ≤ z ∧ z ≤ 63
    · exact ⟨pop z, fun W => size_any z W hz.1 hz.2, fun _ _ => rfl⟩
    · obtain ⟨r, hr⟩ := size_some z
      exact ⟨r, hr, fun a b => absurd ⟨a, b⟩ hz⟩
  refine ⟨fun z => Classical.choose (h z), fun z W => ((Classical.choose_spec (h z)).1 W).mono fun e W' ⟨he, hw⟩ => ⟨he, by rw [← hw]; exact Below.refl _ _⟩, fun z => (Classical.choose_spec (h z)).2⟩

end Go.Proofs.Ytgaappbcekllhaa

/- It is proved what the FamilySizes of the model returns; conditions: those of each statement. -/
namespace Go.Proofs.Ytgaappbcekllhaa
open Go.RowKit

/-- What a function of a list of ints and a bool returns: both, in new memory; nothing that lay has turned. -/
def RetSB (w : World) (zs : List Int) (ok : Bool) (e : Ending) (w' : World) : Prop :=
  ∃ a cap, e = .returned (.tuple #[.slice a zs.length cap, .bool ok]) ∧ OwnI w' w.heap.size (.slice a zs.length cap) zs ∧ Below w.heap.size w w'

theorem fullI_63 {m : Int} (h1 : 1 ≤ m) (h2 : m ≤ 6) : fullI m ≤ 63 := by
  rcases m16 h1 h2 with rfl | rfl | rfl | rfl | rfl | rfl <;> decide

def sizesZ (m : Int) (zs : List Int) : List Int := if famIn m zs then zs.map pop else []
end Go.Proofs.Ytgaappbcekllhaa

/- It is proved that the sizes of a set and of its others are all members; conditions: those of each statement. -/
namespace Go.Proofs.Ytgaappbcekllhaa
open Go.RowKit

set_option maxRecDepth 100000 in
theorem other_in_fin : ∀ k : Fin 6, ∀ z : Fin 64, (z.val : Int) ≤ fullI ((k.val : Int) + 1) → 0 ≤ bits .andNot .i64 (fullI ((k.val : Int) + 1)) (z.val : Int) ∧ bits .andNot .i64 (fullI ((k.val : Int) + 1)) (z.val : Int) ≤ fullI ((k.val : Int) + 1) := by decide +kernel

theorem other_in {m z : Int} (h1 : 1 ≤ m) (h2 : m ≤ 6) (h3 : 0 ≤ z) (h4 : z ≤ fullI m) : 0 ≤ bits .andNot .i64 (fullI m) z ∧ bits .andNot .i64 (fullI m) z ≤ fullI m := by
  have h5 := fullI_63 h1 h2
  have := other_in_fin ⟨(m - 1).toNat, by omega⟩ ⟨z.toNat, by omega⟩
  simp only [Int.toNat_of_nonneg (show 0 ≤ m - 1 by omega), Int.toNat_of_nonneg h3, show m - 1 + 1 = m by omega] at this
  exact this h4

theorem other_fam {m : Int} {zs : List Int} (h : famIn m zs = true) : famIn m (zs.map fun z => bits .andNot .i64 (fullI m) z) = true := by
  obtain ⟨h1, h2, h3, h4⟩ := famIn_out h
  simp only [famIn, Bool.and_eq_true, decide_eq_true_eq, List.all_eq_true, List.mem_map, List.length_map]
  refine ⟨inB_true h1 h2, h3, ?_⟩
  rintro _ ⟨z, hz, rfl⟩
  obtain ⟨h5, h6⟩ := other_in h1 h2 (h4 z hz).1 (h4 z hz).2
  exact inB_true h5 h6

end Go.Proofs.Ytgaappbcekllhaa
