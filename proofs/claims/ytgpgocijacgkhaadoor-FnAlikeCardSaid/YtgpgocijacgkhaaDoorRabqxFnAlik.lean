/- It is proved that the laws' sorted returns the sorted list, in new memory; conditions: those of each statement. -/
import Derived.Test.YtgpgocijacgkhaaDoorRows
import Derived.WalkKit
import Derived.WalkSpells
import Derived.ProofKit
import Derived.OpenShut
import Derived.ShutString
import Derived.ChangeOld
import Derived.Below
import Derived.Deep.RegionHeld3
import Derived.Deep.QuietTactic
import Derived.BigQuiet
import Derived.Lib.Hide
import Derived.Lib.SmallJoins
import Derived.Outline
import Derived.Laws.MakeOwn
import Derived.Laws.OwnMore
import Derived.IntWalk
import Derived.Deep.RegionLaw
import Derived.Deep.AppendLies
import Derived.Lib.AppendZeros
import Derived.Maps.AppendAt
import Derived.OwnWalk
import Derived.RangeFuncNested
import Derived.RangeFuncBound
import Derived.RangeFuncCalls
import Derived.RangeFuncLeaves
import Derived.RangeFuncBox
import Derived.Shelf.Abstract
import Derived.Shelf.RegionOpen
import Derived.OwnWalkIn
import Derived.TacticsInMore
import Derived.LoopNIn
import Derived.LoopIn
import Derived.Shelf.Spec.TrailingZeros
import Derived.Test.YtgpgocijacgkhaaDoorRaaa
import Derived.Test.YtgpgocijacgkhaaDoorRaab
import Derived.Test.YtgpgocijacgkhaaDoorRaah
import Derived.Test.YtgpgocijacgkhaaDoorRabgxFnAlik
import Derived.Test.YtgpgocijacgkhaaDoorRaac
import Derived.StillTail
import Derived.StillTactics
import Derived.OrdersIn
import Derived.TacticsIn
import Derived.StillTailTactics
import Derived.Test.YtgpgocijacgkhaaDoorRaai
import Derived.Test.YtgpgocijacgkhaaDoorRabdxFnAlik
import Derived.Test.YtgpgocijacgkhaaDoorRabexFnAlik
import Derived.Test.YtgpgocijacgkhaaDoorRaan
import Derived.Test.YtgpgocijacgkhaaDoorRaay
import Derived.Test.YtgpgocijacgkhaaDoorTb
import Derived.Test.YtgpgocijacgkhaaDoorRaaz
namespace Go.Proofs.YtgpgocijacgkhaaDoor
open Go.RowKit

/-- A list in order. -/
def sortZ (zs : List Int) : List Int := zs.mergeSort fun x y => decide (x ≤ y)

theorem sortZ_perm (zs : List Int) : (sortZ zs).Perm zs := List.mergeSort_perm zs _
theorem sortZ_le (zs : List Int) : (sortZ zs).Pairwise (· ≤ ·) := by
  have h := List.pairwise_mergeSort (le := fun x y : Int => decide (x ≤ y)) (fun a b c h1 h2 => by simp at *; omega) (fun a b => by simp; omega) zs
  exact h.imp (fun h => by simpa using h)

theorem le_ext : ∀ (xs ys : List Int), xs.Perm ys → xs.Pairwise (· ≤ ·) → ys.Pairwise (· ≤ ·) → xs = ys
  | [], ys, h, _, _ => by rw [List.nil_perm.1 h]
  | x :: xs, [], h, _, _ => by cases List.perm_nil.1 h
  | x :: xs, y :: ys, h, h1, h2 => by
    have hx := List.pairwise_cons.1 h1
    have hy := List.pairwise_cons.1 h2
    have e : x = y := by
      have m1 : x ∈ y :: ys := h.mem_iff.1 (by simp)
      have m2 : y ∈ x :: xs := h.mem_iff.2 (by simp)
      rcases List.mem_cons.1 m1 with e | m1
      · exact e
      · rcases List.mem_cons.1 m2 with e | m2
        · exact e.symm
        · have := hy.1 x m1; have := hx.1 y m2; omega
    subst e
    rw [le_ext xs ys (List.perm_cons x |>.1 h) hx.2 hy.2]

theorem sortZ_of {zs ys : List Int} (hp : ys.Perm zs) (h : ys.Pairwise (· ≤ ·)) : ys = sortZ zs := le_ext _ _ (hp.trans (sortZ_perm zs).symm) h (sortZ_le zs)
theorem sortZ_length (zs : List Int) : (sortZ zs).length = zs.length := (sortZ_perm zs).length_eq
theorem sortZ_congr {xs ys : List Int} (h : xs.Perm ys) : sortZ xs = sortZ ys := sortZ_of ((sortZ_perm xs).trans h) (sortZ_le xs)
theorem ins_perm {S T : List Int} {x : Int} {k : Nat} (h : S.Perm T) : (S.take k ++ x :: S.drop k).Perm (T ++ [x]) := by
  refine (List.perm_middle.trans ?_).trans (List.perm_append_singleton x T).symm
  rw [List.take_append_drop]
  exact h.cons x

theorem ins_le {S : List Int} {x : Int} {k : Nat} (hS : S.Pairwise (· ≤ ·)) (h1 : ∀ y ∈ S.drop k, x < y) (h2 : ∀ j, k = j + 1 → S[j]?.getD 0 ≤ x) (hk : k ≤ S.length) : (S.take k ++ x :: S.drop k).Pairwise (· ≤ ·) := by
  have hsplit : (S.take k ++ S.drop k).Pairwise (· ≤ ·) := by rw [List.take_append_drop]; exact hS
  obtain ⟨p1, p2, p3⟩ := List.pairwise_append.1 hsplit
  have hle : ∀ y ∈ S.take k, y ≤ x := by
    intro y hy
    cases k with
    | zero => simp at hy
    | succ j =>
      have h3 := h2 j rfl
      obtain ⟨i, hi, rfl⟩ := List.getElem_of_mem hy
      rw [List.length_take] at hi
      have hij : i ≤ j := by omega
      rw [List.getElem_take]
      rw [List.getElem?_eq_getElem (by omega), Option.getD_some] at h3
      rcases Nat.lt_or_eq_of_le hij with h | rfl
      · have := List.pairwise_iff_getElem.1 hS i j (by omega) (by omega) h; omega
      · exact h3
  refine List.pairwise_append.2 ⟨p1, List.pairwise_cons.2 ⟨fun y hy => by have := h1 y hy; omega, p2⟩, fun y hy z hz => ?_⟩
  rcases List.mem_cons.1 hz with rfl | hz
  · exact hle y hy
  · exact p3 y hy z hz

theorem rowZ_at (S R : List Int) (g : Int) (k : Nat) (hk : k ≤ S.length) : (S.take k ++ g :: S.drop k ++ R)[k]? = some g := by
  have hl : (S.take k).length = k := by rw [List.length_take]; omega
  rw [List.append_assoc, List.getElem?_append_right (by omega), hl, Nat.sub_self]
  simp

theorem rowZ_below (S R : List Int) (g : Int) (k j : Nat) (hk : k ≤ S.length) (hj : j < k) : (S.take k ++ g :: S.drop k ++ R)[j]? = some (S[j]?.getD 0) := by
  have hl : (S.take k).length = k := by rw [List.length_take]; omega
  rw [List.append_assoc, List.getElem?_append_left (by omega), List.getElem?_take_of_lt hj, List.getElem?_eq_getElem (by omega)]
  simp

theorem rowZ_set (S R : List Int) (g y : Int) (k : Nat) (hk : k ≤ S.length) : (S.take k ++ g :: S.drop k ++ R).set k y = S.take k ++ y :: S.drop k ++ R := by
  have hl : (S.take k).length = k := by rw [List.length_take]; omega
  rw [List.append_assoc, List.set_append_right _ _ (by omega), hl, Nat.sub_self, List.append_assoc]
  rfl

theorem rowZ_down (S R : List Int) (k : Nat) (hk : k < S.length) : S.take (k + 1) ++ (S[k]?.getD 0) :: S.drop (k + 1) ++ R = S.take k ++ (S[k]?.getD 0) :: S.drop k ++ R := by
  have e : S[k]?.getD 0 = S[k] := by simp [hk]
  have h1 : S.take (k + 1) = S.take k ++ [S[k]] := List.take_succ_eq_append_getElem hk
  have h2 : S.drop k = S[k] :: S.drop (k + 1) := List.drop_eq_getElem_cons hk
  rw [e, h1, h2]
  simp only [List.append_assoc, List.cons_append, List.nil_append]

set_option maxRecDepth 100000 in
set_option maxHeartbeats 3200000 in
theorem sorted_any (a : Option Addr) (c : Nat) (zs : List Int) (w : World) (ha : Ints w w.heap.size a zs) (hx : zs.length ≤ 1048576) :
    Calls Tryd.prog 31 #[.slice a zs.length c] w (RetInts w (sortZ zs)) := by
  obtain ⟨a', c', w1, hrun, ho1, hg1⟩ := app_run0n (B := w.heap.size) (own_empty (alloc_new w (.cells #[] 3)) (Nat.le_refl _)) (by simp) a c zs rfl ((ha.below (below1 w _)).mono (by simp)) hx
  obtain ⟨Z, hZ⟩ : ∃ Z, Z = zs.length := ⟨_, rfl⟩
  have HZ := Lib.hid hZ
  rw [← hZ] at hrun ho1 hx ⊢
  have HO : Hid (OwnN w1 w.heap.size a' Z c' zs) := Lib.hid ho1
  have HB : Hid (Below w.heap.size w w1) := Lib.hid ((below1 w _).trans ((Below.refl _ _).grown hg1 (by simp) (fun g e => by simp [Value.ownBlock] at e; omega)))
  clear ha ho1 hg1 hZ
  go_enter Tryd.func31, Tryd.ntmps31
  have HRUN := Lib.hid hrun
  clear hrun
  go_wp2_with (at_builtin; refine Lib.wpList_append_run _ rfl _ _ 23 23 rfl _ _ rfl rfl _ _ HRUN.out ?_)
  go_loopw [4] (fun i wr => ∃ (j : Nat) (S : List Int), 1 ≤ j ∧ i = .int .i64 (j : Int) ∧ S.Perm (zs.take j) ∧ S.Pairwise (· ≤ ·) ∧ OwnN wr w.heap.size a' Z c' (S ++ zs.drop j) ∧ Below w.heap.size w wr) (fun i _ => Z - (intOf i).toNat)
  case atStart => exact ⟨1, zs.take 1, Nat.le_refl _, rfl, List.Perm.refl _, by cases zs <;> simp, by rw [List.take_append_drop]; exact HO.out, HB.out⟩
  case round =>
    obtain ⟨j, S, hj, rfl, hS, hle, ho, hB⟩ := hrel
    obtain ⟨wo, hwo⟩ : ∃ wo, wo = wr := ⟨wr, rfl⟩
    subst hwo
    have HS := Lib.hid hS
    have HLE := Lib.hid hle
    by_cases hlt : j < Z
    · have hSl : S.length = j := by have := hS.length_eq; rw [List.length_take] at this; rw [this]; have := HZ.out; omega
      obtain ⟨g, rfl, -, -⟩ := ho.addr (by omega)
      obtain ⟨x, hxx⟩ : ∃ x, x = zs[j]?.getD 0 := ⟨_, rfl⟩
      have hcj : wo.cell? ⟨g, j, none⟩ = some (.int .i64 x) := by
        rw [ho.cell (by omega), List.getElem?_append_right (by omega), hSl, Nat.sub_self, hxx]
        simp
      have hdrop : zs.drop j = x :: zs.drop (j + 1) := by
        have h1 : j < zs.length := by have := HZ.out; omega
        rw [List.drop_eq_getElem_cons h1, hxx]; simp [h1]
      have HX := Lib.hid hxx
      have HSL := Lib.hid hSl
      have HO2 : Hid (OwnN wo w.heap.size (some ⟨g, 0, none⟩) Z c' (S.take j ++ x :: S.drop j ++ zs.drop (j + 1))) := Lib.hid (by
        rw [hdrop] at ho
        rw [List.take_of_length_le (by omega), List.drop_eq_nil_of_le (by omega), List.append_assoc]
        exact ho)
      have HB2 := Lib.hid hB
      have hjZ : j ≤ Z := by omega
      clear hS hle ho hB hxx hSl hdrop
      go_wp2
      go_loopw [6] (fun q wr => ∃ (k : Nat) (y : Int), k ≤ j ∧ q = .int .i64 (k : Int) ∧ (∀ z ∈ S.drop k, x < z) ∧ OwnN wr w.heap.size (some ⟨g, 0, none⟩) Z c' (S.take k ++ y :: S.drop k ++ zs.drop (j + 1)) ∧ Below w.heap.size w wr) (fun q _ => (intOf q).toNat)
      case atStart => exact ⟨j, x, Nat.le_refl _, rfl, by rw [List.drop_eq_nil_of_le (by rw [HSL.out]; exact Nat.le_refl _)]; simp, HO2.out, HB2.out⟩
      case round =>
        obtain ⟨k, y, hk, rfl, hgt, ho, hB⟩ := hrel
        have HG := Lib.hid hgt
        have HBw := Lib.hid hB
        have hfin : ∀ (hst : ∀ i, k = i + 1 → S[i]?.getD 0 ≤ x) (wx : World), OwnN wx w.heap.size (some ⟨g, 0, none⟩) Z c' (S.take k ++ x :: S.drop k ++ zs.drop (j + 1)) → Below w.heap.size w wx →
            ∃ (j' : Nat) (S' : List Int), 1 ≤ j' ∧ Value.int .i64 ((j : Int) + 1) = .int .i64 (j' : Int) ∧ S'.Perm (zs.take j') ∧ S'.Pairwise (· ≤ ·) ∧ OwnN wx w.heap.size (some ⟨g, 0, none⟩) Z c' (S' ++ zs.drop j') ∧ Below w.heap.size w wx := fun hst wx hox hbx =>
          ⟨j + 1, S.take k ++ x :: S.drop k, by omega, by simp, by
            have h1 : j < zs.length := by have := HZ.out; omega
            rw [List.take_succ_eq_append_getElem h1, show zs[j] = x from by rw [HX.out]; simp [h1]]
            exact ins_perm HS.out, ins_le HLE.out HG.out hst (by rw [HSL.out]; exact hk), hox, hbx⟩
        have HF := Lib.hid hfin
        have hck := ho.cell (j := k) (by omega)
        rw [rowZ_at _ _ _ _ (by rw [HSL.out]; exact hk), Option.getD_some] at hck
        have hfz := World.ownsRow.frozenAt ho k
        have HST := Lib.hid (fun v => (World.ownsRow.stored ho k (.int .i64 v)).1)
        have HOW := Lib.hid ho
        cases k with
        | zero =>
          clear hgt hB hfin ho
          go_wp2
          go_roundw
          case rel => exact HF.out (fun i hi => by omega) _ (by have h1 := HST.out x; rw [← List.map_set, rowZ_set _ _ _ _ _ (by omega)] at h1; exact h1) (HBw.out.setCell (p := ⟨g, 0, none⟩) (by have := HOW.out.addr (by omega); obtain ⟨g', e, h, -⟩ := this; injection e with e; injection e with e; subst e; exact h) _)
          case measure => simp [intOf]; omega
        | succ k =>
          have hc1 := ho.cell (j := k) (by omega)
          rw [rowZ_below _ _ _ _ _ (by rw [HSL.out]; exact hk) (by omega), Option.getD_some] at hc1
          have hgB : w.heap.size ≤ g := by obtain ⟨g', e, h, -⟩ := ho.addr (by omega); injection e with e; injection e with e; subst e; exact h
          obtain ⟨u, hu⟩ : ∃ u, u = S[k]?.getD 0 := ⟨_, rfl⟩
          rw [← hu] at hc1
          have HU := Lib.hid hu
          have hk1 : (0 : Int) < (k : Int) + 1 := by omega
          clear hgt hB hfin ho hu
          by_cases hxu : x < u
          · go_wp2
            go_roundw
            case rel => exact ⟨k, u, by omega, by simp, by
              intro z hz
              have hkS : k < S.length := by rw [HSL.out]; omega
              rw [List.drop_eq_getElem_cons hkS] at hz
              rcases List.mem_cons.1 hz with rfl | hz
              · have h2 := HU.out; simp [hkS] at h2; rw [← h2]; exact hxu
              · exact HG.out z hz, by
              have h1 := HST.out u
              rw [← List.map_set, rowZ_set _ _ _ _ _ (by rw [HSL.out]; exact hk), HU.out, rowZ_down _ _ _ (by rw [HSL.out]; omega)] at h1
              rw [HU.out]
              exact h1, HBw.out.setCell (p := ⟨g, k + 1, none⟩) hgB _⟩
            case measure => simp [intOf]
          · go_wp2
            go_roundw
            case rel => exact HF.out (fun i hi => by obtain rfl : i = k := by omega
                                                     rw [← HU.out]; omega) _ (by have h1 := HST.out x; rw [← List.map_set, rowZ_set _ _ _ _ _ (by rw [HSL.out]; exact hk)] at h1; exact h1) (HBw.out.setCell (p := ⟨g, k + 1, none⟩) hgB _)
            case measure => simp [intOf]; omega
    · have hSZ : S = sortZ zs := sortZ_of (by have := hS; rwa [List.take_of_length_le (by have := HZ.out; omega)] at this) hle
      have HR : Hid (RetInts w (sortZ zs) (.returned (.slice a' Z c')) wo) := Lib.hid (by
        refine ⟨a', c', by rw [sortZ_length, ← HZ.out], ?_, hB⟩
        rw [List.drop_eq_nil_of_le (by have := HZ.out; omega), List.append_nil, hSZ] at ho
        unfold OwnI
        rw [sortZ_length, ← HZ.out]
        exact ho)
      clear hS hle ho hB
      go_wp2
      go_ret
      exact HR.out

end Go.Proofs.YtgpgocijacgkhaaDoor

/- It is proved what FamilyNamed of the model returns; conditions: those of each statement. -/
namespace Go.Proofs.YtgpgocijacgkhaaDoor
open Go.RowKit

def namIn (m : Int) (zs ps : List Int) : Bool := famIn m zs && namesB m.toNat ps
def namM (m : Int) (zs ps : List Int) : Int := if namIn m zs ps then m else 0
def namZ (m : Int) (zs ps : List Int) : List Int := if namIn m zs ps then zs.map (callZ ps) else []
theorem namZ_len (m : Int) (zs ps : List Int) (h : zs.length ≤ 1048576) : (namZ m zs ps).length ≤ 1048576 := by
  unfold namZ; split <;> simp; exact h

set_option maxRecDepth 100000 in
set_option maxHeartbeats 2000000 in
theorem specNamed_no1 (m : Int) (a b : Option Addr) (c d : Nat) (zs ps : List Int) (w : World) (ha : Ints w w.heap.size a zs) (hb : Ints w w.heap.size b ps) (hx : zs.length ≤ 1048576) (hy : ps.length ≤ 1048576) (hf : famIn m zs = false) :
    Calls Tryd.prog 22 #[.agg #[.int .i64 m, .slice a zs.length c], .slice b ps.length d] w (RetFB w 0 [] false) := by
  have HA := Lib.hid ((ha.below (below2 w (.cells #[.int .i64 m, .slice a zs.length c] 25) (.cells #[.int .i64 0, .slice none 0 0] 25))).mono (B' := ((w.alloc (.cells #[.int .i64 m, .slice a zs.length c] 25)).alloc (.cells #[.int .i64 0, .slice none 0 0] 25)).heap.size) (by simp; omega))
  have HBp := Lib.hid (hb.below (below2 w (.cells #[.int .i64 m, .slice a zs.length c] 25) (.cells #[.int .i64 0, .slice none 0 0] 25)))
  have HF := Lib.hid hf
  clear hf ha hb
  go_enter Tryd.func22, Tryd.ntmps22
  go_wp2_with fail
  refine (specFamilyIn_any _ _ _ zs _ HA.out hx).mono ?_
  rintro e w1 ⟨rfl, hb⟩
  rw [HF.out]
  have b1 : w1.heap[w.heap.size + 1]? = some (.cells #[.int .i64 0, .slice none 0 0] 25 (0, 0)) := (hb.block _ (by simp)).trans (alloc2_1 w _ _)
  have HB := Lib.hid ((below2 w _ _).trans (hb.mono (by simp; omega)))
  have z1 : w.heap.size + 1 < w1.heap.size := by have := hb.size; simp at this; omega
  clear hb
  go_wp2_with fail
  refine (l1None_any _).mono ?_
  rintro e w2 ⟨a2, c2, rfl, ho2, hb⟩
  have b2 := (hb.block _ z1).trans b1
  have d0 := (blk_cell b2 0).trans (cell2_0 _ _)
  have d1 := (blk_cell b2 1).trans (cell2_1 _ _)
  have f0 := blk_frozen b2 0
  have f1 := blk_frozen b2 1
  have z2 : w.heap.size + 1 < w2.heap.size := by have := hb.size; omega
  have HB2 := Lib.hid (HB.out.trans (hb.mono (by omega)))
  have HO := Lib.hid ho2
  clear hb b1 b2 ho2
  go_wp2
  refine bodyPost_ret (v := .tuple #[.agg #[.int .i64 0, .slice a2 0 c2], .bool false]) (by simp [results, Tryd.results22, go_sem, d0, d1]) rfl ?_
  refine ⟨a2, c2, rfl, ?_, ?_⟩
  · exact own_mono (ownsRow_setCell_below (ownsRow_setCell_below HO.out (by simp; omega) _) (by simp; omega) _) (by omega)
  · exact (HB2.out.setCell (p := ⟨w.heap.size + 1, 0, none⟩) (by simp) _).setCell (p := ⟨w.heap.size + 1, 1, none⟩) (by simp) _

set_option maxRecDepth 100000 in
set_option maxHeartbeats 2000000 in
theorem specNamed_no2 (m : Int) (a b : Option Addr) (c d : Nat) (zs ps : List Int) (w : World) (ha : Ints w w.heap.size a zs) (hb : Ints w w.heap.size b ps) (hx : zs.length ≤ 1048576) (hy : ps.length ≤ 1048576) (hf : famIn m zs = true) (hi : namesB m.toNat ps = false) :
    Calls Tryd.prog 22 #[.agg #[.int .i64 m, .slice a zs.length c], .slice b ps.length d] w (RetFB w 0 [] false) := by
  have HA := Lib.hid ((ha.below (below2 w (.cells #[.int .i64 m, .slice a zs.length c] 25) (.cells #[.int .i64 0, .slice none 0 0] 25))).mono (B' := ((w.alloc (.cells #[.int .i64 m, .slice a zs.length c] 25)).alloc (.cells #[.int .i64 0, .slice none 0 0] 25)).heap.size) (by simp; omega))
  have HBp := Lib.hid (hb.below (below2 w (.cells #[.int .i64 m, .slice a zs.length c] 25) (.cells #[.int .i64 0, .slice none 0 0] 25)))
  have HF := Lib.hid hf
  have HI := Lib.hid hi
  obtain ⟨hm1, hm6, -, -⟩ := famIn_out hf
  have hmm : Hid (m = ((m.toNat : Nat) : Int)) := Lib.hid (by omega)
  have hk1 : 1 ≤ m.toNat := by omega
  have hk6 : m.toNat ≤ 6 := by omega
  clear hf ha hb hi
  go_enter Tryd.func22, Tryd.ntmps22
  go_wp2_with fail
  refine (specFamilyIn_any _ _ _ zs _ HA.out hx).mono ?_
  rintro e w1 ⟨rfl, hb⟩
  rw [HF.out]
  have b1 : w1.heap[w.heap.size + 1]? = some (.cells #[.int .i64 0, .slice none 0 0] 25 (0, 0)) := (hb.block _ (by simp)).trans (alloc2_1 w _ _)
  have HB := Lib.hid ((below2 w _ _).trans (hb.mono (by simp; omega)))
  have z1 : w.heap.size + 1 < w1.heap.size := by have := hb.size; simp at this; omega
  have b0 : w1.heap[w.heap.size]? = some (.cells #[.int .i64 m, .slice a zs.length c] 25 (0, 0)) := (hb.block _ (by simp; omega)).trans (alloc2_0 w _ _)
  have x0 := (blk_cell b0 0).trans (cell2_0 _ _)
  have x1 := (blk_cell b0 1).trans (cell2_1 _ _)
  have HBp1 := Lib.hid ((HBp.out.below (hb.mono (by simp; omega))).mono (B' := w1.heap.size) (by omega))
  have HA1 := Lib.hid ((HA.out.below hb).mono (B' := w1.heap.size) hb.size)
  clear hb b0
  go_wp2_with fail
  have HC := Lib.hid (l1Names_any m.toNat hk1 hk6 b d ps w1 HBp1.out hy)
  rw [← hmm.out] at HC
  refine HC.out.mono ?_
  rintro e w1'' ⟨rfl, rfl⟩
  rw [HI.out]
  go_wp2_with fail
  refine (l1None_any _).mono ?_
  rintro e w2 ⟨a2, c2, rfl, ho2, hb⟩
  have b2 := (hb.block _ z1).trans b1
  have d0 := (blk_cell b2 0).trans (cell2_0 _ _)
  have d1 := (blk_cell b2 1).trans (cell2_1 _ _)
  have f0 := blk_frozen b2 0
  have f1 := blk_frozen b2 1
  have z2 : w.heap.size + 1 < w2.heap.size := by have := hb.size; omega
  have HB2 := Lib.hid (HB.out.trans (hb.mono (by omega)))
  have HO := Lib.hid ho2
  clear hb b1 b2 ho2
  go_wp2
  refine bodyPost_ret (v := .tuple #[.agg #[.int .i64 0, .slice a2 0 c2], .bool false]) (by simp [results, Tryd.results22, go_sem, d0, d1]) rfl ?_
  refine ⟨a2, c2, rfl, ?_, ?_⟩
  · exact own_mono (ownsRow_setCell_below (ownsRow_setCell_below HO.out (by simp; omega) _) (by simp; omega) _) (by omega)
  · exact (HB2.out.setCell (p := ⟨w.heap.size + 1, 0, none⟩) (by simp) _).setCell (p := ⟨w.heap.size + 1, 1, none⟩) (by simp) _

set_option maxRecDepth 100000 in
set_option maxHeartbeats 2000000 in
theorem specNamed_yes (m : Int) (a b : Option Addr) (c d : Nat) (zs ps : List Int) (w : World) (ha : Ints w w.heap.size a zs) (hb : Ints w w.heap.size b ps) (hx : zs.length ≤ 1048576) (hy : ps.length ≤ 1048576) (hf : famIn m zs = true) (hi : namesB m.toNat ps = true) :
    Calls Tryd.prog 22 #[.agg #[.int .i64 m, .slice a zs.length c], .slice b ps.length d] w (RetFB w m (zs.map (callZ ps)) true) := by
  have HA := Lib.hid ((ha.below (below2 w (.cells #[.int .i64 m, .slice a zs.length c] 25) (.cells #[.int .i64 0, .slice none 0 0] 25))).mono (B' := ((w.alloc (.cells #[.int .i64 m, .slice a zs.length c] 25)).alloc (.cells #[.int .i64 0, .slice none 0 0] 25)).heap.size) (by simp; omega))
  have HBp := Lib.hid (hb.below (below2 w (.cells #[.int .i64 m, .slice a zs.length c] 25) (.cells #[.int .i64 0, .slice none 0 0] 25)))
  have HF := Lib.hid hf
  have HI := Lib.hid hi
  obtain ⟨hm1, hm6, -, -⟩ := famIn_out hf
  have hmm : Hid (m = ((m.toNat : Nat) : Int)) := Lib.hid (by omega)
  have hk1 : 1 ≤ m.toNat := by omega
  have hk6 : m.toNat ≤ 6 := by omega
  have HOk := Lib.hid (namesB_ok hk6 hi)
  clear hf ha hb hi
  go_enter Tryd.func22, Tryd.ntmps22
  go_wp2_with fail
  refine (specFamilyIn_any _ _ _ zs _ HA.out hx).mono ?_
  rintro e w1 ⟨rfl, hb⟩
  rw [HF.out]
  have b1 : w1.heap[w.heap.size + 1]? = some (.cells #[.int .i64 0, .slice none 0 0] 25 (0, 0)) := (hb.block _ (by simp)).trans (alloc2_1 w _ _)
  have HB := Lib.hid ((below2 w _ _).trans (hb.mono (by simp; omega)))
  have z1 : w.heap.size + 1 < w1.heap.size := by have := hb.size; simp at this; omega
  have b0 : w1.heap[w.heap.size]? = some (.cells #[.int .i64 m, .slice a zs.length c] 25 (0, 0)) := (hb.block _ (by simp; omega)).trans (alloc2_0 w _ _)
  have x0 := (blk_cell b0 0).trans (cell2_0 _ _)
  have x1 := (blk_cell b0 1).trans (cell2_1 _ _)
  have HBp1 := Lib.hid ((HBp.out.below (hb.mono (by simp; omega))).mono (B' := w1.heap.size) (by omega))
  have HA1 := Lib.hid ((HA.out.below hb).mono (B' := w1.heap.size) hb.size)
  clear hb b0
  go_wp2_with fail
  have HC := Lib.hid (l1Names_any m.toNat hk1 hk6 b d ps w1 HBp1.out hy)
  rw [← hmm.out] at HC
  refine HC.out.mono ?_
  rintro e w1'' ⟨rfl, rfl⟩
  rw [HI.out]
  have HD := Lib.hid (l1Named_any m.toNat a b c d zs ps w1 HA1.out HBp1.out (by rw [← hmm.out]; exact HF.out) HOk.out)
  rw [← hmm.out] at HD
  go_wp2_with fail
  refine HD.out.mono ?_
  rintro e w2 ⟨a2, c2, rfl, ho2, hb⟩
  have b2 := (hb.block _ z1).trans b1
  have d0 := (blk_cell b2 0).trans (cell2_0 _ _)
  have d1 := (blk_cell b2 1).trans (cell2_1 _ _)
  have f0 := blk_frozen b2 0
  have f1 := blk_frozen b2 1
  have z2 : w.heap.size + 1 < w2.heap.size := by have := hb.size; omega
  have HB2 := Lib.hid (HB.out.trans (hb.mono (by omega)))
  have HO := Lib.hid ho2
  clear hb b1 b2 ho2
  go_wp2
  refine bodyPost_ret (v := .tuple #[.agg #[.int .i64 m, .slice a2 (zs.map (callZ ps)).length c2], .bool true]) (by simp [results, Tryd.results22, go_sem, d0, d1]) rfl ?_
  refine ⟨a2, c2, rfl, ?_, ?_⟩
  · exact own_mono (ownsRow_setCell_below (ownsRow_setCell_below HO.out (by simp; omega) _) (by simp; omega) _) (by omega)
  · exact (HB2.out.setCell (p := ⟨w.heap.size + 1, 0, none⟩) (by simp) _).setCell (p := ⟨w.heap.size + 1, 1, none⟩) (by simp) _

theorem specNamed_any (m : Int) (a b : Option Addr) (c d : Nat) (zs ps : List Int) (w : World) (ha : Ints w w.heap.size a zs) (hb : Ints w w.heap.size b ps) (hx : zs.length ≤ 1048576) (hy : ps.length ≤ 1048576) :
    Calls Tryd.prog 22 #[.agg #[.int .i64 m, .slice a zs.length c], .slice b ps.length d] w (RetFB w (namM m zs ps) (namZ m zs ps) (namIn m zs ps)) := by
  unfold namM namZ namIn
  cases h1 : famIn m zs
  · exact specNamed_no1 m a b c d zs ps w ha hb hx hy h1
  · cases h2 : namesB m.toNat ps
    · exact specNamed_no2 m a b c d zs ps w ha hb hx hy h1 h2
    · exact specNamed_yes m a b c d zs ps w ha hb hx hy h1 h2

end Go.Proofs.YtgpgocijacgkhaaDoor

/- It is proved that named families have the same sizes and degrees; conditions: those of each statement. -/
namespace Go.Proofs.YtgpgocijacgkhaaDoor
open Go.RowKit

theorem orP_test : ∀ (qs : List Int) (t i : Nat), (qs.foldl (fun t p => t ||| 2 ^ p.toNat) t).testBit i = (t.testBit i || qs.any fun p => decide (p.toNat = i))
  | [], t, i => by simp
  | q :: qs, t, i => by
    rw [List.foldl_cons, orP_test qs, Nat.testBit_or, Nat.testBit_two_pow, List.any_cons, Bool.or_assoc]

theorem names_inj {m : Nat} (hm : m ≤ 6) {ps : List Int} (h : namesB m ps = true) : ∀ u v, u < v → v < m → (ps[u]?.getD 0).toNat ≠ (ps[v]?.getD 0).toNat := by
  intro u v huv hv he
  have hh := h
  simp only [namesB, Bool.and_eq_true, decide_eq_true_eq] at hh
  have : namesB m ps = false := names_twice hm hh.1 hh.2.1 hv (by
    unfold orP
    rw [orP_test, Nat.zero_testBit, Bool.false_or, List.any_eq_true]
    have hul : u < (ps.take v).length := by rw [List.length_take]; omega
    refine ⟨(ps.take v)[u], List.getElem_mem hul, ?_⟩
    rw [List.getElem_take, decide_eq_true_eq, ← he]
    have : u < ps.length := by omega
    simp [this])
  rw [h] at this; cases this

theorem nm_test : ∀ (ps : List Int) (us : List Nat) (t i : Nat), (us.foldl (fun t v => t ||| 2 ^ (ps[v]?.getD 0).toNat) t).testBit i = (t.testBit i || us.any fun v => decide ((ps[v]?.getD 0).toNat = i))
  | ps, [], t, i => by simp
  | ps, u :: us, t, i => by
    rw [List.foldl_cons, nm_test ps us, Nat.testBit_or, Nat.testBit_two_pow, List.any_cons, Bool.or_assoc]

theorem called_bit {m : Nat} (hm : m ≤ 6) {ps : List Int} (h : namesB m ps = true) {s v : Nat} (hs : s < 2 ^ m) (hv : v < m) : (called ps s).testBit (ps[v]?.getD 0).toNat = s.testBit v := by
  unfold called nm
  rw [nm_test, Nat.zero_testBit, Bool.false_or, Bool.eq_iff_iff, List.any_eq_true]
  constructor
  · rintro ⟨u, hu, he⟩
    rw [decide_eq_true_eq] at he
    have hum := mem_lt m hm s hs u hu
    have huv : u = v := by
      rcases Nat.lt_trichotomy u v with h1 | h1 | h1
      · exact absurd he (names_inj hm h u v h1 hv)
      · exact h1
      · exact absurd he.symm (names_inj hm h v u h1 hum)
    rw [← huv]
    exact ((mem_mem s u).1 hu).2
  · intro ht
    exact ⟨v, (mem_mem s v).2 ⟨by omega, ht⟩, by simp⟩

theorem mem_nodup (s : Nat) : (mem s).Pairwise (· < ·) := List.Pairwise.filter _ List.pairwise_lt_range
theorem called_pop {m : Nat} (hm : m ≤ 6) {ps : List Int} (h : namesB m ps = true) {s : Nat} (hs : s < 2 ^ m) : popS (called ps s) = popS s := by
  have hok := namesB_ok hm h
  have key : ∀ k, k ≤ (mem s).length → popS (nm ps ((mem s).take k)) = k ∧ nm ps ((mem s).take k) < 64 := by
    intro k
    induction k with
    | zero => intro _; simp [nm]; decide
    | succ k ih =>
      intro hk
      obtain ⟨h1, h2⟩ := ih (by omega)
      have hmk : (mem s)[k] < m := mem_lt m hm s hs _ (List.getElem_mem _)
      have hp6 : (ps[(mem s)[k]]?.getD 0).toNat < 6 := by have := hok.2 _ hmk; omega
      rw [List.take_succ_eq_append_getElem (by omega), nm_snoc]
      refine ⟨?_, Nat.or_lt_two_pow (n := 6) h2 (Nat.pow_lt_pow_right (by decide) hp6)⟩
      rw [pop_or _ h2 _ hp6, h1]
      have hf : (nm ps ((mem s).take k)).testBit (ps[(mem s)[k]]?.getD 0).toNat = false := by
        unfold nm
        rw [nm_test, Nat.zero_testBit, Bool.false_or, List.any_eq_false]
        intro u hu
        rw [decide_eq_true_eq]
        obtain ⟨i, hi, rfl⟩ := List.getElem_of_mem hu
        rw [List.length_take] at hi
        rw [List.getElem_take]
        have hlt := List.pairwise_iff_getElem.1 (mem_nodup s) i k (by omega) (by omega) (by omega)
        exact names_inj hm h _ _ hlt hmk
      rw [hf]; rfl
  have := (key (mem s).length (Nat.le_refl _)).1
  rw [List.take_length] at this
  exact this

theorem called_lt {m : Nat} (hm : m ≤ 6) {ps : List Int} (h : namesB m ps = true) {s : Nat} (hs : s < 2 ^ m) : called ps s < 2 ^ m := by
  have hok := namesB_ok hm h
  apply Nat.lt_pow_two_of_testBit
  intro i hi
  unfold called nm
  rw [nm_test, Nat.zero_testBit, Bool.false_or, List.any_eq_false]
  intro u hu
  rw [decide_eq_true_eq]
  have hum := mem_lt m hm s hs u hu
  have hh := h
  simp only [namesB, Bool.and_eq_true, decide_eq_true_eq] at hh
  have := inR_at hh.1 (k := u) (by omega)
  omega

theorem named_facts {k : Nat} {zs ps : List Int} (h : namIn (k : Int) zs ps = true) : namM (k : Int) zs ps = (k : Int) ∧ famIn (k : Int) zs = true ∧ famIn (k : Int) (namZ (k : Int) zs ps) = true ∧ sizesZ (k : Int) (namZ (k : Int) zs ps) = sizesZ (k : Int) zs ∧ ps.length = k ∧
    ∀ v, v < k → 0 ≤ ps[v]?.getD 0 ∧ ps[v]?.getD 0 < (k : Int) ∧ (degL k (allMem (namZ (k : Int) zs ps)))[(ps[v]?.getD 0).toNat]?.getD 0 = (degL k (allMem zs))[v]?.getD 0 := by
  have hh := h
  simp only [namIn, Bool.and_eq_true, Int.toNat_natCast] at hh
  obtain ⟨hf, hp⟩ := hh
  obtain ⟨h1, h2, h3, h4⟩ := famIn_out hf
  have hm : k ≤ 6 := by omega
  have hok := namesB_ok hm hp
  have hfull : fullI (k : Int) = ((2 ^ k : Nat) : Int) - 1 := by simp [fullI]
  have e2 : namZ (k : Int) zs ps = zs.map (callZ ps) := by simp [namZ, h]
  have hz2 : ∀ z ∈ zs, z.toNat < 2 ^ k := fun z hz => by have := h4 z hz; omega
  have hf2 : famIn (k : Int) (zs.map (callZ ps)) = true := by
    simp only [famIn, Bool.and_eq_true, decide_eq_true_eq, List.all_eq_true, List.mem_map, List.length_map]
    refine ⟨inB_true h1 h2, h3, ?_⟩
    rintro _ ⟨z, hz, rfl⟩
    have := called_lt hm hp (hz2 z hz)
    exact inB_true (by unfold callZ; omega) (by unfold callZ; omega)
  rw [e2]
  refine ⟨by simp [namM, h], hf, hf2, ?_, hok.1, ?_⟩
  · rw [sizesZ, if_pos hf2, sizesZ, if_pos hf, List.map_map]
    apply List.map_congr_left
    intro z hz
    have hz0 := small63 hf z hz
    have hc := called_lt hm hp (hz2 z hz)
    have h64 : 2 ^ k ≤ 2 ^ 6 := Nat.pow_le_pow_right (by decide) hm
    simp only [Function.comp, callZ]
    rw [pop_mem (by omega), show z = ((z.toNat : Nat) : Int) from by omega, pop_mem (by omega)]
    have := called_pop hm hp (hz2 z hz)
    unfold popS at this
    simp only [Int.toNat_natCast]
    omega
  · intro v hv
    have hh2 := hp
    simp only [namesB, Bool.and_eq_true, decide_eq_true_eq] at hh2
    have hv2 := inR_at hh2.1 (k := v) (by omega)
    have hlt : (ps[v]?.getD 0).toNat < k := by omega
    refine ⟨by omega, by omega, ?_⟩
    rw [degL_at k _ _ hlt, degL_at k _ _ hv, Option.getD_some, Option.getD_some, count_all (by omega) _ (small63 hf2), count_all (by omega) _ (small63 hf), List.countP_map]
    have : List.countP (hasM (ps[v]?.getD 0).toNat ∘ callZ ps) zs = List.countP (hasM v) zs := by
      apply List.countP_congr
      intro z hz
      simp only [Function.comp, hasM, callZ, Int.toNat_natCast]
      rw [called_bit hm hp (hz2 z hz) hv]
    rw [this]

end Go.Proofs.YtgpgocijacgkhaaDoor

/- It is proved that the sizes of a set and of its others are all members; conditions: those of each statement. -/
namespace Go.Proofs.YtgpgocijacgkhaaDoor
open Go.RowKit

set_option maxRecDepth 100000 in
theorem other_in_fin : ∀ k : Fin 6, ∀ z : Fin 64, (z.val : Int) ≤ fullI ((k.val : Int) + 1) → 0 ≤ bits .andNot .i64 (fullI ((k.val : Int) + 1)) (z.val : Int) ∧ bits .andNot .i64 (fullI ((k.val : Int) + 1)) (z.val : Int) ≤ fullI ((k.val : Int) + 1) := by decide +kernel

theorem other_in {m z : Int} (h1 : 1 ≤ m) (h2 : m ≤ 6) (h3 : 0 ≤ z) (h4 : z ≤ fullI m) : 0 ≤ bits .andNot .i64 (fullI m) z ∧ bits .andNot .i64 (fullI m) z ≤ fullI m := by
  have h5 := fullI_63 h1 h2
  have := other_in_fin ⟨(m - 1).toNat, by omega⟩ ⟨z.toNat, by omega⟩
  simp only [Int.toNat_of_nonneg (show 0 ≤ m - 1 by omega), Int.toNat_of_nonneg h3, show m - 1 + 1 = m by omega] at this
  exact this h4

theorem other_fam {m : Int} {zs : List Int} (h : famIn m zs = true) : famIn m (zs.map fun z => bits .andNot .i64 (fullI m) z) = true := by
  obtain ⟨h1, h2, h3, h4⟩ := famIn_out h
  simp only [famIn, Bool.and_eq_true, decide_eq_true_eq, List.all_eq_true, List.mem_map, List.length_map]
  refine ⟨inB_true h1 h2, h3, ?_⟩
  rintro _ ⟨z, hz, rfl⟩
  obtain ⟨h5, h6⟩ := other_in h1 h2 (h4 z hz).1 (h4 z hz).2
  exact inB_true h5 h6

end Go.Proofs.YtgpgocijacgkhaaDoor

/- It is proved what FamilyAll of the program and of the model return; conditions: those of each statement. -/
namespace Go.Proofs.YtgpgocijacgkhaaDoor
open Go.RowKit Go.Shelf

attribute [local go_sem] Oper.semAt_some

def orAll (zs : List Int) : Int := zs.foldl (fun s z => bits .or .i64 s z) 0
def famAll (m : Int) (zs : List Int) : Int := if famIn m zs then orAll zs else 0
end Go.Proofs.YtgpgocijacgkhaaDoor
