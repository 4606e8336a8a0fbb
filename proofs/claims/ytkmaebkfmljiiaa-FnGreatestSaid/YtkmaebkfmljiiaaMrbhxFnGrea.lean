/- It is proved that the laws' sorted returns the sorted list, in new memory; conditions: those of each statement. -/
import Derived.Test.YtkmaebkfmljiiaaRows
import Derived.WalkKit
import Derived.WalkSpells
import Derived.ProofKit
import Derived.OpenShut
import Derived.ShutString
import Derived.ChangeOld
import Derived.Below
import Derived.Deep.RegionHeld3
import Derived.Deep.QuietTactic
import Derived.BigQuiet
import Derived.Lib.Hide
import Derived.Lib.SmallJoins
import Derived.Outline
import Derived.Laws.MakeOwn
import Derived.Laws.OwnMore
import Derived.IntWalk
import Derived.Deep.RegionLaw
import Derived.Deep.AppendLies
import Derived.Lib.AppendZeros
import Derived.Maps.AppendAt
import Derived.OwnWalk
import Derived.RangeFuncNested
import Derived.RangeFuncBound
import Derived.RangeFuncCalls
import Derived.RangeFuncLeaves
import Derived.RangeFuncBox
import Derived.Shelf.Abstract
import Derived.Shelf.RegionOpen
import Derived.OwnWalkIn
import Derived.TacticsInMore
import Derived.LoopNIn
import Derived.LoopIn
import Derived.Shelf.Spec.TrailingZeros
import Derived.Test.YtkmaebkfmljiiaaB
import Derived.Test.YtkmaebkfmljiiaaC
import Derived.Test.YtkmaebkfmljiiaaE
import Derived.Test.YtkmaebkfmljiiaaF
import Derived.Test.YtkmaebkfmljiiaaMrbgxFnGrea
import Derived.Test.YtkmaebkfmljiiaaGa
import Derived.Test.YtkmaebkfmljiiaaGb
import Derived.Test.YtkmaebkfmljiiaaHa
import Derived.Test.YtkmaebkfmljiiaaK
import Derived.Test.YtkmaebkfmljiiaaOw
import Derived.Test.YtkmaebkfmljiiaaP
import Derived.Test.YtkmaebkfmljiiaaD
import Derived.Test.YtkmaebkfmljiiaaN
import Derived.Test.YtkmaebkfmljiiaaSa
import Derived.Test.YtkmaebkfmljiiaaG
import Derived.Test.YtkmaebkfmljiiaaH
import Derived.Test.YtkmaebkfmljiiaaL
namespace Go.Proofs.Ytkmaebkfmljiiaa
open Go.RowKit

/-- A list in order. -/
def sortZ (zs : List Int) : List Int := zs.mergeSort fun x y => decide (x ≤ y)

theorem sortZ_perm (zs : List Int) : (sortZ zs).Perm zs := List.mergeSort_perm zs _
theorem sortZ_le (zs : List Int) : (sortZ zs).Pairwise (· ≤ ·) := by
  have h := List.pairwise_mergeSort (le := fun x y : Int => decide (x ≤ y)) (fun a b c h1 h2 => by simp at *; omega) (fun a b => by simp; omega) zs
  exact h.imp (fun h => by simpa using h)

theorem le_ext : ∀ (xs ys : List Int), xs.Perm ys → xs.Pairwise (· ≤ ·) → ys.Pairwise (· ≤ ·) → xs = ys
  | [], ys, h, _, _ => by rw [List.nil_perm.1 h]
  | x :: xs, [], h, _, _ => by cases List.perm_nil.1 h
  | x :: xs, y :: ys, h, h1, h2 => by
    have hx := List.pairwise_cons.1 h1
    have hy := List.pairwise_cons.1 h2
    have e : x = y := by
      have m1 : x ∈ y :: ys := h.mem_iff.1 (by simp)
      have m2 : y ∈ x :: xs := h.mem_iff.2 (by simp)
      rcases List.mem_cons.1 m1 with e | m1
      · exact e
      · rcases List.mem_cons.1 m2 with e | m2
        · exact e.symm
        · have := hy.1 x m1; have := hx.1 y m2; omega
    subst e
    rw [le_ext xs ys (List.perm_cons x |>.1 h) hx.2 hy.2]

theorem sortZ_of {zs ys : List Int} (hp : ys.Perm zs) (h : ys.Pairwise (· ≤ ·)) : ys = sortZ zs := le_ext _ _ (hp.trans (sortZ_perm zs).symm) h (sortZ_le zs)
theorem sortZ_length (zs : List Int) : (sortZ zs).length = zs.length := (sortZ_perm zs).length_eq
theorem ins_perm {S T : List Int} {x : Int} {k : Nat} (h : S.Perm T) : (S.take k ++ x :: S.drop k).Perm (T ++ [x]) := by
  refine (List.perm_middle.trans ?_).trans (List.perm_append_singleton x T).symm
  rw [List.take_append_drop]
  exact h.cons x

theorem ins_le {S : List Int} {x : Int} {k : Nat} (hS : S.Pairwise (· ≤ ·)) (h1 : ∀ y ∈ S.drop k, x < y) (h2 : ∀ j, k = j + 1 → S[j]?.getD 0 ≤ x) (hk : k ≤ S.length) : (S.take k ++ x :: S.drop k).Pairwise (· ≤ ·) := by
  have hsplit : (S.take k ++ S.drop k).Pairwise (· ≤ ·) := by rw [List.take_append_drop]; exact hS
  obtain ⟨p1, p2, p3⟩ := List.pairwise_append.1 hsplit
  have hle : ∀ y ∈ S.take k, y ≤ x := by
    intro y hy
    cases k with
    | zero => simp at hy
    | succ j =>
      have h3 := h2 j rfl
      obtain ⟨i, hi, rfl⟩ := List.getElem_of_mem hy
      rw [List.length_take] at hi
      have hij : i ≤ j := by omega
      rw [List.getElem_take]
      rw [List.getElem?_eq_getElem (by omega), Option.getD_some] at h3
      rcases Nat.lt_or_eq_of_le hij with h | rfl
      · have := List.pairwise_iff_getElem.1 hS i j (by omega) (by omega) h; omega
      · exact h3
  refine List.pairwise_append.2 ⟨p1, List.pairwise_cons.2 ⟨fun y hy => by have := h1 y hy; omega, p2⟩, fun y hy z hz => ?_⟩
  rcases List.mem_cons.1 hz with rfl | hz
  · exact hle y hy
  · exact p3 y hy z hz

theorem rowZ_at (S R : List Int) (g : Int) (k : Nat) (hk : k ≤ S.length) : (S.take k ++ g :: S.drop k ++ R)[k]? = some g := by
  have hl : (S.take k).length = k := by rw [List.length_take]; omega
  rw [List.append_assoc, List.getElem?_append_right (by omega), hl, Nat.sub_self]
  simp

theorem rowZ_below (S R : List Int) (g : Int) (k j : Nat) (hk : k ≤ S.length) (hj : j < k) : (S.take k ++ g :: S.drop k ++ R)[j]? = some (S[j]?.getD 0) := by
  have hl : (S.take k).length = k := by rw [List.length_take]; omega
  rw [List.append_assoc, List.getElem?_append_left (by omega), List.getElem?_take_of_lt hj, List.getElem?_eq_getElem (by omega)]
  simp

theorem rowZ_set (S R : List Int) (g y : Int) (k : Nat) (hk : k ≤ S.length) : (S.take k ++ g :: S.drop k ++ R).set k y = S.take k ++ y :: S.drop k ++ R := by
  have hl : (S.take k).length = k := by rw [List.length_take]; omega
  rw [List.append_assoc, List.set_append_right _ _ (by omega), hl, Nat.sub_self, List.append_assoc]
  rfl

theorem rowZ_down (S R : List Int) (k : Nat) (hk : k < S.length) : S.take (k + 1) ++ (S[k]?.getD 0) :: S.drop (k + 1) ++ R = S.take k ++ (S[k]?.getD 0) :: S.drop k ++ R := by
  have e : S[k]?.getD 0 = S[k] := by simp [hk]
  have h1 : S.take (k + 1) = S.take k ++ [S[k]] := List.take_succ_eq_append_getElem hk
  have h2 : S.drop k = S[k] :: S.drop (k + 1) := List.drop_eq_getElem_cons hk
  rw [e, h1, h2]
  simp only [List.append_assoc, List.cons_append, List.nil_append]

set_option maxRecDepth 100000 in
set_option maxHeartbeats 3200000 in
theorem sorted_any (a : Option Addr) (c : Nat) (zs : List Int) (w : World) (ha : Ints w w.heap.size a zs) (hx : zs.length ≤ 1048576) :
    Calls Try.prog 20 #[.slice a zs.length c] w (RetInts w (sortZ zs)) := by
  obtain ⟨a', c', w1, hrun, ho1, hg1⟩ := app_run0n (B := w.heap.size) (own_empty (alloc_new w (.cells #[] 3)) (Nat.le_refl _)) (by simp) a c zs rfl ((ha.below (below1 w _)).mono (by simp)) hx
  obtain ⟨Z, hZ⟩ : ∃ Z, Z = zs.length := ⟨_, rfl⟩
  have HZ := Lib.hid hZ
  rw [← hZ] at hrun ho1 hx ⊢
  have HO : Hid (OwnN w1 w.heap.size a' Z c' zs) := Lib.hid ho1
  have HB : Hid (Below w.heap.size w w1) := Lib.hid ((below1 w _).trans ((Below.refl _ _).grown hg1 (by simp) (fun g e => by simp [Value.ownBlock] at e; omega)))
  clear ha ho1 hg1 hZ
  go_enter Try.func20, Try.ntmps20
  have HRUN := Lib.hid hrun
  clear hrun
  go_wp2_with (at_builtin; refine Lib.wpList_append_run _ rfl _ _ 23 23 rfl _ _ rfl rfl _ _ HRUN.out ?_)
  go_loopw [4] (fun i wr => ∃ (j : Nat) (S : List Int), 1 ≤ j ∧ i = .int .i64 (j : Int) ∧ S.Perm (zs.take j) ∧ S.Pairwise (· ≤ ·) ∧ OwnN wr w.heap.size a' Z c' (S ++ zs.drop j) ∧ Below w.heap.size w wr) (fun i _ => Z - (intOf i).toNat)
  case atStart => exact ⟨1, zs.take 1, Nat.le_refl _, rfl, List.Perm.refl _, by cases zs <;> simp, by rw [List.take_append_drop]; exact HO.out, HB.out⟩
  case round =>
    obtain ⟨j, S, hj, rfl, hS, hle, ho, hB⟩ := hrel
    obtain ⟨wo, hwo⟩ : ∃ wo, wo = wr := ⟨wr, rfl⟩
    subst hwo
    have HS := Lib.hid hS
    have HLE := Lib.hid hle
    by_cases hlt : j < Z
    · have hSl : S.length = j := by have := hS.length_eq; rw [List.length_take] at this; rw [this]; have := HZ.out; omega
      obtain ⟨g, rfl, -, -⟩ := ho.addr (by omega)
      obtain ⟨x, hxx⟩ : ∃ x, x = zs[j]?.getD 0 := ⟨_, rfl⟩
      have hcj : wo.cell? ⟨g, j, none⟩ = some (.int .i64 x) := by
        rw [ho.cell (by omega), List.getElem?_append_right (by omega), hSl, Nat.sub_self, hxx]
        simp
      have hdrop : zs.drop j = x :: zs.drop (j + 1) := by
        have h1 : j < zs.length := by have := HZ.out; omega
        rw [List.drop_eq_getElem_cons h1, hxx]; simp [h1]
      have HX := Lib.hid hxx
      have HSL := Lib.hid hSl
      have HO2 : Hid (OwnN wo w.heap.size (some ⟨g, 0, none⟩) Z c' (S.take j ++ x :: S.drop j ++ zs.drop (j + 1))) := Lib.hid (by
        rw [hdrop] at ho
        rw [List.take_of_length_le (by omega), List.drop_eq_nil_of_le (by omega), List.append_assoc]
        exact ho)
      have HB2 := Lib.hid hB
      have hjZ : j ≤ Z := by omega
      clear hS hle ho hB hxx hSl hdrop
      go_wp2
      go_loopw [6] (fun q wr => ∃ (k : Nat) (y : Int), k ≤ j ∧ q = .int .i64 (k : Int) ∧ (∀ z ∈ S.drop k, x < z) ∧ OwnN wr w.heap.size (some ⟨g, 0, none⟩) Z c' (S.take k ++ y :: S.drop k ++ zs.drop (j + 1)) ∧ Below w.heap.size w wr) (fun q _ => (intOf q).toNat)
      case atStart => exact ⟨j, x, Nat.le_refl _, rfl, by rw [List.drop_eq_nil_of_le (by rw [HSL.out]; exact Nat.le_refl _)]; simp, HO2.out, HB2.out⟩
      case round =>
        obtain ⟨k, y, hk, rfl, hgt, ho, hB⟩ := hrel
        have HG := Lib.hid hgt
        have HBw := Lib.hid hB
        have hfin : ∀ (hst : ∀ i, k = i + 1 → S[i]?.getD 0 ≤ x) (wx : World), OwnN wx w.heap.size (some ⟨g, 0, none⟩) Z c' (S.take k ++ x :: S.drop k ++ zs.drop (j + 1)) → Below w.heap.size w wx →
            ∃ (j' : Nat) (S' : List Int), 1 ≤ j' ∧ Value.int .i64 ((j : Int) + 1) = .int .i64 (j' : Int) ∧ S'.Perm (zs.take j') ∧ S'.Pairwise (· ≤ ·) ∧ OwnN wx w.heap.size (some ⟨g, 0, none⟩) Z c' (S' ++ zs.drop j') ∧ Below w.heap.size w wx := fun hst wx hox hbx =>
          ⟨j + 1, S.take k ++ x :: S.drop k, by omega, by simp, by
            have h1 : j < zs.length := by have := HZ.out; omega
            rw [List.take_succ_eq_append_getElem h1, show zs[j] = x from by rw [HX.out]; simp [h1]]
            exact ins_perm HS.out, ins_le HLE.out HG.out hst (by rw [HSL.out]; exact hk), hox, hbx⟩
        have HF := Lib.hid hfin
        have hck := ho.cell (j := k) (by omega)
        rw [rowZ_at _ _ _ _ (by rw [HSL.out]; exact hk), Option.getD_some] at hck
        have hfz := World.ownsRow.frozenAt ho k
        have HST := Lib.hid (fun v => (World.ownsRow.stored ho k (.int .i64 v)).1)
        have HOW := Lib.hid ho
        cases k with
        | zero =>
          clear hgt hB hfin ho
          go_wp2
          go_roundw
          case rel => exact HF.out (fun i hi => by omega) _ (by have h1 := HST.out x; rw [← List.map_set, rowZ_set _ _ _ _ _ (by omega)] at h1; exact h1) (HBw.out.setCell (p := ⟨g, 0, none⟩) (by have := HOW.out.addr (by omega); obtain ⟨g', e, h, -⟩ := this; injection e with e; injection e with e; subst e; exact h) _)
          case measure => simp [intOf]; omega
        | succ k =>
          have hc1 := ho.cell (j := k) (by omega)
          rw [rowZ_below _ _ _ _ _ (by rw [HSL.out]; exact hk) (by omega), Option.getD_some] at hc1
          have hgB : w.heap.size ≤ g := by obtain ⟨g', e, h, -⟩ := ho.addr (by omega); injection e with e; injection e with e; subst e; exact h
          obtain ⟨u, hu⟩ : ∃ u, u = S[k]?.getD 0 := ⟨_, rfl⟩
          rw [← hu] at hc1
          have HU := Lib.hid hu
          have hk1 : (0 : Int) < (k : Int) + 1 := by omega
          clear hgt hB hfin ho hu
          by_cases hxu : x < u
          · go_wp2
            go_roundw
            case rel => exact ⟨k, u, by omega, by simp, by
              intro z hz
              have hkS : k < S.length := by rw [HSL.out]; omega
              rw [List.drop_eq_getElem_cons hkS] at hz
              rcases List.mem_cons.1 hz with rfl | hz
              · have h2 := HU.out; simp [hkS] at h2; rw [← h2]; exact hxu
              · exact HG.out z hz, by
              have h1 := HST.out u
              rw [← List.map_set, rowZ_set _ _ _ _ _ (by rw [HSL.out]; exact hk), HU.out, rowZ_down _ _ _ (by rw [HSL.out]; omega)] at h1
              rw [HU.out]
              exact h1, HBw.out.setCell (p := ⟨g, k + 1, none⟩) hgB _⟩
            case measure => simp [intOf]
          · go_wp2
            go_roundw
            case rel => exact HF.out (fun i hi => by obtain rfl : i = k := by omega
                                                     rw [← HU.out]; omega) _ (by have h1 := HST.out x; rw [← List.map_set, rowZ_set _ _ _ _ _ (by rw [HSL.out]; exact hk)] at h1; exact h1) (HBw.out.setCell (p := ⟨g, k + 1, none⟩) hgB _)
            case measure => simp [intOf]; omega
    · have hSZ : S = sortZ zs := sortZ_of (by have := hS; rwa [List.take_of_length_le (by have := HZ.out; omega)] at this) hle
      have HR : Hid (RetInts w (sortZ zs) (.returned (.slice a' Z c')) wo) := Lib.hid (by
        refine ⟨a', c', by rw [sortZ_length, ← HZ.out], ?_, hB⟩
        rw [List.drop_eq_nil_of_le (by have := HZ.out; omega), List.append_nil, hSZ] at ho
        unfold OwnI
        rw [sortZ_length, ← HZ.out]
        exact ho)
      clear hS hle ho hB
      go_wp2
      go_ret
      exact HR.out

end Go.Proofs.Ytkmaebkfmljiiaa

/- It is proved what FamilyCommon of the program and of the model return; conditions: those of each statement. -/
namespace Go.Proofs.Ytkmaebkfmljiiaa
open Go.RowKit Go.Shelf

attribute [local go_sem] Oper.semAt_some

theorem full_any (m : Int) (a : Option Addr) (n cap : Nat) (w : World) (h1 : 1 ≤ m) (h2 : m ≤ 6) :
    Calls Try.prog 56 #[.agg #[.int .i64 m, .slice a n cap]] w fun e w' => e = .returned (.int .i64 (fullI m)) ∧ w' = w.alloc (.cells #[.int .i64 m, .slice a n cap] 25) := by
  rcases m16 h1 h2 with rfl | rfl | rfl | rfl | rfl | rfl
  all_goals
    go_enter Try.func56, Try.ntmps56
    go_wp2
    go_ret
    exact ⟨rfl, rfl⟩

end Go.Proofs.Ytkmaebkfmljiiaa

/- It is proved what the method mapped returns, by which closure it may be called; conditions: those of the statement. -/
namespace Go.Proofs.Ytkmaebkfmljiiaa
open Go.RowKit Go.Shelf

attribute [local go_sem] Oper.semAt_some

set_option maxRecDepth 100000 in
set_option maxHeartbeats 4000000 in
theorem mapped70 (m : Int) (a : Option Addr) (c : Nat) (zs : List Int) (X : Nat) (f : Int → Int) (w : World) (ha : Ints w w.heap.size a zs) (hx : zs.length ≤ 1048576)
    (hK : ∀ z W, Below w.heap.size w W → Calls Try.prog 55 #[.int .i64 z, .pointer (some ⟨X, 0, none⟩)] W fun e W' => e = .returned (.int .i64 (f z)) ∧ Below W.heap.size W W') :
    Calls Try.prog 54 #[.agg #[.int .i64 m, .slice a zs.length c], .func (.func 55) #[] #[.pointer (some ⟨X, 0, none⟩)]] w (RetFam w m (zs.map f)) := by
  obtain ⟨i0, hi0, hz0, hz1, hz2⟩ := info_parts Try.info3
  have HI := Lib.hid ha
  have HK := Lib.hid hK
  clear ha hK
  have bR3 := Lib.hid (below3 w (.cells #[.int .i64 m, .slice a zs.length c] 25) (.cells #[.func (.func 55) #[] #[.pointer (some ⟨X, 0, none⟩)]] 65) (.cells #[.int .i64 0, .slice none 0 0] 25))
  refine (callsIn_wide (n := 6)).1 ?_
  refine callsIn_of_wp_marks Try.func54 rfl trivial ?_ rfl
  simp only [Try.ntmps54, List.size_toArray, List.length_cons, List.length_nil, Nat.reduceAdd, Nat.reduceSub, Array.replicate_succ, Array.replicate_zero, List.push_toArray, List.append_toArray, List.nil_append, List.cons_append]
  gi_wp2_with (gi_at_make; refine mark_make ?_)
  refine unmark_make ?_
  refine wpListIn_make_own _ rfl _ _ 23 rfl (w.heap.size + 1 + 1 + 1) 3 i0 (.int .i64 0) 1 Try.underlying23 hi0 hz0 hz1 .i64 .i64 _ zs.length rfl rfl rfl (by rw [hz2]; omega) (by simp only [maxLen]; omega) (by simp) ?_
  intro w1 hown hg
  have q0 := made_0 hg
  have q1 := made_1 hg
  have q2 := made_2 hg
  have y0 := blk_cell (w := w1.alloc (.cells #[.slice (some ⟨w.heap.size + 1 + 1 + 1, 0, none⟩) 0 zs.length] 23)) ((alloc_old _ _ _ (lt_of_some q0)).trans q0) 0
  have y1 := blk_cell (w := w1.alloc (.cells #[.slice (some ⟨w.heap.size + 1 + 1 + 1, 0, none⟩) 0 zs.length] 23)) ((alloc_old _ _ _ (lt_of_some q0)).trans q0) 1
  have hsz : w.heap.size + 1 + 1 + 1 ≤ w1.heap.size := by have := hg.size; simp at this; omega
  have HQ0 := Lib.hid q0
  have HQ1 := Lib.hid q1
  have HQ2 := Lib.hid q2
  have hGl : w.heap.size + 1 + 1 + 1 < w1.heap.size := by have := (World.ownsRow.lt hown _ rfl).2; simpa using this
  have HO := Lib.hid hown
  have HG := Lib.hid (bR3.out.trans (below_made hg))
  clear q0 q1 q2 hown hg
  simp only [cell2_0, cell2_1] at y0 y1
  gi_wp2_with (refine ⟨trivial, ?_⟩; gi_at_call 29; refine (callsIn_wide.2 (clubs_any _ _ _ _ _)).mono ?_; rintro e w' ⟨rfl, rfl⟩)
  have hle : w.heap.size ≤ w1.heap.size := by omega
  have h16 : 1 ≤ 6 := by omega
  have hmx : Try.prog.follows .mixedOrders = true := by kernel_rfl
  have bA := Boxed.new w1 23 (.slice (some ⟨w.heap.size + 1 + 1 + 1, 0, none⟩) 0 zs.length)
  have HBB : Hid (Below w.heap.size w ((w1.alloc (.cells #[.slice (some ⟨w.heap.size + 1 + 1 + 1, 0, none⟩) 0 zs.length] 23)).alloc (.cells #[.int .i64 m, .slice a zs.length c] 25))) := Lib.hid (HG.out.trans ((below2 w1 _ _).mono (by omega)))
  have hst := clubs_stops (6 - 1) (by omega) (w1.heap.size + 1) w.heap.size a c zs hx ((w1.alloc (.cells #[.slice (some ⟨w.heap.size + 1 + 1 + 1, 0, none⟩) 0 zs.length] 23)).alloc (.cells #[.int .i64 m, .slice a zs.length c] 25)) (by simp) (by simp; omega)
    (by have := blk_cell (alloc_new (w1.alloc (.cells #[.slice (some ⟨w.heap.size + 1 + 1 + 1, 0, none⟩) 0 zs.length] 23)) (.cells #[.int .i64 m, .slice a zs.length c] 25)) 1; simp) (HI.out.below HBB.out)
  refine wpIn_rangeFunc_ownG rfl h16 (gf := 51) (lb := #[.pointer (some ⟨w1.heap.size + 1, 0, none⟩)]) rfl trivial (enters_of Try.func51 (by kernel_rfl) rfl)
    hst belowK_t (belowK_b (by simp; omega)) (Below.refl _ _) (fun _ => rfl)
    (fun pre W => ((∃ v, Boxed W w1.heap.size 23 v ∧ W.ownsRow w.heap.size 3 1 v pre.length ((pre.map fun p => f p.2).map (Value.int .i64)) ∧ v = .slice (some ⟨w.heap.size + 1 + 1 + 1, 0, none⟩) pre.length zs.length) ∧ (HasBlk W w.heap.size #[.int .i64 m, .slice a zs.length c] 25 ∧ HasBlk W (w.heap.size + 1) #[.func (.func 55) #[] #[.pointer (some ⟨X, 0, none⟩)]] 65 ∧ HasBlk W (w.heap.size + 1 + 1) #[.int .i64 0, .slice none 0 0] 25)) ∧ Below w.heap.size w W)
    (fun _ _ _ => False)
    (OwnFrom.and (OwnFrom.and (Own.from (holdsRow_own w.heap.size w1.heap.size 23 3 1 (fun (pre : List (Nat × Int)) => pre.length) (fun (pre : List (Nat × Int)) => (pre.map fun p => f p.2).map (Value.int .i64)) (fun (pre : List (Nat × Int)) v => v = .slice (some ⟨w.heap.size + 1 + 1 + 1, 0, none⟩) pre.length zs.length)) _) (OwnFrom.and (Own.from (hasBlk_own _ _ _) _) (OwnFrom.and (Own.from (hasBlk_own _ _ _) _) (Own.from (hasBlk_own _ _ _) _)))) (ownFrom_below (Nat.le_refl _) (by simp; omega)))
    (fun _ _ _ _ _ hs _ _ => hs)
    ⟨⟨⟨_, bA.alloc _, by have := ownsRow_base HO.out (B := w.heap.size) (by omega); simpa using (this.alloc _).alloc _, rfl⟩, (HasBlk.alloc HQ0.out _).alloc _, (HasBlk.alloc HQ1.out _).alloc _, (HasBlk.alloc HQ2.out _).alloc _⟩, HBB.out⟩
    (fun x => { tmps := #[.agg #[.int .i64 m, .slice a zs.length c], .func (.func 55) #[] #[.pointer (some ⟨X, 0, none⟩)], .pointer (some ⟨w.heap.size, 0, none⟩), .pointer (some ⟨w.heap.size + 1, 0, none⟩), .pointer (some ⟨w.heap.size + 1 + 1, 0, none⟩), .pointer (some ⟨w1.heap.size, 0, none⟩), undef, .int .i64 x.2, .pointer (some ⟨w.heap.size, 1, none⟩), .slice a zs.length c, .int .i64 zs.length, .slice (some ⟨w.heap.size + 1 + 1 + 1, 0, none⟩) 0 zs.length, .agg #[.int .i64 m, .slice a zs.length c], .func (.func 51) #[] #[.pointer (some ⟨w1.heap.size + 1, 0, none⟩)], .int .i64 (x.1 : Int), .int .i64 x.2, undef, undef, undef, undef, undef, undef, undef, undef, undef, undef], defers := [] }) ?assign ?body ?done ?stop
  case assign =>
    intro l x W K hK
    gi_wp2
    exact hK
  case body =>
    rintro l pre x W ⟨⟨⟨v, hv, hrow, rfl⟩, q0, q1, q2⟩, hB⟩ hlt
    have hc := hv.cell
    have hd := blk_cell q1 0
    simp only [cell1_0] at hd
    have hBd := Lib.hid hB.drew
    have HV := Lib.hid hv
    have HR := Lib.hid hrow
    have hWs : w.heap.size ≤ W.heap.size := hB.size
    have HB := Lib.hid hB
    have HQ0' := Lib.hid q0
    have HQ1' := Lib.hid q1
    have HQ2' := Lib.hid q2
    clear hv hrow hB q0 q1 q2
    have hGlt : w.heap.size + 1 + 1 + 1 < w1.heap.size := hGl
    have hMB : w1.heap.size < W.drew.heap.size := HV.out.lt
    gi_wp2
    gi_region_with_o (refine ⟨trivial, ?_⟩; gi_at_call 55; refine (CallsIn.inRound l (callsIn_wide.2 (HK.out _ _ hBd.out))).mono ?_; rintro e w2 ⟨rfl, hb2⟩; obtain ⟨u, hcu, hfu⟩ := spare_cell (own_after HR.out hb2) pre.length hlt; have hlt2 := lt_of_cell hcu; have hcu' := (World.cell?_alloc_lt w2 (.cells #[.int .i64 (f x.2)] 3) _ hlt2).trans hcu; have hc2 := (hb2.cell (p := ⟨w1.heap.size, 0, none⟩) hMB).trans hc; have hf2 := (hb2.frozen (p := ⟨w1.heap.size, 0, none⟩) hMB).trans HV.out.frozen; have hMB2 := lt_of_cell hc2; have hc3 := after_spare (y := .int .i64 (f x.2)) (k := pre.length) (o := .cells #[.int .i64 (f x.2)] 3) hGlt hMB2 hc2; have hf3 := after_spare_f (y := .int .i64 (f x.2)) (k := pre.length) (o := .cells #[.int .i64 (f x.2)] 3) hGlt hMB2 hf2)
    all_goals exact mapped_end (x := x) (f := f) hWs hGlt (by omega) hlt hb2 HV.out HR.out HB.out HQ0'.out (by omega) HQ1'.out (by omega) HQ2'.out (by omega)
  case done =>
    rintro D ys W hD rfl ⟨⟨⟨v, hv, hrow, rfl⟩, q0, q1, q2⟩, hB⟩ hK
    rw [pairs_length] at hv hrow
    have hmap : (pairs zs zs.length).map (fun p => f p.2) = zs.map f := by
      rw [show (fun p : Nat × Int => f p.2) = f ∘ (fun p => p.2) from rfl, ← List.map_map, pairs_all]
    rw [hmap] at hrow
    have hc := hv.cell
    have d0 := blk_cell q0 0
    have d2 := blk_cell q2 0
    have d3 := blk_cell q2 1
    have f2 := blk_frozen q2 0
    have f3 := blk_frozen q2 1
    simp only [cell2_0, cell2_1] at d0 d2 d3
    have HR := Lib.hid hrow
    have HB := Lib.hid hB
    have HQ2' := Lib.hid q2
    clear hv hrow hB q0 q1 q2 hmap
    gi_wp2
    have hK' := (KeepsOthers.setCell (W.setCell ⟨w.heap.size + 1 + 1, 0, none⟩ (.int .i64 m)) ⟨w.heap.size + 1 + 1, 1, none⟩ (.slice (some ⟨w.heap.size + 1 + 1 + 1, 0, none⟩) zs.length zs.length)).same D _ ((KeepsOthers.setCell W ⟨w.heap.size + 1 + 1, 0, none⟩ (.int .i64 m)).same D _ hK rfl) rfl
    refine ⟨by simp, .inl ⟨_, _, rfl, run_takeDeferred hK', ?_⟩⟩
    have e0 := cell_kept (World.cell?_setCell_other (W.setCell ⟨w.heap.size + 1 + 1, 0, none⟩ (.int .i64 m)) ⟨w.heap.size + 1 + 1, 1, none⟩ ⟨w.heap.size + 1 + 1, 0, none⟩ (.slice (some ⟨w.heap.size + 1 + 1 + 1, 0, none⟩) zs.length zs.length) (by simp) |>.trans (World.cell?_setCell_same' W ⟨w.heap.size + 1 + 1, 0, none⟩ (.int .i64 m) (by rw [d2]; rfl))) (grownBy_putObj' _ D (.deferred none)) (fun r e => by cases e; exact ⟨_, hK', rfl⟩)
    have e1 := cell_kept (World.cell?_setCell_same' (W.setCell ⟨w.heap.size + 1 + 1, 0, none⟩ (.int .i64 m)) ⟨w.heap.size + 1 + 1, 1, none⟩ (.slice (some ⟨w.heap.size + 1 + 1 + 1, 0, none⟩) zs.length zs.length) (by rw [World.cell?_setCell_other _ _ _ _ (by simp), d3]; rfl)) (grownBy_putObj' _ D (.deferred none)) (fun r e => by cases e; exact ⟨_, hK', rfl⟩)
    refine ⟨.agg #[.int .i64 m, .slice (some ⟨w.heap.size + 1 + 1 + 1, 0, none⟩) zs.length zs.length], by simp [results, Try.f54, go_sem, e0, e1], _, _, by rw [List.length_map], ?_, ?_⟩
    · rw [List.length_map]
      have h1 := ownsRow_setCell_ne HR.out (p := ⟨w.heap.size + 1 + 1, 0, none⟩) (by simp [Value.ownBlock]) (.int .i64 m)
      have h2 := ownsRow_setCell_ne h1 (p := ⟨w.heap.size + 1 + 1, 1, none⟩) (by simp [Value.ownBlock]) (.slice (some ⟨w.heap.size + 1 + 1 + 1, 0, none⟩) zs.length zs.length)
      unfold OwnI
      rw [List.length_map]
      exact ownsRow_putObj h2 _ hK' rfl
    · exact ((HB.out.setCell (p := ⟨w.heap.size + 1 + 1, 0, none⟩) (by simp; omega) _).setCell (p := ⟨w.heap.size + 1 + 1, 1, none⟩) (by simp; omega) _).trans (belowK_b (w := w) (Nat.le_refl _) _ D _ _ (by simp at hD; omega) hK' rfl rfl)
  case stop =>
    rintro D c pre W _ _ h _
    exact h.elim

end Go.Proofs.Ytkmaebkfmljiiaa

/- It is proved what the FamilyOther of the model returns; conditions: those of each statement. -/
namespace Go.Proofs.Ytkmaebkfmljiiaa
open Go.RowKit

theorem other_keep1 {w1 w3 : World} {n H b o : Nat} {u0 u1 u2 : Value} {ob : Obj} (h3 : n ≤ w3.heap.size) (h0 : H < n) (h1 : b < n) (hs : w1.heap.size ≤ n)
    (c0 : w3.cell? ⟨H, 0, none⟩ = some u0) (c1 : w3.cell? ⟨H, 1, none⟩ = some u1) (c2 : w3.cell? ⟨b, o, none⟩ = some u2) (hb : Below w1.heap.size w1 w3) :
    (w3.alloc ob).cell? ⟨H, 0, none⟩ = some u0 ∧ (w3.alloc ob).cell? ⟨H, 1, none⟩ = some u1 ∧ (w3.alloc ob).cell? ⟨b, o, none⟩ = some u2 ∧ Below w1.heap.size w1 (w3.alloc ob) :=
  ⟨(World.cell?_alloc_lt _ _ _ (by show H < _; omega)).trans c0, (World.cell?_alloc_lt _ _ _ (by show H < _; omega)).trans c1, (World.cell?_alloc_lt _ _ _ (by show b < _; omega)).trans c2, hb.alloc (by omega) _⟩

theorem other_keep2 {w1 w3 w4 : World} {n H b o : Nat} {u0 u1 u2 v : Value} {ob : Obj} (h3 : n ≤ w3.heap.size) (h0 : H < n) (h1 : b < n) (hs : w1.heap.size ≤ n)
    (c0 : w3.cell? ⟨H, 0, none⟩ = some u0) (c1 : w3.cell? ⟨H, 1, none⟩ = some u1) (c2 : w3.cell? ⟨b, o, none⟩ = some u2) (hb : Below w1.heap.size w1 w3)
    (hg : (w3.alloc ob).grownBy w4 v.ownBlock) {wr : World} (hl : ∀ k, v.ownBlock = some k → w1.heap.size ≤ k ∧ k < wr.heap.size) (hH : H < w1.heap.size) (hbb : b < w1.heap.size) :
    w4.cell? ⟨H, 0, none⟩ = some u0 ∧ w4.cell? ⟨H, 1, none⟩ = some u1 ∧ w4.cell? ⟨b, o, none⟩ = some u2 ∧ Below w1.heap.size w1 w4 := by
  have hB : Below w1.heap.size w1 w4 := (hb.alloc (by omega) ob).grown hg (by simp; omega) (fun k e => (hl k e).1)
  obtain ⟨d0, d1, d2, d3⟩ := other_keep1 (ob := ob) h3 h0 h1 hs c0 c1 c2 hb
  have far : ∀ g o, g < w1.heap.size → w4.cell? ⟨g, o, none⟩ = (w3.alloc ob).cell? ⟨g, o, none⟩ := fun g o hg' =>
    World.cell?_of_block (a := ⟨g, o, none⟩) (hg.block g (by simp; omega) (fun e => by have := (hl g e.symm).1; omega))
  exact ⟨(far _ _ hH).trans d0, (far _ _ hH).trans d1, (far _ _ hbb).trans d2, hB⟩

set_option maxRecDepth 100000 in
set_option maxHeartbeats 1600000 in
theorem specOther_no (m : Int) (a : Option Addr) (c : Nat) (zs : List Int) (w : World) (ha : Ints w w.heap.size a zs) (hx : zs.length ≤ 1048576) (hf : famIn m zs = false) :
    Calls Try.prog 26 #[.agg #[.int .i64 m, .slice a zs.length c]] w (RetFB w 0 [] false) := by
  have HA := Lib.hid ((ha.below (below2 w (.cells #[.int .i64 m, .slice a zs.length c] 25) (.cells #[.int .i64 0, .slice none 0 0] 25))).mono (B' := ((w.alloc (.cells #[.int .i64 m, .slice a zs.length c] 25)).alloc (.cells #[.int .i64 0, .slice none 0 0] 25)).heap.size) (by simp; omega))
  have HF := Lib.hid hf
  clear hf ha
  go_enter Try.func26, Try.ntmps26
  go_wp2_with fail
  refine (specFamilyIn_any _ _ _ zs _ HA.out hx).mono ?_
  rintro e w1 ⟨rfl, hb⟩
  rw [HF.out]
  have b1 : w1.heap[w.heap.size + 1]? = some (.cells #[.int .i64 0, .slice none 0 0] 25 (0, 0)) := (hb.block _ (by simp)).trans (alloc2_1 w _ _)
  have HB := Lib.hid ((below2 w _ _).trans (hb.mono (by simp; omega)))
  have z1 : w.heap.size + 1 < w1.heap.size := by have := hb.size; simp at this; omega
  clear hb
  go_wp2_with fail
  refine (l1None_any _).mono ?_
  rintro e w2 ⟨a2, c2, rfl, ho2, hb⟩
  have b2 := (hb.block _ z1).trans b1
  have d0 := blk_cell b2 0
  have d1 := blk_cell b2 1
  have f0 := blk_frozen b2 0
  have f1 := blk_frozen b2 1
  simp only [Array.getElem?_eq_getElem, List.size_toArray, List.length_cons, List.length_nil, Nat.reduceAdd, Nat.reduceLT, List.getElem_toArray, List.getElem_cons_zero, List.getElem_cons_succ] at d0 d1
  have z2 : w.heap.size + 1 < w2.heap.size := by have := hb.size; omega
  have HB2 := Lib.hid (HB.out.trans (hb.mono (by omega)))
  have HO := Lib.hid ho2
  clear hb b1 b2 ho2
  go_wp2
  refine bodyPost_ret (v := .tuple #[.agg #[.int .i64 0, .slice a2 0 c2], .bool false]) (by simp [results, Try.results26, go_sem, d0, d1]) rfl ?_
  refine ⟨a2, c2, rfl, ?_, ?_⟩
  · exact own_mono (ownsRow_setCell_below (ownsRow_setCell_below HO.out (by simp; omega) _) (by simp; omega) _) (by omega)
  · exact (HB2.out.setCell (p := ⟨w.heap.size + 1, 0, none⟩) (by simp) _).setCell (p := ⟨w.heap.size + 1, 1, none⟩) (by simp) _

set_option maxRecDepth 100000 in
set_option maxHeartbeats 1600000 in
theorem specOther_yes (m : Int) (a : Option Addr) (c : Nat) (zs : List Int) (w : World) (ha : Ints w w.heap.size a zs) (hx : zs.length ≤ 1048576) (hf : famIn m zs = true) :
    Calls Try.prog 26 #[.agg #[.int .i64 m, .slice a zs.length c]] w (RetFB w m (zs.map fun z => bits .andNot .i64 (fullI m) z) true) := by
  have HA := Lib.hid ((ha.below (below2 w (.cells #[.int .i64 m, .slice a zs.length c] 25) (.cells #[.int .i64 0, .slice none 0 0] 25))).mono (B' := ((w.alloc (.cells #[.int .i64 m, .slice a zs.length c] 25)).alloc (.cells #[.int .i64 0, .slice none 0 0] 25)).heap.size) (by simp; omega))
  have HF := Lib.hid hf
  obtain ⟨hm1, hm6, -, -⟩ := famIn_out hf
  obtain ⟨i0, hi0, hz0, hz1, hz2⟩ := info_parts Try.info3
  have ha' := Lib.hid ha
  clear hf ha
  go_enter Try.func26, Try.ntmps26
  go_wp2_with fail
  refine (specFamilyIn_any _ _ _ zs _ HA.out hx).mono ?_
  rintro e w1 ⟨rfl, hb⟩
  rw [HF.out]
  have b0 : w1.heap[w.heap.size]? = some (.cells #[.int .i64 m, .slice a zs.length c] 25 (0, 0)) := (hb.block _ (by simp; omega)).trans (alloc2_0 w _ _)
  have b1 : w1.heap[w.heap.size + 1]? = some (.cells #[.int .i64 0, .slice none 0 0] 25 (0, 0)) := (hb.block _ (by simp)).trans (alloc2_1 w _ _)
  have HB := Lib.hid ((below2 w _ _).trans (hb.mono (by simp; omega)))
  have z1 : w.heap.size + 2 ≤ w1.heap.size := by have := hb.size; simp at this; omega
  have x0 := blk_cell b0 0
  have x1 := blk_cell b0 1
  simp only [Array.getElem?_eq_getElem, List.size_toArray, List.length_cons, List.length_nil, Nat.reduceAdd, Nat.reduceLT, List.getElem_toArray, List.getElem_cons_zero, List.getElem_cons_succ] at x0 x1
  clear hb
  go_wp2
  go_loopw [4, 5] (fun v i wr => ∃ (k : Nat) (a' : Option Addr) (c' : Nat), k ≤ zs.length ∧ i = .int .i64 k ∧ v = .slice a' k c' ∧ wr.ownsRow w1.heap.size 3 1 (.slice a' k c') k (((zs.take k).map fun z => bits .andNot .i64 (fullI m) z).map (Value.int .i64)) ∧ Below w1.heap.size w1 wr) (fun _ i _ => zs.length - (intOf i).toNat)
  case atStart => exact ⟨0, _, _, Nat.zero_le _, rfl, rfl, own_empty (alloc_new w1 _) (Nat.le_refl _), below1 _ _⟩
  case round =>
    obtain ⟨k, a', c', hk, rfl, rfl, ho, hb⟩ := hrel
    have y0 := (hb.cell (p := ⟨w.heap.size, 0, none⟩) (by simp; omega)).trans x0
    have y1 := (hb.cell (p := ⟨w.heap.size, 1, none⟩) (by simp; omega)).trans x1
    by_cases hlt : k < zs.length
    · obtain ⟨b1, o1, rfl, hb1, hc1⟩ := (ha'.out.below HB.out).at_ hlt
      have hc2 := (hb.cell (p := ⟨b1, o1 + k, none⟩) (by simp; omega)).trans hc1
      have hsz := hb.size
      have hk0 : (0 : Int) ≤ (k : Int) := by omega
      have hk1 : (k : Int) < (zs.length : Int) := by omega
      have HBr := Lib.hid hb
      have HOr := Lib.hid ho
      have hlr := (World.ownsRow.lt ho)
      have HLR := Lib.hid hlr
      clear hb ho hlr hc1
      have hs0 : w.heap.size < wr.heap.size := by omega
      have hs1 : b1 < wr.heap.size := by omega
      have hsb : w1.heap.size ≤ wr.heap.size := hsz
      have hb1' : b1 < w1.heap.size := by omega
      go_wp2_with fail
      go_region_held3 (fun w' => w'.cell? ⟨w.heap.size, 0, none⟩ = some (.int .i64 m) ∧ w'.cell? ⟨w.heap.size, 1, none⟩ = some (.slice (some ⟨b1, o1, none⟩) zs.length c) ∧ w'.cell? ⟨b1, o1 + k, none⟩ = some (.int .i64 (zs[k]?.getD 0)) ∧ Below w1.heap.size w1 w')
        (first
          | exact ⟨y0, y1, hc2, HBr.out.drew⟩
          | exact ⟨(hb3.cell (p := ⟨w.heap.size, 0, none⟩) hs0).trans y0, (hb3.cell (p := ⟨w.heap.size, 1, none⟩) hs0).trans y1, (hb3.cell (p := ⟨b1, o1 + k, none⟩) hs1).trans hc2, HBr.out.drew.trans (hb3.mono hsb)⟩
          | exact other_keep1 (show wr.heap.size ≤ w3.heap.size from hb3.size) hs0 hs1 hsb ((hb3.cell (p := ⟨w.heap.size, 0, none⟩) hs0).trans y0) ((hb3.cell (p := ⟨w.heap.size, 1, none⟩) hs0).trans y1) ((hb3.cell (p := ⟨b1, o1 + k, none⟩) hs1).trans hc2) (HBr.out.drew.trans (hb3.mono hsb))
          | exact other_keep2 (show wr.heap.size ≤ w3.heap.size from hb3.size) hs0 hs1 hsb ((hb3.cell (p := ⟨w.heap.size, 0, none⟩) hs0).trans y0) ((hb3.cell (p := ⟨w.heap.size, 1, none⟩) hs0).trans y1) ((hb3.cell (p := ⟨b1, o1 + k, none⟩) hs1).trans hc2) (HBr.out.drew.trans (hb3.mono hsb)) hgrow HLR.out (show w.heap.size < w1.heap.size by omega) hb1')
        (first
          | (go_at_call 47; refine (l1All_b _ _ _ _ _ hm1 hm6).mono ?_; rintro e w3 ⟨rfl, hb3⟩)
          | (refine step_append_lies _ (by rfl) _ _ _ (by rfl) w1.heap.size 3 i0 _ 1 8 Try.underlying23 hi0 hz0 hz1 hz2 rfl (by omega) (.slice a' k c') k _ (by rfl) ((own_after HOr.out hb3).alloc _) ⟨w3.heap.size, 0, none⟩ 1 1 [.int .i64 (bits .andNot .i64 (fullI m) zs[k])] (by rfl) (by rfl) (cell_one_new _ _ _) (by simp [Value.oneCell']) (by omega) (by simp only [maxLen]; omega) (by omega) (by have := hb3.size; simp at this ⊢; omega) (w3.heap.size + 1) (by simp) ?_; intro gg cp w4 hown hgrow hat hltg))
      rename_i hHeld
      have HW := Lib.hid hHeld.2.2.2
      have HN := Lib.hid hown
      clear hHeld hown hgrow hat hb3
      go_wp2
      go_roundw
      case rel => exact ⟨k + 1, _, _, by omega, by go_num, rfl, by have h := HN.out; rw [map_at _ zs k hlt, List.map_append]; simpa [hlt] using h, HW.out⟩
      case measure => simp [intOf]; omega
    · obtain rfl : k = zs.length := by omega
      rw [List.take_length] at ho
      have HO : Hid (OwnI wr w1.heap.size (.slice a' zs.length c') (zs.map fun z => bits .andNot .i64 (fullI m) z)) := Lib.hid (by unfold OwnI; rw [List.length_map]; exact ho)
      have HW := Lib.hid hb
      have b1' := (hb.block _ (by omega)).trans b1
      have hsz := hb.size
      clear ho hb b0 b1
      go_wp2_with fail
      refine (l1With_any _ _ _ _ _ _ _ _).mono ?_
      rintro e w4 ⟨rfl, hb4⟩
      have b2 := (hb4.block _ (by omega)).trans b1'
      have d0 := blk_cell b2 0
      have d1 := blk_cell b2 1
      have f0 := blk_frozen b2 0
      have f1 := blk_frozen b2 1
      simp only [Array.getElem?_eq_getElem, List.size_toArray, List.length_cons, List.length_nil, Nat.reduceAdd, Nat.reduceLT, List.getElem_toArray, List.getElem_cons_zero, List.getElem_cons_succ] at d0 d1
      have z4 : w.heap.size + 2 ≤ w4.heap.size := by have := hb4.size; omega
      have HO4 := Lib.hid (own_below HO.out hb4 (Nat.le_refl _))
      have HB4 := Lib.hid (HB.out.trans ((HW.out.mono (by omega)).trans (hb4.mono (by omega))))
      clear hb4 b1' b2
      go_wp2
      refine bodyPost_ret (v := .tuple #[.agg #[.int .i64 m, .slice a' zs.length c'], .bool true]) (by simp [results, Try.results26, go_sem, d0, d1]) rfl ?_
      refine ⟨a', c', by rw [List.length_map], ?_, ?_⟩
      · rw [List.length_map]
        exact own_mono (ownsRow_setCell_below (ownsRow_setCell_below HO4.out (by simp; omega) _) (by simp; omega) _) (by omega)
      · exact (HB4.out.setCell (p := ⟨w.heap.size + 1, 0, none⟩) (by simp) _).setCell (p := ⟨w.heap.size + 1, 1, none⟩) (by simp) _

end Go.Proofs.Ytkmaebkfmljiiaa
