/- It is proved what l2Sorted returns; conditions: those of each statement. -/
import Derived.RowKit
import Derived.Laws.CopyRow
import Derived.Lib.SlBuf
import Derived.RangeFuncNested
import Derived.RangeFuncBound
import Derived.RangeFuncCalls
import Derived.RangeFuncLeaves
import Derived.RangeFuncBox
import Derived.RangeFuncWrites
import Derived.Test.YtjclfpcnfmpjdaaDoorRows
import Derived.WalkKit
import Derived.WalkSpells
import Derived.ProofKit
import Derived.OpenShut
import Derived.ShutString
import Derived.ChangeOld
import Derived.Below
import Derived.Deep.RegionHeld3
import Derived.Deep.QuietTactic
import Derived.BigQuiet
import Derived.Lib.Hide
import Derived.Lib.SmallJoins
import Derived.Outline
import Derived.Laws.MakeOwn
import Derived.Laws.OwnMore
import Derived.IntWalk
import Derived.Lib.AppendZeros
import Derived.Maps.AppendAt
import Derived.Deep.AppendLies
import Derived.OwnWalk
import Derived.Lib.SlicesCompact
import Derived.Lib.OwnBridge
import Derived.Shelf.Sort.Plain
import Derived.Shelf.Slices.In.SortNone
import Derived.Shelf.Slices.CompactI
import Derived.Ground.Names2Prog
import Derived.Shelf.Abstract
import Derived.Shelf.RegionOpen
import Derived.OwnWalkIn
import Derived.TacticsInMore
import Derived.LoopNIn
import Derived.LoopIn
import Derived.StillTail
import Derived.StillTactics
import Derived.OrdersIn
import Derived.TacticsIn
import Derived.Shelf.Spec.TrailingZeros
import Derived.StillTailTactics
import Derived.Test.YtjclfpcnfmpjdaaDoorMpa
import Derived.Test.YtjclfpcnfmpjdaaDoorBa
import Derived.Test.YtjclfpcnfmpjdaaDoorMpb
namespace Go.Proofs.YtjclfpcnfmpjdaaDoor
open Go.RowKit Go.Shelf

/-- A list with y put in at place k. -/
def holeL (R : List Int) (k : Nat) (y : Int) : List Int := R.take k ++ y :: R.drop k

theorem hole_len (R : List Int) (k : Nat) (y : Int) : (holeL R k y).length = R.length + 1 := by simp [holeL]; omega
theorem hole_set (R : List Int) (k : Nat) (y z : Int) (hk : k ≤ R.length) : (holeL R k y).set k z = holeL R k z := by
  unfold holeL
  have hl : (R.take k).length = k := by rw [List.length_take]; omega
  rw [List.set_append_right _ _ (by omega), hl, Nat.sub_self, List.set_cons_zero]

theorem hole_step (R : List Int) (k : Nat) (y : Int) (hk : k + 1 ≤ R.length) : (holeL R (k + 1) y).set (k + 1) (R[k]?.getD 0) = holeL R k (R[k]?.getD 0) := by
  rw [hole_set _ _ _ _ hk]
  unfold holeL
  rw [List.take_succ_eq_append_getElem (by omega), List.append_assoc, List.drop_eq_getElem_cons (i := k) (by omega)]
  simp [show k < R.length by omega]

theorem hole_low (R : List Int) (k : Nat) (y : Int) (j : Nat) (hj : j < k) (hk : k ≤ R.length) : (holeL R k y)[j]?.getD 0 = R[j]?.getD 0 := by
  unfold holeL
  rw [List.getElem?_append_left (by rw [List.length_take]; omega), List.getElem?_take, if_pos hj]

theorem hole_perm (R : List Int) (k : Nat) (y : Int) : (holeL R k y).Perm (y :: R) := by
  unfold holeL
  have h := List.perm_middle (a := y) (l₁ := R.take k) (l₂ := R.drop k)
  rwa [List.take_append_drop] at h

theorem hole_of (Z : List Int) (i : Nat) (hi : i < Z.length) : Z = holeL (Z.take i ++ Z.drop (i + 1)) i (Z[i]?.getD 0) := by
  have hl : (Z.take i).length = i := by rw [List.length_take]; omega
  unfold holeL
  rw [List.take_left' hl, List.drop_left' hl]
  simp only [hi, List.getElem?_eq_getElem, Option.getD_some]
  rw [← List.drop_eq_getElem_cons hi, List.take_append_drop]

def SrtZ (Z : List Int) : Prop := Z.Pairwise (· ≤ ·)
theorem hole_sorted {R : List Int} {x : Int} {i k : Nat} (hk : k ≤ i) (hi : i ≤ R.length) (hS : SrtZ (R.take i)) (h1 : ∀ j, k ≤ j → j < i → x < R[j]?.getD 0) (h2 : k = 0 ∨ R[k - 1]?.getD 0 ≤ x) : SrtZ ((holeL R k x).take (i + 1)) := by
  have e1 : (holeL R k x).take (i + 1) = R.take k ++ x :: (R.drop k).take (i - k) := by
    unfold holeL
    have hl : (R.take k).length = k := by rw [List.length_take]; omega
    rw [List.take_append, hl, List.take_of_length_le (by omega), show i + 1 - k = (i - k) + 1 from by omega, List.take_succ_cons]
  have e2 : R.take i = R.take k ++ (R.drop k).take (i - k) := by
    have h := List.take_append_drop k (R.take i)
    rw [List.take_take, Nat.min_eq_left hk, List.drop_take] at h
    exact h.symm
  unfold SrtZ at hS ⊢
  rw [e1]
  rw [e2] at hS
  obtain ⟨hA, hB, hAB⟩ := List.pairwise_append.1 hS
  have hxB : ∀ b ∈ (R.drop k).take (i - k), x ≤ b := by
    intro b hb
    obtain ⟨j, hj, rfl⟩ := List.getElem_of_mem hb
    rw [List.length_take, List.length_drop] at hj
    have := h1 (k + j) (by omega) (by omega)
    rw [List.getElem_take, List.getElem_drop]
    rw [List.getElem?_eq_getElem (by omega), Option.getD_some] at this
    omega
  have hAx : ∀ a ∈ R.take k, a ≤ x := by
    rcases h2 with rfl | h2
    · simp
    · intro a ha
      obtain ⟨j, hj, rfl⟩ := List.getElem_of_mem ha
      have hjk : j < k := by rw [List.length_take] at hj; omega
      rw [List.getElem?_eq_getElem (by omega), Option.getD_some] at h2
      rw [List.getElem_take]
      rcases Nat.lt_or_ge j (k - 1) with h | h
      · have := (List.pairwise_iff_getElem.1 hA) j (k - 1) hj (by rw [List.length_take]; omega) h
        rw [List.getElem_take, List.getElem_take] at this
        omega
      · have hjj : j = k - 1 := by omega
        subst hjj
        exact h2
  refine List.pairwise_append.2 ⟨hA, List.pairwise_cons.2 ⟨hxB, hB⟩, ?_⟩
  intro a ha b hb
  rcases List.mem_cons.1 hb with rfl | hb
  · exact hAx a ha
  · exact hAB a ha b hb

theorem sorted_eq {Z zs : List Int} (hS : SrtZ Z) (hP : Z.Perm zs) : Z = zs.mergeSort leZ := by
  have h2 : (zs.mergeSort leZ).Pairwise (· ≤ ·) := by
    have := List.pairwise_mergeSort (le := leZ) (by intro a b c h1 h2; simp [leZ] at h1 h2 ⊢; omega) (by intro a b; simp [leZ]; omega) zs
    exact this.imp (by intro a b h; simpa [leZ] using h)
  exact List.Perm.eq_of_pairwise (le := (· ≤ ·)) (fun a b _ _ h h' => Int.le_antisymm h h') hS h2 (hP.trans (List.mergeSort_perm zs leZ).symm)

set_option maxRecDepth 100000 in
set_option maxHeartbeats 4000000 in
theorem l2Sorted_any (a : Option Addr) (c : Nat) (zs : List Int) (w : World) (ha : Ints w w.heap.size a zs) (hx : zs.length ≤ 1048576) :
    Calls Tryd.prog 84 #[.slice a zs.length c] w fun e w' => ∃ a' c', e = .returned (.slice a' zs.length c') ∧ OwnN w' w.heap.size a' zs.length c' (zs.mergeSort leZ) ∧ Below w.heap.size w w' := by
  obtain ⟨n, hn⟩ : ∃ n, n = zs.length := ⟨_, rfl⟩
  have HN := Lib.hid hn
  have hE : OwnI (w.alloc (.cells #[] 3)) w.heap.size (.slice (some ⟨w.heap.size, 0, none⟩) 0 0) [] := own_empty (alloc_new w _) (Nat.le_refl _)
  have hB0 : Below w.heap.size w (w.alloc (.cells #[] 3)) := below1 w (.cells #[] 3)
  obtain ⟨a3, c3, w3, hr3, ho3, hg3⟩ := app_run0n (k := n) hE hB0.size a c zs hn.symm ((ha.below hB0).mono hB0.size) (by omega)
  have hb3 : Below w.heap.size w w3 := hB0.grown hg3 hB0.size (fun g e => (World.ownsRow.lt hE g e).1)
  have HO := Lib.hid (show OwnN w3 w.heap.size a3 n c3 zs from ho3)
  have HB := Lib.hid hb3
  rw [← hn]
  rw [← hn] at hx
  clear ha hE hB0 ho3 hg3 hb3 hn
  go_enter Tryd.func84, Tryd.ntmps84
  go_wp2_with (at_builtin; refine wpList_append_eq _ rfl _ _ 23 23 rfl _ _ rfl rfl hr3 ?_)
  go_loopw [4] (fun i wr => ∃ (k : Nat) (Z : List Int), 1 ≤ k ∧ k ≤ n + 1 ∧ i = .int .i64 (k : Int) ∧ OwnN wr w.heap.size a3 n c3 Z ∧ Z.Perm zs ∧ SrtZ (Z.take k) ∧ Below w.heap.size w wr) (fun i _ => n + 1 - (intOf i).toNat)
  case atStart =>
    refine ⟨1, zs, Nat.le_refl _, by omega, rfl, HO.out, List.Perm.refl _, ?_, HB.out⟩
    cases zs with
    | nil => exact List.Pairwise.nil
    | cons z zs => simp [SrtZ]
  case round =>
    obtain ⟨i, Z, hi1, hi2, rfl, hO, hP, hS, hB⟩ := hrel
    have hZl : Z.length = n := by rw [hP.length_eq, HN.out]
    by_cases hlt : i < n
    · obtain ⟨g, rfl, hgB, hgl⟩ := hO.addr (by omega)
      obtain ⟨x, hxe⟩ : ∃ x, x = Z[i]?.getD 0 := ⟨_, rfl⟩
      obtain ⟨R, hR⟩ : ∃ R, R = Z.take i ++ Z.drop (i + 1) := ⟨_, rfl⟩
      have hZ : Z = holeL R i x := by rw [hR, hxe]; exact hole_of Z i (by omega)
      have hRl : R.length + 1 = n := by rw [← hZl]; conv => rhs; rw [hZ]
                                        rw [hole_len]
      have hRt : R.take i = Z.take i := by rw [hR, List.take_left' (by rw [List.length_take]; omega)]
      have c1 := hO.cell (j := i) hlt
      rw [← hxe] at c1
      have HS := Lib.hid (show SrtZ (R.take i) by rw [hRt]; exact hS)
      have HPR : Hid (∀ k, (holeL R k x).Perm zs) := Lib.hid (fun k => ((hole_perm R k x).trans (hole_perm R i x).symm).trans (by rw [← hZ]; exact hP))
      have HO2 : Hid (OwnN wr w.heap.size (some ⟨g, 0, none⟩) n c3 (holeL R i x)) := Lib.hid (by rw [← hZ]; exact hO)
      have HB2 := Lib.hid hB
      have HRL := Lib.hid hRl
      have hi0 : (0 : Int) ≤ (i : Int) := by omega
      have hin : (i : Int) < (n : Int) := by omega
      clear hO hB hS hP hR hxe hZ hRt hZl
      obtain ⟨wo, hwo⟩ : ∃ wo, wo = wr := ⟨wr, rfl⟩
      subst hwo
      have FIN : ∀ (k : Nat) (y : Int) (W : World), k ≤ i → OwnN W w.heap.size (some ⟨g, 0, none⟩) n c3 (holeL R k y) → OwnN (W.setCell ⟨g, k, none⟩ (.int .i64 x)) w.heap.size (some ⟨g, 0, none⟩) n c3 (holeL R k x) := by
        intro k y W hk h
        have h1 := (World.ownsRow.stored h k (.int .i64 x)).1
        rw [← List.map_set, hole_set _ _ _ _ (by omega)] at h1
        exact h1
      have HFIN := Lib.hid FIN
      clear FIN
      go_wp2
      go_loopw [6] (fun kk wr => ∃ (k : Nat) (y : Int), k ≤ i ∧ kk = .int .i64 (k : Int) ∧ OwnN wr w.heap.size (some ⟨g, 0, none⟩) n c3 (holeL R k y) ∧ (∀ j, k ≤ j → j < i → x < R[j]?.getD 0) ∧ Below w.heap.size w wr) (fun kk _ => (intOf kk).toNat)
      case atStart => exact ⟨i, x, Nat.le_refl _, rfl, HO2.out, fun j h1 h2 => by omega, HB2.out⟩
      case round =>
        obtain ⟨k, y, hk, rfl, hO, hgt, hB⟩ := hrel
        have hrl := HRL.out
        by_cases hk0 : k = 0
        · subst hk0
          have e0 := hO.cell (j := 0) (by omega)
          have f0 := World.ownsRow.frozenAt hO 0
          have hn0 : (0 : Int) < (n : Int) := by omega
          have HN1 := Lib.hid (HFIN.out 0 y wr (Nat.zero_le _) hO)
          have HSD := Lib.hid (hole_sorted (Nat.zero_le _) (by omega) HS.out hgt (.inl rfl))
          have HB := Lib.hid hB
          clear hO hgt hB
          go_wp2
          go_roundw
          case rel => exact ⟨i + 1, holeL R 0 x, by omega, by omega, by go_num, HN1.out, HPR.out 0, HSD.out, HB.out.setCell (p := ⟨g, 0, none⟩) hgB _⟩
          case measure => simp [intOf]; omega
        · obtain ⟨q, rfl⟩ : ∃ q, k = q + 1 := ⟨k - 1, by omega⟩
          obtain ⟨r, hr⟩ : ∃ r, r = R[q]?.getD 0 := ⟨_, rfl⟩
          have e0 := hO.cell (j := q) (by omega)
          rw [hole_low R (q + 1) y q (by omega) (by omega), ← hr] at e0
          have e1 := hO.cell (j := q + 1) (by omega)
          have f1 := World.ownsRow.frozenAt hO (q + 1)
          have hq0 : (0 : Int) ≤ (q : Int) := by omega
          have hq1 : (q : Int) + 1 < (n : Int) := by omega
          have hq2 : (0 : Int) < (q : Int) + 1 := by omega
          have HB := Lib.hid hB
          by_cases hxr : x < r
          · have HST : Hid (OwnN (wr.setCell ⟨g, q + 1, none⟩ (.int .i64 r)) w.heap.size (some ⟨g, 0, none⟩) n c3 (holeL R q r)) := Lib.hid (by
              have h1 := (World.ownsRow.stored hO (q + 1) (.int .i64 r)).1
              rw [← List.map_set, hr, hole_step _ _ _ (by omega), ← hr] at h1
              exact h1)
            have HGT : Hid (∀ j, q ≤ j → j < i → x < R[j]?.getD 0) := Lib.hid (fun j h1 h2 => by
              by_cases e : j = q
              · subst e; rw [← hr]; exact hxr
              · exact hgt j (by omega) h2)
            clear hO hgt hB hr
            go_wp2
            go_roundw
            case rel => exact ⟨q, r, by omega, by go_num, HST.out, HGT.out, HB.out.setCell (p := ⟨g, q + 1, none⟩) hgB _⟩
            case measure => simp [intOf]
          · have HN1 := Lib.hid (HFIN.out (q + 1) y wr hk hO)
            have HSD := Lib.hid (hole_sorted hk (by omega) HS.out hgt (.inr (by rw [Nat.add_sub_cancel, ← hr]; omega)))
            clear hO hgt hB hr
            go_wp2
            go_roundw
            case rel => exact ⟨i + 1, holeL R (q + 1) x, by omega, by omega, by go_num, HN1.out, HPR.out (q + 1), HSD.out, HB.out.setCell (p := ⟨g, q + 1, none⟩) hgB _⟩
            case measure => simp [intOf]; omega
    · rw [List.take_of_length_le (by omega)] at hS
      have HE := Lib.hid (sorted_eq hS hP)
      have HO2 := Lib.hid hO
      have HB2 := Lib.hid hB
      clear hO hP hS hB hZl
      go_wp2
      go_ret
      exact ⟨_, _, rfl, by rw [← HE.out]; exact HO2.out, HB2.out⟩

end Go.Proofs.YtjclfpcnfmpjdaaDoor
