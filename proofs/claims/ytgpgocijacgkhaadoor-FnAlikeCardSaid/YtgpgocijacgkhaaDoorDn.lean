/- It is proved that drawn names are a list of the call's own; conditions: those of each statement. -/
import Derived.Deep.RegionHeld3
import Derived.Test.YtgpgocijacgkhaaDoorRows
import Derived.WalkKit
import Derived.WalkSpells
import Derived.ProofKit
import Derived.OpenShut
import Derived.ShutString
import Derived.ChangeOld
import Derived.Below
import Derived.Deep.QuietTactic
import Derived.BigQuiet
import Derived.Lib.Hide
import Derived.Lib.SmallJoins
import Derived.Outline
import Derived.Laws.MakeOwn
import Derived.Laws.OwnMore
import Derived.IntWalk
import Derived.Deep.RegionLaw
import Derived.Deep.AppendLies
import Derived.Deep.RegionWith
import Derived.Lib.AppendZeros
import Derived.Maps.AppendAt
import Derived.OwnWalk
import Derived.RangeFuncNested
import Derived.RangeFuncBound
import Derived.RangeFuncCalls
import Derived.RangeFuncLeaves
import Derived.RangeFuncBox
import Derived.Shelf.Abstract
import Derived.Shelf.RegionOpen
import Derived.OwnWalkIn
import Derived.TacticsInMore
import Derived.LoopNIn
import Derived.LoopIn
import Derived.Shelf.Spec.TrailingZeros
import Derived.Test.YtgpgocijacgkhaaDoorRaaa
import Derived.Test.YtgpgocijacgkhaaDoorRaab
import Derived.Test.YtgpgocijacgkhaaDoorDb
import Derived.Test.YtgpgocijacgkhaaDoorRaag
import Derived.Test.YtgpgocijacgkhaaDoorRaay
import Derived.Test.YtgpgocijacgkhaaDoorRaah
import Derived.Test.YtgpgocijacgkhaaDoorRabgxFnAlik
import Derived.Test.YtgpgocijacgkhaaDoorRabsxFnAlik
import Derived.Test.YtgpgocijacgkhaaDoorRaac
namespace Go.Proofs.YtgpgocijacgkhaaDoor
open Go.RowKit

/-- A list of so many numbers, of the call's own. -/
def DrawnP (w : World) (R : Nat) (b : Option Addr) (n cap P k : Nat) (e : Ending) (W : World) : Prop :=
  ∃ (a : Option Addr) (zs : List Int) (c : Nat), e = .returned (.slice a zs.length c) ∧ zs.length = k ∧ OwnI W w.heap.size (.slice a zs.length c) zs ∧ DS w R b n cap (P + 100) W

set_option maxRecDepth 100000 in
set_option maxHeartbeats 8000000 in
theorem namesD_any (R : Nat) (b : Option Addr) (n cap P k0 : Nat) (w : World) (hD : DS w R b n cap P w) (hB : Bys w R b n) (hR : R < w.heap.size) (hn : n ≤ 1048576) (hP : P ≤ 100000) (hk1 : 1 ≤ k0) (hk : k0 ≤ 6) :
    Calls Tryd.prog 51 #[.pointer (some ⟨R, 0, none⟩), .int .i64 (k0 : Int)] w (DrawnP w R b n cap P k0) := by
  have HD0 := Lib.hid (hD.alloc (.cells #[] 3) hR)
  have HB := Lib.hid hB
  have HE0 : Hid (OwnN (w.alloc (.cells #[] 3)) w.heap.size (some ⟨w.heap.size, 0, none⟩) 0 0 []) := Lib.hid (own_empty (alloc_new w _) (Nat.le_refl _))
  clear hD hB
  go_enter Tryd.func51, Tryd.ntmps51
  go_wp2
  go_loopw [5, 6] (fun v i wr => ∃ (j g cc : Nat) (L : List Int), j ≤ k0 ∧ i = .int .i64 (j : Int) ∧ v = .slice (some ⟨g, 0, none⟩) j cc ∧ L.length = j ∧ j ≤ cc ∧ OwnN wr w.heap.size (some ⟨g, 0, none⟩) j cc L ∧ DS w R b n cap (P + j) wr) (fun _ i _ => k0 - (intOf i).toNat)
  case atStart => exact ⟨0, w.heap.size, 0, [], Nat.zero_le _, rfl, rfl, rfl, Nat.le_refl _, HE0.out, HD0.out⟩
  case round =>
    obtain ⟨j, g, cc, L, hj, rfl, rfl, hL, hjc, ho, hd⟩ := hrel
    obtain ⟨wo, hwo⟩ : ∃ wo, wo = wr := ⟨wr, rfl⟩
    subst hwo
    have HO0 := Lib.hid ho
    have HD := Lib.hid hd
    have HL := Lib.hid hL
    clear ho hd hL
    by_cases hlt : j < k0
    · go_wp2_with fail
      refine (pickX HD.out HB.out hR hn (by omega) _).mono ?_
      rintro e wk ⟨k, rfl, hk9, D4, g4⟩
      have hkj : k ≤ j := by have := hk9 (by omega); omega
      have HO : Hid (OwnN wk w.heap.size (some ⟨g, 0, none⟩) j cc L) := Lib.hid (own_grown HO0.out g4 hR)
      have HDk := Lib.hid D4
      have hL := HL.out
      have hwk : w.heap.size ≤ wk.heap.size := D4.gr.size
      have HFIN : Hid (∀ (wz : World) (a5 : Option Addr) (c5 : Nat) (L5 : List Int), OwnN wz wk.heap.size a5 (j + 1) c5 L5 → Below wk.heap.size wk wz → ∃ (j' g' cc' : Nat) (L' : List Int), j' ≤ k0 ∧ Value.int .i64 ((j : Int) + 1) = .int .i64 (j' : Int) ∧ Value.slice a5 (j + 1) c5 = .slice (some ⟨g', 0, none⟩) j' cc' ∧ L'.length = j' ∧ j' ≤ cc' ∧ OwnN wz w.heap.size (some ⟨g', 0, none⟩) j' cc' L' ∧ DS w R b n cap (P + j') wz) := Lib.hid (fun wz a5 c5 L5 h5 hb5 => by
        obtain ⟨g', rfl, -, -⟩ := h5.addr (by omega)
        exact ⟨j + 1, g', c5, L5, by omega, by simp, rfl, h5.len, h5.cap_le, h5.base hwk, (HDk.out.step (only_of_below hb5 none) (fun g e => by cases e) hR).mono (by omega)⟩)
      have hkI : (k : Int) ≤ (j : Int) := by omega
      have hkcI : (k : Int) ≤ (cc : Int) := by omega
      have hjcI : (j : Int) ≤ (cc : Int) := by omega
      have hk00 : (0 : Int) ≤ (k : Int) := by omega
      clear D4 g4 HD HO0 hk9
      by_cases hkc : k = cc
      · obtain rfl : j = k := by omega
        subst hkc
        have hI1 := (HO.out.ints).take_ j
        have HI1 : Hid (Ints wk wk.heap.size (some ⟨g, 0, none⟩) (L.take j)) := Lib.hid hI1
        have HI2 : Hid (Ints wk wk.heap.size (some ⟨g, 0, none⟩) (L.drop j)) := Lib.hid (by rw [List.drop_eq_nil_of_le (by omega)]; exact .inl rfl)
        have hl1 : (L.take j).length = j := by rw [List.length_take]; omega
        have hl2 : (L.drop j).length = 0 := by rw [List.length_drop]; omega
        clear hI1
        obtain ⟨a3A, c3A, w3A, a4A, c4A, w4A, a5A, c5A, w5A, hr3A, hr4A, hr5A, ho5A, hb5A⟩ := insA wk (some ⟨g, 0, none⟩) (some ⟨g, 0, none⟩) (L.take j) (L.drop j) (j : Int) j j 0 0 (j + 1) (j + 1) HI1.out HI2.out hl1 hl2 rfl (by omega) (by omega)
        obtain ⟨a3B, c3B, w3B, a4B, c4B, w4B, a5B, c5B, w5B, hr3B, hr4B, hr5B, ho5B, hb5B⟩ := insB wk (some ⟨g, 0, none⟩) (some ⟨g, 0, none⟩) (L.take j) (L.drop j) (j : Int) j j 0 0 (j + 1) (j + 1) HI1.out HI2.out hl1 hl2 rfl (by omega) (by omega)
        obtain ⟨a3C, c3C, w3C, a4C, c4C, w4C, a5C, c5C, w5C, hr3C, hr4C, hr5C, ho5C, hb5C⟩ := insC wk (some ⟨g, 0, none⟩) (some ⟨g, 0, none⟩) (L.take j) (L.drop j) (j : Int) j j 0 0 (j + 1) (j + 1) HI1.out HI2.out hl1 hl2 rfl (by omega) (by omega)
        have HR3A := Lib.hid hr3A
        have HR4A := Lib.hid hr4A
        have HR5A := Lib.hid hr5A
        have HO5A := Lib.hid ho5A
        have HB5A := Lib.hid hb5A
        clear hr3A hr4A hr5A ho5A hb5A
        have HR3B := Lib.hid hr3B
        have HR4B := Lib.hid hr4B
        have HR5B := Lib.hid hr5B
        have HO5B := Lib.hid ho5B
        have HB5B := Lib.hid hb5B
        clear hr3B hr4B hr5B ho5B hb5B
        have HR3C := Lib.hid hr3C
        have HR4C := Lib.hid hr4C
        have HR5C := Lib.hid hr5C
        have HO5C := Lib.hid ho5C
        have HB5C := Lib.hid hb5C
        clear hr3C hr4C hr5C ho5C hb5C
        have HL1 := Lib.hid hl1
        have HL2 := Lib.hid hl2
        clear hl1 hl2
        go_wp2_with fail
        go_region_held3 (fun _ => True)
          (trivial)
          (first
            | ((with_reducible refine step_run3 (w := (wk.alloc (.cells #[] 3)).drew) (.tmp 19) (.tmp 22) 23 23 (.slice (some ⟨wk.heap.size, 0, none⟩) 0 0) (.slice (some ⟨g, 0, none⟩) j j) ?_ ?_ ?_ ?_ ?_); rfl; rfl; rfl; rfl; refine ⟨_, _, HR3A.out, ?_⟩)
            | ((with_reducible refine step_run3 (w := ((wk.alloc (.cells #[.int .i64 (j : Int)] 3)).alloc (.cells #[] 3)).drew) (.tmp 19) (.tmp 22) 23 23 (.slice (some ⟨wk.heap.size + 1, 0, none⟩) 0 0) (.slice (some ⟨g, 0, none⟩) j j) ?_ ?_ ?_ ?_ ?_); rfl; rfl; rfl; rfl; refine ⟨_, _, HR3B.out, ?_⟩)
            | ((with_reducible refine step_run3 (w := ((wk.alloc (.cells #[] 3)).alloc (.cells #[.int .i64 (j : Int)] 3)).drew) (.tmp 19) (.tmp 22) 23 23 (.slice (some ⟨wk.heap.size, 0, none⟩) 0 0) (.slice (some ⟨g, 0, none⟩) j j) ?_ ?_ ?_ ?_ ?_); rfl; rfl; rfl; rfl; refine ⟨_, _, HR3C.out, ?_⟩)
            | ((with_reducible refine step_run3 (w := (w3A.alloc (.cells #[.int .i64 (j : Int)] 3))) (.tmp 23) (.tmp 25) 23 23 (.slice a3A j c3A) (.slice (some ⟨w3A.heap.size, 0, none⟩) 1 1) ?_ ?_ ?_ ?_ ?_); rfl; rfl; rfl; rfl; refine ⟨_, _, HR4A.out, ?_⟩)
            | ((with_reducible refine step_run3 (w := w3B) (.tmp 23) (.tmp 25) 23 23 (.slice a3B j c3B) (.slice (some ⟨wk.heap.size, 0, none⟩) 1 1) ?_ ?_ ?_ ?_ ?_); rfl; rfl; rfl; rfl; refine ⟨_, _, HR4B.out, ?_⟩)
            | ((with_reducible refine step_run3 (w := w3C) (.tmp 23) (.tmp 25) 23 23 (.slice a3C j c3C) (.slice (some ⟨(wk.heap.size + 1), 0, none⟩) 1 1) ?_ ?_ ?_ ?_ ?_); rfl; rfl; rfl; rfl; refine ⟨_, _, HR4C.out, ?_⟩)
            | ((with_reducible refine step_run3 (w := w4A) (.tmp 26) (.tmp 29) 23 23 (.slice a4A (j + 1) c4A) (.slice (some ⟨g, 0, none⟩) 0 0) ?_ ?_ ?_ ?_ ?_); rfl; rfl; rfl; rfl; refine ⟨_, _, HR5A.out, ?_⟩)
            | ((with_reducible refine step_run3 (w := w4B) (.tmp 26) (.tmp 29) 23 23 (.slice a4B (j + 1) c4B) (.slice (some ⟨g, 0, none⟩) 0 0) ?_ ?_ ?_ ?_ ?_); rfl; rfl; rfl; rfl; refine ⟨_, _, HR5B.out, ?_⟩)
            | ((with_reducible refine step_run3 (w := w4C) (.tmp 26) (.tmp 29) 23 23 (.slice a4C (j + 1) c4C) (.slice (some ⟨g, 0, none⟩) 0 0) ?_ ?_ ?_ ?_ ?_); rfl; rfl; rfl; rfl; refine ⟨_, _, HR5C.out, ?_⟩))
        all_goals first
          | (go_wp2
             go_roundw
             case rel => exact HFIN.out w5A a5A c5A _ HO5A.out HB5A.out
             case measure => simp [intOf]; omega)
          | (go_wp2
             go_roundw
             case rel => exact HFIN.out w5B a5B c5B _ HO5B.out HB5B.out
             case measure => simp [intOf]; omega)
          | (go_wp2
             go_roundw
             case rel => exact HFIN.out w5C a5C c5C _ HO5C.out HB5C.out
             case measure => simp [intOf]; omega)
      · have hkc3 : k < cc := by omega
        have hI1 := (HO.out.ints).take_ k
        have HI1 : Hid (Ints wk wk.heap.size (some ⟨g, 0, none⟩) (L.take k)) := Lib.hid hI1
        have HI2 : Hid (Ints wk wk.heap.size (some ⟨g, k, none⟩) (L.drop k)) := Lib.hid (by
          by_cases hkj : k < j
          · have := (HO.out.ints).drop_ k (by omega); rwa [Nat.zero_add] at this
          · rw [List.drop_eq_nil_of_le (by omega)]; exact .inl rfl)
        have hl1 : (L.take k).length = k := by rw [List.length_take]; omega
        have hl2 : (L.drop k).length = j - k := by rw [List.length_drop]; omega
        have hkc2 : (k : Int) < (cc : Int) := by omega
        have hne : ¬ cc = k := by omega
        clear hI1
        obtain ⟨a3A, c3A, w3A, a4A, c4A, w4A, a5A, c5A, w5A, hr3A, hr4A, hr5A, ho5A, hb5A⟩ := insA wk (some ⟨g, 0, none⟩) (some ⟨g, k, none⟩) (L.take k) (L.drop k) (j : Int) k cc (j - k) (cc - k) (k + 1) (j + 1) HI1.out HI2.out hl1 hl2 rfl (by omega) (by omega)
        obtain ⟨a3B, c3B, w3B, a4B, c4B, w4B, a5B, c5B, w5B, hr3B, hr4B, hr5B, ho5B, hb5B⟩ := insB wk (some ⟨g, 0, none⟩) (some ⟨g, k, none⟩) (L.take k) (L.drop k) (j : Int) k cc (j - k) (cc - k) (k + 1) (j + 1) HI1.out HI2.out hl1 hl2 rfl (by omega) (by omega)
        obtain ⟨a3C, c3C, w3C, a4C, c4C, w4C, a5C, c5C, w5C, hr3C, hr4C, hr5C, ho5C, hb5C⟩ := insC wk (some ⟨g, 0, none⟩) (some ⟨g, k, none⟩) (L.take k) (L.drop k) (j : Int) k cc (j - k) (cc - k) (k + 1) (j + 1) HI1.out HI2.out hl1 hl2 rfl (by omega) (by omega)
        have HR3A := Lib.hid hr3A
        have HR4A := Lib.hid hr4A
        have HR5A := Lib.hid hr5A
        have HO5A := Lib.hid ho5A
        have HB5A := Lib.hid hb5A
        clear hr3A hr4A hr5A ho5A hb5A
        have HR3B := Lib.hid hr3B
        have HR4B := Lib.hid hr4B
        have HR5B := Lib.hid hr5B
        have HO5B := Lib.hid ho5B
        have HB5B := Lib.hid hb5B
        clear hr3B hr4B hr5B ho5B hb5B
        have HR3C := Lib.hid hr3C
        have HR4C := Lib.hid hr4C
        have HR5C := Lib.hid hr5C
        have HO5C := Lib.hid ho5C
        have HB5C := Lib.hid hb5C
        clear hr3C hr4C hr5C ho5C hb5C
        have HL1 := Lib.hid hl1
        have HL2 := Lib.hid hl2
        clear hl1 hl2
        go_wp2_with fail
        go_region_held3 (fun _ => True)
          (trivial)
          (first
            | ((with_reducible refine step_run3 (w := (wk.alloc (.cells #[] 3)).drew) (.tmp 19) (.tmp 22) 23 23 (.slice (some ⟨wk.heap.size, 0, none⟩) 0 0) (.slice (some ⟨g, 0, none⟩) k cc) ?_ ?_ ?_ ?_ ?_); rfl; rfl; rfl; rfl; refine ⟨_, _, HR3A.out, ?_⟩)
            | ((with_reducible refine step_run3 (w := ((wk.alloc (.cells #[.int .i64 (j : Int)] 3)).alloc (.cells #[] 3)).drew) (.tmp 19) (.tmp 22) 23 23 (.slice (some ⟨wk.heap.size + 1, 0, none⟩) 0 0) (.slice (some ⟨g, 0, none⟩) k cc) ?_ ?_ ?_ ?_ ?_); rfl; rfl; rfl; rfl; refine ⟨_, _, HR3B.out, ?_⟩)
            | ((with_reducible refine step_run3 (w := ((wk.alloc (.cells #[] 3)).alloc (.cells #[.int .i64 (j : Int)] 3)).drew) (.tmp 19) (.tmp 22) 23 23 (.slice (some ⟨wk.heap.size, 0, none⟩) 0 0) (.slice (some ⟨g, 0, none⟩) k cc) ?_ ?_ ?_ ?_ ?_); rfl; rfl; rfl; rfl; refine ⟨_, _, HR3C.out, ?_⟩)
            | ((with_reducible refine step_run3 (w := (w3A.alloc (.cells #[.int .i64 (j : Int)] 3))) (.tmp 23) (.tmp 25) 23 23 (.slice a3A k c3A) (.slice (some ⟨w3A.heap.size, 0, none⟩) 1 1) ?_ ?_ ?_ ?_ ?_); rfl; rfl; rfl; rfl; refine ⟨_, _, HR4A.out, ?_⟩)
            | ((with_reducible refine step_run3 (w := w3B) (.tmp 23) (.tmp 25) 23 23 (.slice a3B k c3B) (.slice (some ⟨wk.heap.size, 0, none⟩) 1 1) ?_ ?_ ?_ ?_ ?_); rfl; rfl; rfl; rfl; refine ⟨_, _, HR4B.out, ?_⟩)
            | ((with_reducible refine step_run3 (w := w3C) (.tmp 23) (.tmp 25) 23 23 (.slice a3C k c3C) (.slice (some ⟨(wk.heap.size + 1), 0, none⟩) 1 1) ?_ ?_ ?_ ?_ ?_); rfl; rfl; rfl; rfl; refine ⟨_, _, HR4C.out, ?_⟩)
            | ((with_reducible refine step_run3 (w := w4A) (.tmp 26) (.tmp 29) 23 23 (.slice a4A (k + 1) c4A) (.slice (some ⟨g, k, none⟩) (j - k) (cc - k)) ?_ ?_ ?_ ?_ ?_); rfl; rfl; rfl; rfl; refine ⟨_, _, HR5A.out, ?_⟩)
            | ((with_reducible refine step_run3 (w := w4B) (.tmp 26) (.tmp 29) 23 23 (.slice a4B (k + 1) c4B) (.slice (some ⟨g, k, none⟩) (j - k) (cc - k)) ?_ ?_ ?_ ?_ ?_); rfl; rfl; rfl; rfl; refine ⟨_, _, HR5B.out, ?_⟩)
            | ((with_reducible refine step_run3 (w := w4C) (.tmp 26) (.tmp 29) 23 23 (.slice a4C (k + 1) c4C) (.slice (some ⟨g, k, none⟩) (j - k) (cc - k)) ?_ ?_ ?_ ?_ ?_); rfl; rfl; rfl; rfl; refine ⟨_, _, HR5C.out, ?_⟩))
        all_goals first
          | (go_wp2
             go_roundw
             case rel => exact HFIN.out w5A a5A c5A _ HO5A.out HB5A.out
             case measure => simp [intOf]; omega)
          | (go_wp2
             go_roundw
             case rel => exact HFIN.out w5B a5B c5B _ HO5B.out HB5B.out
             case measure => simp [intOf]; omega)
          | (go_wp2
             go_roundw
             case rel => exact HFIN.out w5C a5C c5C _ HO5C.out HB5C.out
             case measure => simp [intOf]; omega)
    · obtain rfl : j = k0 := by omega
      have HR : Hid (∃ p, p ≤ P + j ∧ Rd wo R b n cap p) := Lib.hid HD.out.rd
      go_wp2_with fail
      refine (pickX HD.out HB.out hR hn (by omega) _).mono ?_
      rintro e wk ⟨r, rfl, -, D4, g4⟩
      have HO : Hid (OwnN wk w.heap.size (some ⟨g, 0, none⟩) j cc L) := Lib.hid (own_grown HO0.out g4 hR)
      have HDk := Lib.hid D4
      clear D4 g4 HD HO0
      obtain ⟨h, hh⟩ : ∃ h, h = L[0]?.getD 0 := ⟨_, rfl⟩
      have hc0 : wk.cell? ⟨g, 0, none⟩ = some (.int .i64 h) := by rw [hh]; exact HO.out.cell (by omega)
      have hfz := World.ownsRow.frozenAt HO.out 0
      have hgB : w.heap.size ≤ g := by obtain ⟨g', e, h, -⟩ := HO.out.addr (by omega); injection e with e; injection e with e; subst e; exact h
      clear hh
      by_cases hr : r = 0
      · subst hr
        have hj0 : (0 : Int) < (j : Int) := by omega
        go_wp2
        go_ret
        refine ⟨some ⟨g, 0, none⟩, L.set 0 (j : Int), cc, by rw [List.length_set, HL.out]; rfl, by rw [List.length_set, HL.out], ?_, (HDk.out.step (only_setCell (p := ⟨g, 0, none⟩) (World.grownBy.refl _ (some g)) rfl _) (fun g' e => by injection e; omega) hR).mono (by omega)⟩
        have h1 := (World.ownsRow.stored HO.out 0 (.int .i64 (j : Int))).1
        rw [← List.map_set] at h1
        unfold OwnI
        rw [List.length_set, HL.out]
        exact h1
      · have hr2 : ((r : Int) == 0) = false := by simp; omega
        go_wp2
        go_ret
        exact ⟨some ⟨g, 0, none⟩, L, cc, by rw [HL.out]; rfl, HL.out, by unfold OwnI; rw [HL.out]; exact HO.out, HDk.out.mono (by omega)⟩

end Go.Proofs.YtgpgocijacgkhaaDoor
