/- It is proved that drawn degrees are a list of the call's own; conditions: those of each statement. -/
import Derived.Test.YtbiggilheicfjaaDoorRows
import Derived.WalkKit
import Derived.WalkSpells
import Derived.ProofKit
import Derived.OpenShut
import Derived.ShutString
import Derived.ChangeOld
import Derived.Below
import Derived.Deep.RegionHeld3
import Derived.Deep.QuietTactic
import Derived.BigQuiet
import Derived.Lib.Hide
import Derived.Lib.SmallJoins
import Derived.Outline
import Derived.Laws.MakeOwn
import Derived.Laws.OwnMore
import Derived.IntWalk
import Derived.Deep.RegionLaw
import Derived.Deep.AppendLies
import Derived.RangeFuncNested
import Derived.RangeFuncBound
import Derived.RangeFuncCalls
import Derived.RangeFuncLeaves
import Derived.RangeFuncBox
import Derived.Shelf.Abstract
import Derived.Shelf.RegionOpen
import Derived.OwnWalkIn
import Derived.TacticsInMore
import Derived.LoopNIn
import Derived.LoopIn
import Derived.Maps.AppendAt
import Derived.OwnWalk
import Derived.Shelf.Spec.TrailingZeros
import Derived.Test.YtbiggilheicfjaaDoorMua
import Derived.Test.YtbiggilheicfjaaDoorDc
import Derived.Test.YtbiggilheicfjaaDoorF
import Derived.Test.YtbiggilheicfjaaDoorOw
import Derived.Test.YtbiggilheicfjaaDoorP
namespace Go.Proofs.YtbiggilheicfjaaDoor
open Go.RowKit

/-- A list of ints of the call's own. -/
def DrawnLs (w : World) (e : Ending) (W : World) : Prop :=
  ∃ (a : Option Addr) (zs : List Int) (c : Nat), e = .returned (.slice a zs.length c) ∧ zs.length ≤ 10 ∧ OwnI W w.heap.size (.slice a zs.length c) zs ∧ Below w.heap.size w W

set_option maxRecDepth 100000 in
set_option maxHeartbeats 4000000 in
theorem drawSteps_any (a : Option Addr) (n cap : Nat) (w : World) (hb : Bys w w.heap.size a n) (hn : n ≤ 1048576) (hc : n ≤ cap) (hc2 : cap ≤ 9223372036854775807) :
    Calls Tryd.prog 26 #[.slice a n cap] w (DrawnLs w) := by
  obtain ⟨i0, hi0, hz0, hz1, hz2⟩ := info_parts Tryd.info3
  have ha : n ≠ 0 → ∃ g off, a = some ⟨g, off, none⟩ := fun h => by obtain ⟨g, off, e, _⟩ := hb.resolve_left h; exact ⟨g, off, e⟩
  have HB := Lib.hid hb
  clear hb
  go_enter Tryd.func26, Tryd.ntmps26
  go_wp2_with fail
  refine (openD_any a n cap _ hn hc hc2 ha).mono ?_
  rintro e w1 ⟨k, hk, rfl, rfl⟩
  have b2 := below2 w (.cells #[.slice a k cap, .int .i64 0] 115) (.cells #[] 3)
  have q0 := alloc2_0 w (.cells #[.slice a k cap, .int .i64 0] 115) (.cells #[] 3)
  have q1 := alloc2_1 w (.cells #[.slice a k cap, .int .i64 0] 115) (.cells #[] 3)
  obtain ⟨W2, hW2, hs2⟩ : ∃ W2, (w.alloc (.cells #[.slice a k cap, .int .i64 0] 115)).alloc (.cells #[] 3) = W2 ∧ W2.heap.size = w.heap.size + 2 := ⟨_, rfl, by simp⟩
  rw [hW2] at b2 q0 q1
  obtain ⟨W1, hW1, hs1, b1⟩ : ∃ W1, w.alloc (.cells #[.slice a k cap, .int .i64 0] 115) = W1 ∧ W1.heap.size = w.heap.size + 1 ∧ Below w.heap.size w W1 := ⟨_, rfl, by simp, below1 w _⟩
  have HD2 : Hid (DS W1 w.heap.size a k cap 0 W2) := Lib.hid ⟨⟨0, Nat.le_refl _, q0⟩, by rw [← hW2, hW1]; exact only_alloc (World.grownBy.refl _ _) _⟩
  have HB2 : Hid (Bys W1 w.heap.size a k) := Lib.hid ((HB.out.below b1).fewer (Nat.le_refl _) hk)
  have HE2 : Hid (OwnN W2 (w.heap.size + 1) (some ⟨w.heap.size + 1, 0, none⟩) 0 0 []) := Lib.hid (own_empty q1 (Nat.le_refl _))
  have HBL := Lib.hid b2
  have hR : w.heap.size < W1.heap.size := by omega
  have HS1 := Lib.hid hs1
  have HB1 := Lib.hid b1
  clear hW1 b1 hs1
  have hkn : k ≤ 1048576 := by omega
  have HS2 := Lib.hid hs2
  clear b2 q0 q1 hs2
  go_wp2_with fail
  clear hW2
  refine (pickD HD2.out HB2.out hR hkn (by omega) _ (by omega) (by omega)).mono ?_
  rintro e w3 ⟨r3, rfl, h3, D3, g3⟩
  have h3' : (r3 : Int) < 5 := h3 (by omega)
  have HD3 := Lib.hid D3
  have HE3 : Hid (OwnN w3 (w.heap.size + 1) (some ⟨w.heap.size + 1, 0, none⟩) 0 0 []) := Lib.hid (own_grown HE2.out g3 (by omega))
  clear D3 g3 h3
  go_wp2_with fail
  refine (pickD HD3.out HB2.out hR hkn (by omega) _ (by omega) (by omega)).mono ?_
  rintro e w4 ⟨r4, rfl, h4, D4, g4⟩
  have h4' : (r4 : Int) < 24 := h4 (by omega)
  have HD4 := Lib.hid D4
  have HE4 : Hid (OwnN w4 (w.heap.size + 1) (some ⟨w.heap.size + 1, 0, none⟩) 0 0 []) := Lib.hid (own_grown HE3.out g4 (by omega))
  clear D4 g4 h4 HD2 HD3 HE2 HE3
  obtain ⟨q4, hq4, hq4'⟩ : ∃ q : Nat, ((r4 : Int).tdiv 23) = (q : Int) ∧ q ≤ 1 := ⟨r4 / 23, by rw [show (23 : Int) = ((23 : Nat) : Int) from rfl, ← Int.ofNat_tdiv], by omega⟩
  obtain ⟨m, hm⟩ : ∃ m : Nat, (1 : Int) + (r3 : Int) + (q4 : Int) = (m : Int) := ⟨1 + r3 + q4, by omega⟩
  have hm10 : m ≤ 10 := by omega
  have hw1 : IntKind.i64.wrap ((1 : Int) + (r3 : Int)) = 1 + (r3 : Int) := by rw [IntKind.wrap_i64]; omega
  have hw2 : IntKind.i64.wrap ((1 : Int) + (r3 : Int) + (q4 : Int)) = (m : Int) := by rw [← hm, IntKind.wrap_i64]; omega
  have HMM := Lib.hid hm
  clear hm
  go_wp2
  clear hw1 hw2
  go_loopw [4, 6] (fun v i wr => ∃ (j : Nat) (a' : Option Addr) (c' : Nat) (zs : List Int), j ≤ m ∧ i = .int .i64 (j : Int) ∧ v = .slice a' j c' ∧ OwnN wr (w.heap.size + 1) a' j c' zs ∧ DS W1 w.heap.size a k cap (10 + 2 * j) wr) (fun _ i _ => m - (intOf i).toNat)
  case atStart => exact ⟨0, _, _, [], Nat.zero_le _, rfl, rfl, HE4.out, HD4.out.mono (by omega)⟩
  case round =>
    obtain ⟨j, a', c', zs, hj, rfl, rfl, ho, hd⟩ := hrel
    obtain ⟨wo, hwo⟩ : ∃ wo, wo = wr := ⟨wr, rfl⟩
    subst hwo
    have HO := Lib.hid ho
    have HD := Lib.hid hd
    clear ho hd
    by_cases hlt : j < m
    · go_wp2_with fail
      refine (pickD HD.out HB2.out hR hkn (by omega) _ (by omega) (by omega)).mono ?_
      rintro e w5 ⟨r5, rfl, h5, D5, g5⟩
      have h5' : (r5 : Int) < 6 := h5 (by omega)
      have HD5 := Lib.hid D5
      have HO5 := Lib.hid (own_grown HO.out g5 (by omega))
      clear D5 g5 h5 HD HO
      go_wp2_with fail
      refine (pickD HD5.out HB2.out hR hkn (by omega) _ (by omega) (by omega)).mono ?_
      rintro e w6 ⟨r6, rfl, h6, D6, g6⟩
      have h6' : (r6 : Int) < 60 := h6 (by omega)
      have HD6 := Lib.hid D6
      have HO6 := Lib.hid (own_grown HO5.out g6 (by omega))
      clear D6 g6 h6 HD5 HO5
      have hsz6 := HD6.out.gr.size
      have hs1 := HS1.out
      go_wp2_with (at_builtin; refine wpList_append_own _ rfl _ _ 23 rfl (w.heap.size + 1) 3 i0 (.int .i64 0) 1 8 Tryd.underlying23 hi0 hz0 hz1 hz2 rfl (by decide) _ _ _ rfl (HO6.out.alloc _) ⟨w6.heap.size, 0, none⟩ 1 1 [.int .i64 _] rfl rfl (cell_one_new _ _ _) (by simp [Value.oneCell']) (by simp only [maxLen]; omega) (by omega) (by simp; omega) ?_; intro v' w9 hown hgrow _; obtain ⟨g', cap', rfl, _, _⟩ := World.ownsRow.form hown (by omega))
      go_roundw
      case rel => exact ⟨j + 1, _, _, _, by omega, by go_num, rfl, own_more hown, ((HD6.out.alloc _ hR).step hgrow (fun g e => by have := (World.ownsRow.lt HO6.out g e).1; omega) hR).mono (by omega)⟩
      case measure => simp [intOf]; omega
    · obtain rfl : j = m := by omega
      have hlen : zs.length = j := by have := HO.out.1; simpa using this
      have HR : Hid (DrawnLs w (.returned (.slice a' j c')) wo) := Lib.hid ⟨a', zs, c', by rw [hlen], by omega, by unfold OwnI; rw [hlen]; exact OwnN.base HO.out (by omega), (Below.refl w.heap.size w).trans (HB1.out.grown HD.out.gr (by have := HS1.out; omega) (fun g e => by injection e; omega))⟩
      go_wp2
      go_ret
      exact HR.out

end Go.Proofs.YtbiggilheicfjaaDoor
