/- It is proved that drawn sizes and degrees are lists of the call's own; conditions: those of each statement. -/
import Derived.Test.YtbiggilheicfjaaDoorRows
import Derived.WalkKit
import Derived.WalkSpells
import Derived.ProofKit
import Derived.OpenShut
import Derived.ShutString
import Derived.ChangeOld
import Derived.Below
import Derived.Deep.RegionHeld3
import Derived.Deep.QuietTactic
import Derived.BigQuiet
import Derived.Lib.Hide
import Derived.Lib.SmallJoins
import Derived.Outline
import Derived.Laws.MakeOwn
import Derived.Laws.OwnMore
import Derived.IntWalk
import Derived.Deep.RegionLaw
import Derived.Deep.AppendLies
import Derived.RangeFuncNested
import Derived.RangeFuncBound
import Derived.RangeFuncCalls
import Derived.RangeFuncLeaves
import Derived.RangeFuncBox
import Derived.Shelf.Abstract
import Derived.Shelf.RegionOpen
import Derived.OwnWalkIn
import Derived.TacticsInMore
import Derived.LoopNIn
import Derived.LoopIn
import Derived.Maps.AppendAt
import Derived.OwnWalk
import Derived.Shelf.Spec.TrailingZeros
import Derived.StillTailTactics
import Derived.Test.YtbiggilheicfjaaDoorMva
import Derived.Test.YtbiggilheicfjaaDoorDc
import Derived.Test.YtbiggilheicfjaaDoorFb
import Derived.Test.YtbiggilheicfjaaDoorT
import Derived.Test.YtbiggilheicfjaaDoorTc
import Derived.Test.YtbiggilheicfjaaDoorTd
import Derived.Test.YtbiggilheicfjaaDoorZb
namespace Go.Proofs.YtbiggilheicfjaaDoor
open Go.RowKit

/-- Two lists of ints of the call's own. -/
def DrawnTb (w : World) (e : Ending) (W : World) : Prop :=
  ∃ (a b : Option Addr) (zs ps : List Int) (c d : Nat), e = .returned (.tuple #[.slice a zs.length c, .slice b ps.length d]) ∧ (zs.length ≤ 10 ∧ ps.length ≤ 10) ∧ OwnI W w.heap.size (.slice a zs.length c) zs ∧ OwnI W w.heap.size (.slice b ps.length d) ps ∧ Below w.heap.size w W

theorem own_spared {W W' : World} {B : Nat} {a : Option Addr} {n c : Nat} {zs : List Int} (h : OwnN W B a n c zs) {row : Option Nat} (hg : W.grownBy W' row) (hne : ∀ g, (Value.slice a n c).ownBlock = some g → row ≠ some g) : OwnN W' B a n c zs := by
  refine ⟨h.1, ?_⟩
  rcases h.2 with h2 | ⟨g, cp, cur, e, hb, hc, r⟩
  · exact .inl h2
  · refine .inr ⟨g, cp, cur, e, hb, ?_, r⟩
    rw [hg.block g (lt_of_some hc) (fun e' => hne g (by rw [e]; rfl) e'.symm)]
    exact hc

set_option maxRecDepth 100000 in
set_option maxHeartbeats 8000000 in
theorem tableD_any (a : Option Addr) (n cap : Nat) (w : World) (hb : Bys w w.heap.size a n) (hn : n ≤ 1048576) (hc : n ≤ cap) (hc2 : cap ≤ 9223372036854775807) :
    Calls Tryd.prog 49 #[.slice a n cap] w (DrawnTb w) := by
  obtain ⟨i0, hi0, hz0, hz1, hz2⟩ := info_parts Tryd.info3
  have ha : n ≠ 0 → ∃ g off, a = some ⟨g, off, none⟩ := fun h => by obtain ⟨g, off, e, _⟩ := hb.resolve_left h; exact ⟨g, off, e⟩
  have HB := Lib.hid hb
  clear hb
  go_enter Tryd.func49, Tryd.ntmps49
  go_wp2_with fail
  refine (openD_any a n cap _ hn hc hc2 ha).mono ?_
  rintro e w1 ⟨k, hk, rfl, rfl⟩
  have b1 := below1 w (.cells #[.slice a k cap, .int .i64 0] 115)
  have q0 := alloc_new w (.cells #[.slice a k cap, .int .i64 0] 115)
  obtain ⟨W1, hW1, hs1⟩ : ∃ W1, w.alloc (.cells #[.slice a k cap, .int .i64 0] 115) = W1 ∧ W1.heap.size = w.heap.size + 1 := ⟨_, rfl, by simp⟩
  rw [hW1] at b1 q0
  have HD1 : Hid (DS W1 w.heap.size a k cap 0 W1) := Lib.hid ⟨⟨0, Nat.le_refl _, q0⟩, World.grownBy.refl _ _⟩
  have HB2 : Hid (Bys W1 w.heap.size a k) := Lib.hid ((HB.out.below b1).fewer (Nat.le_refl _) hk)
  have hR : w.heap.size < W1.heap.size := by omega
  have HS1 := Lib.hid hs1
  have HB1 := Lib.hid b1
  have hkn : k ≤ 1048576 := by omega
  clear b1 q0 hs1
  go_wp2_with fail
  clear hW1
  refine (someD_any 4 4 _ _ rfl rfl (by omega) (by omega) (by omega) w.heap.size a k cap 0 W1 HD1.out HB2.out hR hkn (by omega)).mono ?_
  rintro e w2 ⟨m, a2, zs, c2, rfl, hl, ho2, D2⟩
  have hln : zs.length ≤ 1048576 := by omega
  have F3 := FB.start (m := m) (c := c2) (own_ints ho2)
  have D3 := D2.alloc (.cells #[.int .i64 m, .slice a2 zs.length c2] 28) hR
  obtain ⟨w3, hw3⟩ : ∃ w3, w2.alloc (.cells #[.int .i64 m, .slice a2 zs.length c2] 28) = w3 := ⟨_, rfl⟩
  rw [hw3] at F3 D3
  have x0 := F3.x0
  have x1 := F3.x1
  have HF3 := Lib.hid F3
  have HD3 := Lib.hid D3
  obtain ⟨ys, hys⟩ : ∃ ys, ys = sizesZ m zs := ⟨_, rfl⟩
  obtain ⟨ps, hps⟩ : ∃ ps, ps = famDeg m zs := ⟨_, rfl⟩
  have hyl : ys.length ≤ 10 := by rw [hys]; unfold sizesZ; split <;> simp; omega
  have hpl : ps.length ≤ 10 := by rw [hps]; unfold famDeg; split <;> simp [degL]; omega
  have HSp := Lib.hid (fun W hz => specSizes_any m a2 c2 zs W hz hln)
  have HDp := Lib.hid (fun W hz => specDegrees_any m a2 c2 zs W hz hln)
  rw [← hys] at HSp
  rw [← hps] at HDp
  obtain ⟨p, hp⟩ : ∃ p, p = famIn m zs := ⟨_, rfl⟩
  rw [← hp] at HSp HDp
  clear F3 D3 ho2 D2 HD1 hys hps hp
  go_wp2_with fail
  clear hw3
  refine (HSp.out _ HF3.out.ints).mono ?_
  rintro e w4 ⟨a4, c4, rfl, ho4, hb4⟩
  have HO4 : Hid (OwnN w4 W1.heap.size a4 ys.length c4 ys) := Lib.hid (own_mono ho4 HD3.out.gr.size)
  have HD4 := Lib.hid (HD3.out.step (only_of_below hb4 none) (fun g e => by cases e) hR)
  have F4 := HF3.out.step hb4
  have y0 := F4.x0
  have y1 := F4.x1
  have HF4 := Lib.hid F4
  clear F4 ho4 hb4 HD3 HF3 x0 x1 HSp
  go_wp2_with fail
  refine (HDp.out _ HF4.out.ints).mono ?_
  rintro e w5 ⟨a5, c5, rfl, ho5, hb5⟩
  have HO5 : Hid (OwnN w5 W1.heap.size a5 ps.length c5 ps) := Lib.hid (own_mono ho5 HD4.out.gr.size)
  have HP5 : Hid (OwnN w5 W1.heap.size a4 ys.length c4 ys) := Lib.hid (own_grown HO4.out (only_of_below hb5 (some w.heap.size)) hR)
  have HD5 := Lib.hid (HD4.out.step (only_of_below hb5 none) (fun g e => by cases e) hR)
  clear ho5 hb5 HD4 HF4 HO4 y0 y1 HDp
  cases p
  · have t0 := alloc2_0 w5 (.cells #[] 3) (.cells #[] 3)
    have t1 := alloc2_1 w5 (.cells #[] 3) (.cells #[] 3)
    have DT := (HD5.out.alloc (.cells #[] 3) hR).alloc (.cells #[] 3) hR
    have hsT := HD5.out.gr.size
    obtain ⟨V, hV⟩ : ∃ V, (w5.alloc (.cells #[] 3)).alloc (.cells #[] 3) = V := ⟨_, rfl⟩
    rw [hV] at t0 t1 DT
    have HA0 : Hid (OwnN V W1.heap.size (some ⟨w5.heap.size, 0, none⟩) 0 0 []) := Lib.hid (own_empty t0 (by omega))
    have HA1 : Hid (OwnN V W1.heap.size (some ⟨w5.heap.size + 1, 0, none⟩) 0 0 []) := Lib.hid (own_empty t1 (by omega))
    have HDV := Lib.hid DT
    clear t0 t1 DT HD5 HO5 HP5
    go_wp2_with fail
    clear hV
    refine (pickD HDV.out HB2.out hR hkn (by omega) _ (by omega) (by omega)).mono ?_
    rintro e w7 ⟨r7, rfl, h7, D7, g7⟩
    have h7' : (r7 : Int) < 5 := h7 (by omega)
    have HD7 := Lib.hid D7
    have HA7 := Lib.hid (own_grown HA0.out g7 hR)
    have HC7 := Lib.hid (own_grown HA1.out g7 hR)
    clear D7 g7 h7 HDV HA0 HA1
    go_wp2_with fail
    refine (pickD HD7.out HB2.out hR hkn (by omega) _ (by omega) (by omega)).mono ?_
    rintro e w8 ⟨r8, rfl, h8, D8, g8⟩
    have h8' : (r8 : Int) < 4 := h8 (by omega)
    have HD8 := Lib.hid D8
    have HA8 := Lib.hid (own_grown HA7.out g8 hR)
    have HC8 := Lib.hid (own_grown HC7.out g8 hR)
    obtain ⟨n8, hn8⟩ : ∃ n8 : Nat, (1 : Int) + (r8 : Int) = (n8 : Int) := ⟨1 + r8, by omega⟩
    have hn85 : n8 ≤ 4 := by omega
    have hw8 : IntKind.i64.wrap ((1 : Int) + (r8 : Int)) = (n8 : Int) := by rw [IntKind.wrap_i64]; omega
    have hr75 : r7 ≤ 4 := by omega
    clear D8 g8 h8 HD7 HA7 HC7 h7' h8' hn8
    have hYa : (Value.slice (some ⟨w5.heap.size, 0, none⟩) 0 0).ownBlock ≠ some (w5.heap.size + 1) := by simp [Value.ownBlock]
    go_wp2
    go_loopw [6, 12] (fun v i wr => ∃ (j : Nat) (a' : Option Addr) (c' : Nat) (us : List Int), j ≤ r7 ∧ i = .int .i64 (j : Int) ∧ v = .slice a' j c' ∧ OwnN wr W1.heap.size a' j c' us ∧ DS W1 w.heap.size a k cap (300 + j) wr ∧ OwnN wr W1.heap.size (some ⟨w5.heap.size + 1, 0, none⟩) 0 0 [] ∧ (Value.slice a' j c').ownBlock ≠ some (w5.heap.size + 1)) (fun _ i _ => r7 - (intOf i).toNat)
    case atStart => exact ⟨0, _, _, [], Nat.zero_le _, rfl, rfl, HA8.out, HD8.out.mono (by omega), HC8.out, hYa⟩
    case round =>
      obtain ⟨j, a', c', us, hj, rfl, rfl, ho, hd, hc, hne⟩ := hrel
      obtain ⟨wo, hwo⟩ : ∃ wo, wo = wr := ⟨wr, rfl⟩
      subst hwo
      have HO := Lib.hid ho
      have HD := Lib.hid hd
      have HC := Lib.hid hc
      have HNE := Lib.hid hne
      clear ho hd hc hne
      by_cases hlt : j < r7
      · go_wp2_with fail
        refine (pickD HD.out HB2.out hR hkn (by omega) _ (by omega) (by omega)).mono ?_
        rintro e w10 ⟨r10, rfl, h10, D10, g10⟩
        have HD10 := Lib.hid D10
        have HO10 := Lib.hid (own_grown HO.out g10 hR)
        have HC10 := Lib.hid (own_grown HC.out g10 hR)
        clear D10 g10 h10 HD HO HC
        have hsz := HD10.out.gr.size
        have hYs := (World.ownsRow.lt HC10.out (w5.heap.size + 1) rfl).2
        go_wp2_with (at_builtin; refine wpList_append_own_at _ rfl _ _ 23 rfl W1.heap.size 3 i0 (.int .i64 0) 1 8 Tryd.underlying23 hi0 hz0 hz1 hz2 rfl (by decide) _ _ _ rfl (HO10.out.alloc _) ⟨w10.heap.size, 0, none⟩ 1 1 [.int .i64 _] rfl rfl (cell_one_new _ _ _) (by simp [Value.oneCell']) (by simp only [maxLen]; omega) (by omega) (by simp; omega) ?_; intro v' w9 hown hgrow _ hat; obtain ⟨g', cap', rfl, _, _⟩ := World.ownsRow.form hown (by omega))
        go_roundw
        case rel =>
          refine ⟨j + 1, _, _, _, by omega, by go_num, rfl, own_more hown, ((HD10.out.alloc _ hR).step hgrow (fun g e => by have := (World.ownsRow.lt HO10.out g e).1; omega) hR).mono (by omega), own_spared (HC10.out.alloc _) hgrow (fun g e h => HNE.out (h.trans e.symm)), ?_⟩
          intro e
          rcases hat with h | h
          · exact HNE.out (h.symm.trans e)
          · rw [World.size_alloc] at h
            have e' := h.symm.trans e
            injection e' with e'
            omega
        case measure => simp [intOf]; omega
      · obtain rfl : j = r7 := by omega
        have haY : ∀ g, (Value.slice a' j c').ownBlock = some g → (Value.slice (some ⟨w5.heap.size + 1, 0, none⟩) 0 0).ownBlock ≠ some g := fun g e h => HNE.out (by rw [e]; exact h.symm)
        clear HNE HD8 HA8 HC8 hYa
        go_wp2
        go_loopw [8, 13] (fun v i wr => ∃ (q : Nat) (b' : Option Addr) (d' : Nat) (bs : List Int), q ≤ n8 ∧ i = .int .i64 (q : Int) ∧ v = .slice b' q d' ∧ OwnN wr W1.heap.size b' q d' bs ∧ DS W1 w.heap.size a k cap (320 + 2 * q) wr ∧ OwnN wr W1.heap.size a' j c' us ∧ (∀ g, (Value.slice a' j c').ownBlock = some g → (Value.slice b' q d').ownBlock ≠ some g)) (fun _ i _ => n8 - (intOf i).toNat)
        case atStart => exact ⟨0, _, _, [], Nat.zero_le _, rfl, rfl, HC.out, HD.out.mono (by omega), HO.out, haY⟩
        case round =>
          obtain ⟨q, b', d', bs, hq, rfl, rfl, ho', hd', hc', hne'⟩ := hrel
          obtain ⟨wp, hwp⟩ : ∃ wp, wp = wr := ⟨wr, rfl⟩
          subst hwp
          have HO' := Lib.hid ho'
          have HD' := Lib.hid hd'
          have HC' := Lib.hid hc'
          have HNE' := Lib.hid hne'
          clear ho' hd' hc' hne'
          by_cases hlt' : q < n8
          · go_wp2_with fail
            refine (pickD HD'.out HB2.out hR hkn (by omega) _ (by omega) (by omega)).mono ?_
            rintro e w10 ⟨r10, rfl, h10, D10, g10⟩
            have h10' : (r10 : Int) < 4 := h10 (by omega)
            have HD10 := Lib.hid D10
            have HO10 := Lib.hid (own_grown HO'.out g10 hR)
            have HC10 := Lib.hid (own_grown HC'.out g10 hR)
            clear D10 g10 h10 HD' HO' HC'
            go_wp2_with fail
            refine (pickD HD10.out HB2.out hR hkn (by omega) _ (by omega) (by omega)).mono ?_
            rintro e w11 ⟨r11, rfl, h11, D11, g11⟩
            have h11' : (r11 : Int) < 60 := h11 (by omega)
            have HD11 := Lib.hid D11
            have HO11 := Lib.hid (own_grown HO10.out g11 hR)
            have HC11 := Lib.hid (own_grown HC10.out g11 hR)
            clear D11 g11 h11 HD10 HO10 HC10
            have hsz := HD11.out.gr.size
            go_wp2_with (at_builtin; refine wpList_append_own_at _ rfl _ _ 23 rfl W1.heap.size 3 i0 (.int .i64 0) 1 8 Tryd.underlying23 hi0 hz0 hz1 hz2 rfl (by decide) _ _ _ rfl (HO11.out.alloc _) ⟨w11.heap.size, 0, none⟩ 1 1 [.int .i64 _] rfl rfl (cell_one_new _ _ _) (by simp [Value.oneCell']) (by simp only [maxLen]; omega) (by omega) (by simp; omega) ?_; intro v' w9 hown hgrow _ hat; obtain ⟨g', cap', rfl, _, _⟩ := World.ownsRow.form hown (by omega))
            go_roundw
            case rel =>
              refine ⟨q + 1, _, _, _, by omega, by go_num, rfl, own_more hown, ((HD11.out.alloc _ hR).step hgrow (fun g e => by have := (World.ownsRow.lt HO11.out g e).1; omega) hR).mono (by omega), own_spared (HC11.out.alloc _) hgrow (fun g e h => HNE'.out g e h), ?_⟩
              intro g eg e
              rcases hat with h | h
              · exact HNE'.out g eg (h.symm.trans e)
              · rw [World.size_alloc] at h
                have e' := h.symm.trans e
                injection e' with e'
                have := (World.ownsRow.lt HC11.out g eg).2
                omega
            case measure => simp [intOf]; omega
          · obtain rfl : q = n8 := by omega
            have hla : us.length = j := by have := HC'.out.1; simpa using this
            have hlb : bs.length = q := by have := HO'.out.1; simpa using this
            have HR : Hid (DrawnTb w (.returned (.tuple #[.slice a' j c', .slice b' q d'])) wp) := Lib.hid ⟨a', b', us, bs, c', d', by rw [hla, hlb], ⟨by omega, by omega⟩, by unfold OwnI; rw [hla]; exact OwnN.base HC'.out (by omega), by unfold OwnI; rw [hlb]; exact OwnN.base HO'.out (by omega), HB1.out.grown HD'.out.gr (by have := HS1.out; omega) (fun g e => by injection e; omega)⟩
            go_wp2
            go_ret2
            exact HR.out
  · go_wp2_with fail
    refine (pickD HD5.out HB2.out hR hkn (by omega) _ (by omega) (by omega)).mono ?_
    rintro e w6 ⟨r6, rfl, h6, D6, g6⟩
    have HD6 := Lib.hid D6
    have HO6 := Lib.hid (own_grown HO5.out g6 hR)
    have HP6 := Lib.hid (own_grown HP5.out g6 hR)
    clear D6 g6 h6 HD5 HO5 HP5
    by_cases h6 : r6 = 0
    · subst h6
      have t0 := alloc2_0 w6 (.cells #[] 3) (.cells #[] 3)
      have t1 := alloc2_1 w6 (.cells #[] 3) (.cells #[] 3)
      have DT := (HD6.out.alloc (.cells #[] 3) hR).alloc (.cells #[] 3) hR
      have hsT := HD6.out.gr.size
      obtain ⟨V, hV⟩ : ∃ V, (w6.alloc (.cells #[] 3)).alloc (.cells #[] 3) = V := ⟨_, rfl⟩
      rw [hV] at t0 t1 DT
      have HA0 : Hid (OwnN V W1.heap.size (some ⟨w6.heap.size, 0, none⟩) 0 0 []) := Lib.hid (own_empty t0 (by omega))
      have HA1 : Hid (OwnN V W1.heap.size (some ⟨w6.heap.size + 1, 0, none⟩) 0 0 []) := Lib.hid (own_empty t1 (by omega))
      have HDV := Lib.hid DT
      clear t0 t1 DT HD6 HO6 HP6
      go_wp2_with fail
      clear hV
      refine (pickD HDV.out HB2.out hR hkn (by omega) _ (by omega) (by omega)).mono ?_
      rintro e w7 ⟨r7, rfl, h7, D7, g7⟩
      have h7' : (r7 : Int) < 5 := h7 (by omega)
      have HD7 := Lib.hid D7
      have HA7 := Lib.hid (own_grown HA0.out g7 hR)
      have HC7 := Lib.hid (own_grown HA1.out g7 hR)
      clear D7 g7 h7 HDV HA0 HA1
      go_wp2_with fail
      refine (pickD HD7.out HB2.out hR hkn (by omega) _ (by omega) (by omega)).mono ?_
      rintro e w8 ⟨r8, rfl, h8, D8, g8⟩
      have h8' : (r8 : Int) < 4 := h8 (by omega)
      have HD8 := Lib.hid D8
      have HA8 := Lib.hid (own_grown HA7.out g8 hR)
      have HC8 := Lib.hid (own_grown HC7.out g8 hR)
      obtain ⟨n8, hn8⟩ : ∃ n8 : Nat, (1 : Int) + (r8 : Int) = (n8 : Int) := ⟨1 + r8, by omega⟩
      have hn85 : n8 ≤ 4 := by omega
      have hw8 : IntKind.i64.wrap ((1 : Int) + (r8 : Int)) = (n8 : Int) := by rw [IntKind.wrap_i64]; omega
      have hr75 : r7 ≤ 4 := by omega
      clear D8 g8 h8 HD7 HA7 HC7 h7' h8' hn8
      have hYa : (Value.slice (some ⟨w6.heap.size, 0, none⟩) 0 0).ownBlock ≠ some (w6.heap.size + 1) := by simp [Value.ownBlock]
      go_wp2
      go_loopw [6, 12] (fun v i wr => ∃ (j : Nat) (a' : Option Addr) (c' : Nat) (us : List Int), j ≤ r7 ∧ i = .int .i64 (j : Int) ∧ v = .slice a' j c' ∧ OwnN wr W1.heap.size a' j c' us ∧ DS W1 w.heap.size a k cap (300 + j) wr ∧ OwnN wr W1.heap.size (some ⟨w6.heap.size + 1, 0, none⟩) 0 0 [] ∧ (Value.slice a' j c').ownBlock ≠ some (w6.heap.size + 1)) (fun _ i _ => r7 - (intOf i).toNat)
      case atStart => exact ⟨0, _, _, [], Nat.zero_le _, rfl, rfl, HA8.out, HD8.out.mono (by omega), HC8.out, hYa⟩
      case round =>
        obtain ⟨j, a', c', us, hj, rfl, rfl, ho, hd, hc, hne⟩ := hrel
        obtain ⟨wo, hwo⟩ : ∃ wo, wo = wr := ⟨wr, rfl⟩
        subst hwo
        have HO := Lib.hid ho
        have HD := Lib.hid hd
        have HC := Lib.hid hc
        have HNE := Lib.hid hne
        clear ho hd hc hne
        by_cases hlt : j < r7
        · go_wp2_with fail
          refine (pickD HD.out HB2.out hR hkn (by omega) _ (by omega) (by omega)).mono ?_
          rintro e w10 ⟨r10, rfl, h10, D10, g10⟩
          have HD10 := Lib.hid D10
          have HO10 := Lib.hid (own_grown HO.out g10 hR)
          have HC10 := Lib.hid (own_grown HC.out g10 hR)
          clear D10 g10 h10 HD HO HC
          have hsz := HD10.out.gr.size
          have hYs := (World.ownsRow.lt HC10.out (w6.heap.size + 1) rfl).2
          go_wp2_with (at_builtin; refine wpList_append_own_at _ rfl _ _ 23 rfl W1.heap.size 3 i0 (.int .i64 0) 1 8 Tryd.underlying23 hi0 hz0 hz1 hz2 rfl (by decide) _ _ _ rfl (HO10.out.alloc _) ⟨w10.heap.size, 0, none⟩ 1 1 [.int .i64 _] rfl rfl (cell_one_new _ _ _) (by simp [Value.oneCell']) (by simp only [maxLen]; omega) (by omega) (by simp; omega) ?_; intro v' w9 hown hgrow _ hat; obtain ⟨g', cap', rfl, _, _⟩ := World.ownsRow.form hown (by omega))
          go_roundw
          case rel =>
            refine ⟨j + 1, _, _, _, by omega, by go_num, rfl, own_more hown, ((HD10.out.alloc _ hR).step hgrow (fun g e => by have := (World.ownsRow.lt HO10.out g e).1; omega) hR).mono (by omega), own_spared (HC10.out.alloc _) hgrow (fun g e h => HNE.out (h.trans e.symm)), ?_⟩
            intro e
            rcases hat with h | h
            · exact HNE.out (h.symm.trans e)
            · rw [World.size_alloc] at h
              have e' := h.symm.trans e
              injection e' with e'
              omega
          case measure => simp [intOf]; omega
        · obtain rfl : j = r7 := by omega
          have haY : ∀ g, (Value.slice a' j c').ownBlock = some g → (Value.slice (some ⟨w6.heap.size + 1, 0, none⟩) 0 0).ownBlock ≠ some g := fun g e h => HNE.out (by rw [e]; exact h.symm)
          clear HNE HD8 HA8 HC8 hYa
          go_wp2
          go_loopw [8, 13] (fun v i wr => ∃ (q : Nat) (b' : Option Addr) (d' : Nat) (bs : List Int), q ≤ n8 ∧ i = .int .i64 (q : Int) ∧ v = .slice b' q d' ∧ OwnN wr W1.heap.size b' q d' bs ∧ DS W1 w.heap.size a k cap (320 + 2 * q) wr ∧ OwnN wr W1.heap.size a' j c' us ∧ (∀ g, (Value.slice a' j c').ownBlock = some g → (Value.slice b' q d').ownBlock ≠ some g)) (fun _ i _ => n8 - (intOf i).toNat)
          case atStart => exact ⟨0, _, _, [], Nat.zero_le _, rfl, rfl, HC.out, HD.out.mono (by omega), HO.out, haY⟩
          case round =>
            obtain ⟨q, b', d', bs, hq, rfl, rfl, ho', hd', hc', hne'⟩ := hrel
            obtain ⟨wp, hwp⟩ : ∃ wp, wp = wr := ⟨wr, rfl⟩
            subst hwp
            have HO' := Lib.hid ho'
            have HD' := Lib.hid hd'
            have HC' := Lib.hid hc'
            have HNE' := Lib.hid hne'
            clear ho' hd' hc' hne'
            by_cases hlt' : q < n8
            · go_wp2_with fail
              refine (pickD HD'.out HB2.out hR hkn (by omega) _ (by omega) (by omega)).mono ?_
              rintro e w10 ⟨r10, rfl, h10, D10, g10⟩
              have h10' : (r10 : Int) < 4 := h10 (by omega)
              have HD10 := Lib.hid D10
              have HO10 := Lib.hid (own_grown HO'.out g10 hR)
              have HC10 := Lib.hid (own_grown HC'.out g10 hR)
              clear D10 g10 h10 HD' HO' HC'
              go_wp2_with fail
              refine (pickD HD10.out HB2.out hR hkn (by omega) _ (by omega) (by omega)).mono ?_
              rintro e w11 ⟨r11, rfl, h11, D11, g11⟩
              have h11' : (r11 : Int) < 60 := h11 (by omega)
              have HD11 := Lib.hid D11
              have HO11 := Lib.hid (own_grown HO10.out g11 hR)
              have HC11 := Lib.hid (own_grown HC10.out g11 hR)
              clear D11 g11 h11 HD10 HO10 HC10
              have hsz := HD11.out.gr.size
              go_wp2_with (at_builtin; refine wpList_append_own_at _ rfl _ _ 23 rfl W1.heap.size 3 i0 (.int .i64 0) 1 8 Tryd.underlying23 hi0 hz0 hz1 hz2 rfl (by decide) _ _ _ rfl (HO11.out.alloc _) ⟨w11.heap.size, 0, none⟩ 1 1 [.int .i64 _] rfl rfl (cell_one_new _ _ _) (by simp [Value.oneCell']) (by simp only [maxLen]; omega) (by omega) (by simp; omega) ?_; intro v' w9 hown hgrow _ hat; obtain ⟨g', cap', rfl, _, _⟩ := World.ownsRow.form hown (by omega))
              go_roundw
              case rel =>
                refine ⟨q + 1, _, _, _, by omega, by go_num, rfl, own_more hown, ((HD11.out.alloc _ hR).step hgrow (fun g e => by have := (World.ownsRow.lt HO11.out g e).1; omega) hR).mono (by omega), own_spared (HC11.out.alloc _) hgrow (fun g e h => HNE'.out g e h), ?_⟩
                intro g eg e
                rcases hat with h | h
                · exact HNE'.out g eg (h.symm.trans e)
                · rw [World.size_alloc] at h
                  have e' := h.symm.trans e
                  injection e' with e'
                  have := (World.ownsRow.lt HC11.out g eg).2
                  omega
              case measure => simp [intOf]; omega
            · obtain rfl : q = n8 := by omega
              have hla : us.length = j := by have := HC'.out.1; simpa using this
              have hlb : bs.length = q := by have := HO'.out.1; simpa using this
              have HR : Hid (DrawnTb w (.returned (.tuple #[.slice a' j c', .slice b' q d'])) wp) := Lib.hid ⟨a', b', us, bs, c', d', by rw [hla, hlb], ⟨by omega, by omega⟩, by unfold OwnI; rw [hla]; exact OwnN.base HC'.out (by omega), by unfold OwnI; rw [hlb]; exact OwnN.base HO'.out (by omega), HB1.out.grown HD'.out.gr (by have := HS1.out; omega) (fun g e => by injection e; omega)⟩
              go_wp2
              go_ret2
              exact HR.out
    · have h6' : ¬ (r6 : Int) = 0 := by omega
      have HR : Hid (DrawnTb w (.returned (.tuple #[.slice a4 ys.length c4, .slice a5 ps.length c5])) w6) := Lib.hid ⟨a4, a5, ys, ps, c4, c5, rfl, ⟨hyl, hpl⟩, own_mono HP6.out (by omega), own_mono HO6.out (by omega), HB1.out.grown HD6.out.gr (by omega) (fun g e => by injection e; omega)⟩
      clear HD6 HO6 HP6
      go_wp2
      go_ret2
      exact HR.out

end Go.Proofs.YtbiggilheicfjaaDoor
