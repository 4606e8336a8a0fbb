/- It is proved that a family that often falls apart, drawn from bytes, is the call's own; conditions: those of each statement. -/
import Derived.Test.YtphddemilibooaaDoorRows
import Derived.WalkKit
import Derived.WalkSpells
import Derived.ProofKit
import Derived.OpenShut
import Derived.ShutString
import Derived.ChangeOld
import Derived.Below
import Derived.Deep.RegionHeld3
import Derived.Deep.QuietTactic
import Derived.BigQuiet
import Derived.Lib.Hide
import Derived.Lib.SmallJoins
import Derived.Outline
import Derived.Laws.MakeOwn
import Derived.Laws.OwnMore
import Derived.IntWalk
import Derived.Deep.RegionLaw
import Derived.Deep.AppendLies
import Derived.StillTailTactics
import Derived.RangeFuncNested
import Derived.RangeFuncBound
import Derived.RangeFuncCalls
import Derived.RangeFuncLeaves
import Derived.RangeFuncBox
import Derived.Shelf.Abstract
import Derived.Shelf.RegionOpen
import Derived.OwnWalkIn
import Derived.TacticsInMore
import Derived.LoopNIn
import Derived.LoopIn
import Derived.Maps.AppendAt
import Derived.OwnWalk
import Derived.Shelf.Spec.TrailingZeros
import Derived.Test.YtphddemilibooaaDoorRaaa
import Derived.Test.YtphddemilibooaaDoorRaab
import Derived.Test.YtphddemilibooaaDoorDb
import Derived.Test.YtphddemilibooaaDoorRaar
import Derived.Test.YtphddemilibooaaDoorYa
namespace Go.Proofs.YtphddemilibooaaDoor
open Go.RowKit

theorem own_one {W : World} {B g : Nat} {z : Int} (h : W.heap[g]? = some (.cells #[.int .i64 z] 3 (0, 0))) (hB : B ≤ g) : OwnN W B (some ⟨g, 0, none⟩) 1 1 [z] :=
  ⟨rfl, .inr ⟨g, 1, #[.int .i64 z], rfl, hB, h, Nat.le_refl _, by simp [maxLen], rfl, rfl⟩⟩

set_option maxRecDepth 100000 in
set_option maxHeartbeats 4000000 in
theorem earsD_any (mm most : Nat) (Mm M : Int) (hMm : Mm = (mm : Int)) (hM : M = (most : Int)) (hmm1 : 1 ≤ mm) (hmm : mm ≤ 6) (hmo1 : 1 ≤ most) (hmo : most ≤ 9) (R : Nat) (b : Option Addr) (n cap P : Nat) (w : World) (hD : DS w R b n cap P w) (hB : Bys w R b n) (hR : R < w.heap.size) (hn : n ≤ 1048576) (hP : P ≤ 900) :
    Calls Tryd.prog 35 #[.pointer (some ⟨R, 0, none⟩), .int .i64 Mm, .int .i64 M] w (DrawnF w R b n cap (P + 10) most) := by
  subst hMm
  subst hM
  obtain ⟨i0, hi0, hz0, hz1, hz2⟩ := info_parts Tryd.info3
  have HD0 := Lib.hid (hD.alloc (.cells #[.int .i64 0, .slice none 0 0] 25) hR)
  have HB := Lib.hid hB
  have HX0 : Hid (HasBlk (w.alloc (.cells #[.int .i64 0, .slice none 0 0] 25)) w.heap.size #[.int .i64 0, .slice none 0 0] 25) := Lib.hid (alloc_new w _)
  clear hD hB
  go_enter Tryd.func35, Tryd.ntmps35
  go_wp2_with fail
  refine (pickD HD0.out HB.out hR hn (by omega) _ (by omega) (by omega)).mono ?_
  rintro e w1 ⟨r1, rfl, h1, D1, g1⟩
  have hr1 : r1 < 6 := by have := h1 (by omega); omega
  have HX1 : Hid (HasBlk w1 w.heap.size #[.int .i64 0, .slice none 0 0] 25) := Lib.hid (HX0.out.kept g1 (by simp; omega))
  have HD1 := Lib.hid D1
  have hs1 : w.heap.size < w1.heap.size := lt_of_some HX1.out
  clear D1 g1 h1 HX0 HD0
  go_wp2_with fail
  refine (pickD HD1.out HB.out hR hn (by omega) _ (by omega) (by omega)).mono ?_
  rintro e w2 ⟨r2, rfl, h2, D2, g2⟩
  have HX2 : Hid (HasBlk w2 w.heap.size #[.int .i64 0, .slice none 0 0] 25) := Lib.hid (HX1.out.kept g2 (by simp; omega))
  have HD2 := Lib.hid D2
  have hs2 : w.heap.size < w2.heap.size := lt_of_some HX2.out
  clear D2 g2 h2 HX1 HD1
  by_cases h0 : r2 = 0
  · subst h0
    go_wp2_with fail
    refine (someD_any mm most _ _ rfl rfl hmm1 hmm hmo R b n cap (P + 2) w2 HD2.out.rebase (HB.out.kept hR HD2.out.gr) (by omega) hn (by omega)).mono ?_
    rintro e w3 ⟨m, a, zs, c, rfl, ⟨hl, hm1, hm6⟩, ho, hd⟩
    have q := HX2.out.kept hd.gr (by simp; omega)
    have d0 := (blk_cell q 0).trans (cell2_0 _ _)
    have d1 := (blk_cell q 1).trans (cell2_1 _ _)
    have f0 := blk_frozen q 0
    have f1 := blk_frozen q 1
    have HO := Lib.hid ho
    have HD := Lib.hid (hd.over HD2.out.gr)
    clear ho hd q
    go_wp2
    refine bodyPost_ret (v := .agg #[.int .i64 m, .slice a zs.length c]) (by simp [results, Tryd.results35, go_sem, d0, d1]) rfl ?_
    refine ⟨m, a, zs, c, rfl, ⟨hl, hm1, hm6⟩, ?_, ?_⟩
    · exact own_mono (B' := w.heap.size) (ownsRow_setCell_below (ownsRow_setCell_below (show OwnI w3 w2.heap.size _ zs from HO.out) (a := ⟨w.heap.size, 0, none⟩) hs2 _) (a := ⟨w.heap.size, 1, none⟩) hs2 _) (by omega)
    · exact ((HD.out.step (only_setCell (p := ⟨w.heap.size, 0, none⟩) (World.grownBy.refl _ (some w.heap.size)) rfl _) (fun g e => by injection e; omega) hR).step (only_setCell (p := ⟨w.heap.size, 1, none⟩) (World.grownBy.refl _ (some w.heap.size)) rfl _) (fun g e => by injection e; omega) hR).mono (by omega)
  · have hb1 : ((r2 : Int) == 0) = false := by rw [beq_eq_false_iff_ne]; omega
    have hb2 : (r2 == 0) = false := by rw [beq_eq_false_iff_ne]; exact h0
    clear h0
    go_wp2_with fail
    refine (pickD HD2.out HB.out hR hn (by omega) _ (by omega) (by omega)).mono ?_
    rintro e w3 ⟨r3, rfl, h3, D3, g3⟩
    have hr3 : r3 < most := by have := h3 (by omega); omega
    have HX3 : Hid (HasBlk w3 w.heap.size #[.int .i64 0, .slice none 0 0] 25) := Lib.hid (HX2.out.kept g3 (by simp; omega))
    have HD3 := Lib.hid D3
    clear D3 g3 h3 HX2 HD2
    go_wp2_with fail
    refine (pickX HD3.out HB.out hR hn (by omega) _).mono ?_
    rintro e w4 ⟨r4, rfl, -, D4, g4⟩
    have HX4 : Hid (HasBlk w4 w.heap.size #[.int .i64 0, .slice none 0 0] 25) := Lib.hid (HX3.out.kept g4 (by simp; omega))
    have hs4 : w.heap.size < w4.heap.size := lt_of_some HX4.out
    have HO4 : Hid (OwnN (w4.alloc (.cells #[.int .i64 (r4 : Int)] 3)) (w.heap.size + 1) (some ⟨w4.heap.size, 0, none⟩) 1 1 [(r4 : Int)]) := Lib.hid (own_one (alloc_new w4 _) (by omega))
    have HD4 := Lib.hid D4
    have hc0 := HO4.out.cell (j := 0) (by omega)
    simp only [List.getElem?_cons_zero, Option.getD_some] at hc0
    clear D4 g4 HX3 HD3
    go_wp2
    go_loopg [9, 10, 11, 12, 13] r3 (fun g s9 s10 s11 s12 s13 wr => ∃ (j : Nat) (a' : Option Addr) (c' : Nat) (zs : List Int) (u : Int), 1 ≤ j ∧ j + g = 1 + r3 ∧ s11 = .int .i64 (j : Int) ∧ s9 = .slice a' j c' ∧ s10 = .int .i64 u ∧ Hid (OwnN wr (w.heap.size + 1) a' j c' zs ∧ HasBlk wr w.heap.size #[.int .i64 0, .slice none 0 0] 25 ∧ DS w R b n cap (P + 4 + 3 * j) wr))
    case atStart => exact ⟨1, _, _, _, _, Nat.le_refl _, by omega, rfl, rfl, rfl, HO4.out, HX4.out.alloc _, (HD4.out.alloc _ hR).mono (by omega)⟩
    case round =>
      obtain ⟨j, a', c', zs, u, hj1, hjg, rfl, rfl, rfl, HI⟩ := hrel
      clear HX4 HO4 HD4
      cases gk with
      | zero =>
        obtain rfl : j = 1 + r3 := by omega
        have q := HI.out.2.1
        have d0 := (blk_cell q 0).trans (cell2_0 _ _)
        have d1 := (blk_cell q 1).trans (cell2_1 _ _)
        have f0 := blk_frozen q 0
        have f1 := blk_frozen q 1
        have hl : zs.length = 1 + r3 := HI.out.1.len
        have HL := Lib.hid hl
        clear q hl
        go_wp2
        refine bodyPost_ret (v := .agg #[.int .i64 ((1 + r1 : Nat) : Int), .slice a' (1 + r3) c']) (by simp [results, Tryd.results35, go_sem, d0, d1]) rfl ?_
        refine ⟨((1 + r1 : Nat) : Int), a', zs, c', by rw [HL.out], ⟨by have := HL.out; omega, by omega, by omega⟩, ?_, ?_⟩
        · unfold OwnI
          rw [HL.out]
          exact ownsRow_base (ownsRow_setCell_below (ownsRow_setCell_below HI.out.1 (a := ⟨w.heap.size, 0, none⟩) (by show w.heap.size < w.heap.size + 1; omega) _) (a := ⟨w.heap.size, 1, none⟩) (by show w.heap.size < w.heap.size + 1; omega) _) (by omega)
        · exact ((HI.out.2.2.step (only_setCell (p := ⟨w.heap.size, 0, none⟩) (World.grownBy.refl _ (some w.heap.size)) rfl _) (fun g e => by injection e; omega) hR).step (only_setCell (p := ⟨w.heap.size, 1, none⟩) (World.grownBy.refl _ (some w.heap.size)) rfl _) (fun g e => by injection e; omega) hR).mono (by omega)
      | succ g =>
        have hlt : (j : Int) < 1 + (r3 : Int) := by omega
        have hj0 : (0 : Int) ≤ (j : Int) := by omega
        obtain ⟨gA, rfl, hgA, -⟩ := HI.out.1.addr (by omega)
        have HOd : Hid (OwnN wr.drew (w.heap.size + 1) (some ⟨gA, 0, none⟩) j c' zs) := Lib.hid HI.out.1
        have HDd := Lib.hid HI.out.2.2.drew
        have HXd : Hid (HasBlk wr.drew w.heap.size #[.int .i64 0, .slice none 0 0] 25) := Lib.hid HI.out.2.1
        have hmx : Tryd.prog.follows .mixedOrders = true := by kernel_rfl
        go_wp2
        go_region_with (first
          | (go_at_call 62; (with_reducible refine (pickX (HDm.out) HB.out hR hn (by omega) (j : Int)).mono ?_); rintro e wl ⟨rl, rfl, hl', Dl, gl⟩; have hrl : rl < j := (by have := hl' (by omega); omega); have hrl0 : (0 : Int) ≤ (rl : Int) := (by omega); have hrlj : (rl : Int) < (j : Int) := (by omega); have hcl := (own_grown HOm.out gl (by omega) : OwnN wl (w.heap.size + 1) (some ⟨gA, 0, none⟩) j c' zs).cell (j := rl) hrl; obtain ⟨z, hz⟩ : ∃ z, z = zs[rl]?.getD 0 := ⟨_, rfl⟩; rw [← hz] at hcl; clear hz)
          | (go_at_call 62; (with_reducible refine (pickX (HDd.out) HB.out hR hn (by omega) (j : Int)).mono ?_); rintro e wl ⟨rl, rfl, hl', Dl, gl⟩; have hrl : rl < j := (by have := hl' (by omega); omega); have hrl0 : (0 : Int) ≤ (rl : Int) := (by omega); have hrlj : (rl : Int) < (j : Int) := (by omega); have HOl : Hid (OwnN wl (w.heap.size + 1) (some ⟨gA, 0, none⟩) j c' zs) := Lib.hid (own_grown HOd.out gl (by omega)); have hcl := HOl.out.cell (j := rl) hrl; obtain ⟨z, hz⟩ : ∃ z, z = zs[rl]?.getD 0 := ⟨_, rfl⟩; rw [← hz] at hcl; clear hz; have HDl := Lib.hid Dl)
          | (go_at_call 62; refine (pickX (HDl.out) HB.out hR hn (by omega) _).mono ?_; rintro e wm ⟨rm, rfl, hm', Dm, gm⟩; have hcm := (gm.block gA (lt_of_cell hcl) (fun e => by injection e; omega)); have hcl2 : wm.cell? ⟨gA, rl, none⟩ = some (.int .i64 z) := (World.cell?_of_block (a := ⟨gA, rl, none⟩) hcm).trans hcl; clear hcm)
          | (go_at_call 62; refine (pickX (HDd.out) HB.out hR hn (by omega) _).mono ?_; rintro e wm ⟨rm, rfl, hm', Dm, gm⟩; have HOm : Hid (OwnN wm (w.heap.size + 1) (some ⟨gA, 0, none⟩) j c' zs) := Lib.hid (own_grown HOd.out gm (by omega)); have HDm := Lib.hid Dm))
        all_goals
          first
            | (have HQ : Hid (OwnN wm (w.heap.size + 1) (some ⟨gA, 0, none⟩) j c' zs ∧ HasBlk wm w.heap.size #[.int .i64 0, .slice none 0 0] 25 ∧ DS w R b n cap (P + 4 + 3 * j + 2) wm) := Lib.hid ⟨own_grown HOl.out gm (by omega), (HXd.out.kept gl (by simp; omega)).kept gm (by simp; omega), Dm⟩
               obtain ⟨wq, hwq⟩ : ∃ wq, wq = wm := ⟨wm, rfl⟩
               subst hwq)
            | (have HQ : Hid (OwnN wl (w.heap.size + 1) (some ⟨gA, 0, none⟩) j c' zs ∧ HasBlk wl w.heap.size #[.int .i64 0, .slice none 0 0] 25 ∧ DS w R b n cap (P + 4 + 3 * j + 2) wl) := Lib.hid ⟨own_grown HOm.out gl (by omega), (HXd.out.kept gm (by simp; omega)).kept gl (by simp; omega), Dl⟩
               obtain ⟨wq, hwq⟩ : ∃ wq, wq = wl := ⟨wl, rfl⟩
               subst hwq)
          clear hcl Dl Dm gl gm hl' hm' hrl0 hrlj
          try clear hcl2
          go_wp2_with fail
          refine (pickX HQ.out.2.2 HB.out hR hn (by omega) _).mono ?_
          rintro e w5 ⟨r5, rfl, -, D5, g5⟩
          have HO5 : Hid (OwnN w5 (w.heap.size + 1) (some ⟨gA, 0, none⟩) j c' zs) := Lib.hid (own_grown HQ.out.1 g5 (by omega))
          have HX5 : Hid (HasBlk w5 w.heap.size #[.int .i64 0, .slice none 0 0] 25) := Lib.hid (HQ.out.2.1.kept g5 (by simp; omega))
          have HD5 := Lib.hid D5
          have hs5 : w.heap.size < w5.heap.size := lt_of_some HX5.out
          clear D5 g5
          go_wp2_with (at_builtin; refine wpList_append_own _ rfl _ _ 23 rfl (w.heap.size + 1) 3 i0 (.int .i64 0) 1 8 Tryd.underlying23 hi0 hz0 hz1 hz2 rfl (by decide) _ _ _ rfl (HO5.out.alloc _) ⟨w5.heap.size, 0, none⟩ 1 1 [.int .i64 _] rfl rfl (cell_one_new _ _ _) (by simp [Value.oneCell']) (by simp only [maxLen]; omega) (by omega) (by simp; omega) ?_; intro v' w9 hown hgrow _; obtain ⟨g', cap', rfl, _, _⟩ := World.ownsRow.form hown (by omega))
          go_roundg g
          case measure => omega
          case rel => exact ⟨j + 1, _, _, _, _, by omega, by omega, by go_num, rfl, rfl, own_more hown, (HX5.out.alloc _).kept hgrow (fun e => by have := (World.ownsRow.lt HO5.out _ e).1; omega), ((HD5.out.alloc _ hR).step hgrow (fun g e => by have := (World.ownsRow.lt HO5.out g e).1; omega) hR).mono (by omega)⟩

end Go.Proofs.YtphddemilibooaaDoor
