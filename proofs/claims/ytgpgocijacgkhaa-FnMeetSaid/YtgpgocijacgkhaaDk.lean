/- It is proved that a drawn family and a drawn set are the call's own; conditions: those of each statement. -/
import Derived.Deep.RegionWith
import Derived.Test.YtgpgocijacgkhaaRows
import Derived.WalkKit
import Derived.WalkSpells
import Derived.ProofKit
import Derived.OpenShut
import Derived.ShutString
import Derived.ChangeOld
import Derived.Below
import Derived.Deep.RegionHeld3
import Derived.Deep.QuietTactic
import Derived.BigQuiet
import Derived.Lib.Hide
import Derived.Lib.SmallJoins
import Derived.Outline
import Derived.Laws.MakeOwn
import Derived.Laws.OwnMore
import Derived.IntWalk
import Derived.Deep.RegionLaw
import Derived.Deep.AppendLies
import Derived.RangeFuncNested
import Derived.RangeFuncBound
import Derived.RangeFuncCalls
import Derived.RangeFuncLeaves
import Derived.RangeFuncBox
import Derived.Shelf.Abstract
import Derived.Shelf.RegionOpen
import Derived.OwnWalkIn
import Derived.TacticsInMore
import Derived.LoopNIn
import Derived.LoopIn
import Derived.Maps.AppendAt
import Derived.Shelf.Spec.TrailingZeros
import Derived.OwnWalk
import Derived.Test.YtgpgocijacgkhaaB
import Derived.Test.YtgpgocijacgkhaaC
import Derived.Test.YtgpgocijacgkhaaDa
import Derived.Test.YtgpgocijacgkhaaDb
import Derived.Test.YtgpgocijacgkhaaDc
import Derived.Test.YtgpgocijacgkhaaDd
import Derived.Test.YtgpgocijacgkhaaF
import Derived.Test.YtgpgocijacgkhaaP
import Derived.Test.YtgpgocijacgkhaaSa
namespace Go.Proofs.Ytgpgocijacgkhaa
open Go.RowKit

/-- A family of the call's own, and a number. -/
def DrawnTwo (w : World) (e : Ending) (W : World) : Prop :=
  ∃ (m : Int) (a : Option Addr) (zs : List Int) (c : Nat) (x : Int), e = .returned (.tuple #[.agg #[.int .i64 m, .slice a zs.length c], .int .i64 x]) ∧ zs.length ≤ 10 ∧ OwnI W w.heap.size (.slice a zs.length c) zs ∧ Below w.heap.size w W

theorem DS.belowR {w W : World} {R : Nat} {b : Option Addr} {n cap P B : Nat} (h : DS w R b n cap P W) (hB : B ≤ R) (hs : B ≤ w.heap.size) : Below B w W :=
  (Below.refl B w).grown h.gr hs (fun g e => by injection e with e; omega)

set_option maxRecDepth 100000 in
set_option maxHeartbeats 4000000 in
theorem setD_any (a : Option Addr) (n cap : Nat) (w : World) (hb : Bys w w.heap.size a n) (hn : n ≤ 1048576) (hc : n ≤ cap) (hc2 : cap ≤ 9223372036854775807) :
    Calls Try.prog 20 #[.slice a n cap] w (DrawnTwo w) := by
  have ha : n ≠ 0 → ∃ g off, a = some ⟨g, off, none⟩ := fun h => by obtain ⟨g, off, e, _⟩ := hb.resolve_left h; exact ⟨g, off, e⟩
  have HB := Lib.hid hb
  clear hb
  go_enter Try.func20, Try.ntmps20
  go_wp2_with fail
  refine (openD_any a n cap _ hn hc hc2 ha).mono ?_
  rintro e w1 ⟨k, hk, rfl, rfl⟩
  have b1 := below2 w (.cells #[.int .i64 0, .slice none 0 0] 25) (.cells #[.slice a k cap, .int .i64 0] 61)
  have HD1 : Hid (DS ((w.alloc (.cells #[.int .i64 0, .slice none 0 0] 25)).alloc (.cells #[.slice a k cap, .int .i64 0] 61)) (w.heap.size + 1) a k cap 0 ((w.alloc (.cells #[.int .i64 0, .slice none 0 0] 25)).alloc (.cells #[.slice a k cap, .int .i64 0] 61))) := Lib.hid ⟨⟨0, Nat.le_refl _, alloc2_1 w _ _⟩, World.grownBy.refl _ _⟩
  have HB1 := Lib.hid ((HB.out.below b1).fewer (B' := w.heap.size + 1) (by omega) hk)
  have HX : Hid (HasBlk ((w.alloc (.cells #[.int .i64 0, .slice none 0 0] 25)).alloc (.cells #[.slice a k cap, .int .i64 0] 61)) w.heap.size #[.int .i64 0, .slice none 0 0] 25) := Lib.hid (alloc2_0 w _ _)
  have HBL := Lib.hid b1
  clear b1
  go_wp2_with fail
  refine (someD_any 6 7 6 7 rfl rfl (by decide) (by decide) (by decide) (w.heap.size + 1) a k cap 0 _ HD1.out HB1.out (by simp) (by omega) (by omega)).mono ?_
  rintro e w2 ⟨m, a2, zs, c2, rfl, ⟨hl, hm1, hm6⟩, ho, D2⟩
  have q0 : HasBlk w2 w.heap.size #[.int .i64 0, .slice none 0 0] 25 := HX.out.kept D2.gr (by simp)
  have hs2 : w.heap.size + 1 < w2.heap.size := by have := D2.gr.size; simp at this; omega
  have HRd : Hid (∃ p, p ≤ 200 ∧ Rd w2 (w.heap.size + 1) a k cap p) := Lib.hid (by obtain ⟨p, hp, h⟩ := D2.rd; exact ⟨p, by omega, h⟩)
  have HBy2 : Hid (Bys w2 (w.heap.size + 1) a k) := Lib.hid (HB1.out.kept (by simp) D2.gr)
  have HO : Hid (OwnI w2 (w.heap.size + 2) (.slice a2 zs.length c2) zs) := Lib.hid (own_mono ho (by simp))
  have HBW := Lib.hid (HBL.out.trans ((Below.refl w.heap.size _).grown D2.gr (by simp; omega) (fun g e => by injection e; omega)))
  have HQ0 := Lib.hid q0
  clear ho D2 q0 HX HD1 HB1 HBL
  have HD3 : Hid (DS (w2.alloc (.cells #[.int .i64 m, .slice a2 zs.length c2] 25)) (w.heap.size + 1) a k cap 200 (w2.alloc (.cells #[.int .i64 m, .slice a2 zs.length c2] 25))) := Lib.hid (by obtain ⟨p, hp, h⟩ := HRd.out; exact ⟨⟨p, hp, HasBlk.alloc h _⟩, World.grownBy.refl _ _⟩)
  have HBy3 : Hid (Bys (w2.alloc (.cells #[.int .i64 m, .slice a2 zs.length c2] 25)) (w.heap.size + 1) a k) := Lib.hid (HBy2.out.below ((below1 w2 _).mono (by omega)))
  have HX3 : Hid (HasBlk (w2.alloc (.cells #[.int .i64 m, .slice a2 zs.length c2] 25)) w2.heap.size #[.int .i64 m, .slice a2 zs.length c2] 25) := Lib.hid (alloc_new w2 _)
  have HQ3 : Hid (HasBlk (w2.alloc (.cells #[.int .i64 m, .slice a2 zs.length c2] 25)) w.heap.size #[.int .i64 0, .slice none 0 0] 25) := Lib.hid (HQ0.out.alloc _)
  have HO3 : Hid (OwnI (w2.alloc (.cells #[.int .i64 m, .slice a2 zs.length c2] 25)) (w.heap.size + 2) (.slice a2 zs.length c2) zs) := Lib.hid (World.ownsRow.alloc HO.out _)
  have HB3 := Lib.hid (HBW.out.trans ((below1 w2 (.cells #[.int .i64 m, .slice a2 zs.length c2] 25)).mono HBW.out.size))
  have hR3 : w.heap.size + 1 < (w2.alloc (.cells #[.int .i64 m, .slice a2 zs.length c2] 25)).heap.size := by simp; omega
  have hkn : k ≤ 1048576 := by omega
  obtain ⟨W3, hW3⟩ : ∃ W3, W3 = w2.alloc (.cells #[.int .i64 m, .slice a2 zs.length c2] 25) := ⟨_, rfl⟩
  go_wp2_with fail
  rw [← hW3]
  rw [← hW3] at HD3 HBy3 HX3 HQ3 HO3 HB3 hR3
  have x0 := (blk_cell HX3.out 0).trans (cell2_0 _ _)
  have x1 := (blk_cell HX3.out 1).trans (cell2_1 _ _)
  clear hW3 HRd HBy2 HQ0 HO HBW
  go_region_with (first
    | (go_at_call 34; refine (pickX D5 HBy3.out hR3 hkn (by omega) _).mono ?_; rintro e w6 ⟨r6, rfl, h6, D6, g6⟩; have q6 := blk_grown q5 g6 (by omega); have x0 := (blk_cell q6 0).trans (cell2_0 _ _); have x1 := (blk_cell q6 1).trans (cell2_1 _ _); have p6 := HasBlk.kept (p5) g6 (fun e => by injection e; omega); have d0 := (blk_cell p6 0).trans (cell2_0 _ _); have d1 := (blk_cell p6 1).trans (cell2_1 _ _); have f0 := blk_frozen p6 0; have f1 := blk_frozen p6 1)
    | (go_at_call 34; refine (pickX D4 HBy3.out hR3 hkn (by omega) _).mono ?_; rintro e w5 ⟨r5, rfl, h5, D5, g5⟩; have q5 := blk_grown q4 g5 (by omega); have x0 := (blk_cell q5 0).trans (cell2_0 _ _); have x1 := (blk_cell q5 1).trans (cell2_1 _ _); have p5 := HasBlk.kept (p4) g5 (fun e => by injection e; omega); have d0 := (blk_cell p5 0).trans (cell2_0 _ _); have d1 := (blk_cell p5 1).trans (cell2_1 _ _); have f0 := blk_frozen p5 0; have f1 := blk_frozen p5 1)
    | (go_at_call 34; refine (pickX HD3.out.drew HBy3.out hR3 hkn (by omega) _).mono ?_; rintro e w4 ⟨r4, rfl, h4, D4, g4⟩; have q4 := blk_grown (W := W3.drew) HX3.out g4 (by omega); have x0 := (blk_cell q4 0).trans (cell2_0 _ _); have x1 := (blk_cell q4 1).trans (cell2_1 _ _); have p4 := HasBlk.kept (W := W3.drew) (HQ3.out) g4 (fun e => by injection e; omega); have d0 := (blk_cell p4 0).trans (cell2_0 _ _); have d1 := (blk_cell p4 1).trans (cell2_1 _ _); have f0 := blk_frozen p4 0; have f1 := blk_frozen p4 1))
  all_goals
    have HOF : Hid (OwnI w6 (w.heap.size + 2) (.slice a2 zs.length c2) zs) := Lib.hid (own_grown (own_grown (own_grown (W := W3.drew) HO3.out g4 (by omega)) g5 (by omega)) g6 (by omega))
    have HBF := Lib.hid (HB3.out.trans (D6.belowR (B := w.heap.size) (by omega) (by omega)))
    clear HO3 HB3 D4 D5 D6 g4 g5 g6 p4 p5 q4 q5 q6 p6 HD3 HBy3 HX3 HQ3 x0 x1
    go_wp2
    refine bodyPost_ret (v := .tuple #[.agg #[.int .i64 m, .slice a2 zs.length c2], .int .i64 _]) (by simp [results, Try.results20, go_sem, d0, d1]; rfl) rfl ?_
    refine ⟨m, a2, zs, c2, _, rfl, by omega, ?_, ?_⟩
    · exact own_mono (ownsRow_setCell_below (ownsRow_setCell_below HOF.out (a := ⟨w.heap.size, 0, none⟩) (show w.heap.size < w.heap.size + 2 by omega) _) (a := ⟨w.heap.size, 1, none⟩) (show w.heap.size < w.heap.size + 2 by omega) _) (by omega)
    · exact (HBF.out.setCell (p := ⟨w.heap.size, 0, none⟩) (Nat.le_refl _) _).setCell (p := ⟨w.heap.size, 1, none⟩) (Nat.le_refl _) _

set_option maxRecDepth 100000 in
set_option maxHeartbeats 2000000 in
theorem drawMeet_any (a : Option Addr) (n cap : Nat) (w : World) (hb : Bys w w.heap.size a n) (hn : n ≤ 1048576) (hc : n ≤ cap) (hc2 : cap ≤ 9223372036854775807) :
    Calls Try.prog 10 #[.slice a n cap] w (DrawnTwo w) := by
  have b1 := below1 w (.cells #[.int .i64 0, .slice none 0 0] 25)
  have HB := Lib.hid ((hb.below b1).fewer (B' := (w.alloc (.cells #[.int .i64 0, .slice none 0 0] 25)).heap.size) (by simp) (Nat.le_refl n))
  have HX : Hid (HasBlk (w.alloc (.cells #[.int .i64 0, .slice none 0 0] 25)) w.heap.size #[.int .i64 0, .slice none 0 0] 25) := Lib.hid (alloc_new w _)
  have HBL := Lib.hid b1
  clear hb b1
  go_enter Try.func10, Try.ntmps10
  go_wp2_with fail
  refine (setD_any a n cap _ HB.out hn hc hc2).mono ?_
  rintro e w2 ⟨m, a2, zs, c2, x, rfl, hl, ho, D2⟩
  have q0 : HasBlk w2 w.heap.size #[.int .i64 0, .slice none 0 0] 25 := (D2.block _ (by simp)).trans HX.out
  have d0 := (blk_cell q0 0).trans (cell2_0 _ _)
  have d1 := (blk_cell q0 1).trans (cell2_1 _ _)
  have f0 := blk_frozen q0 0
  have f1 := blk_frozen q0 1
  have HO : Hid (OwnI w2 (w.heap.size + 1) (.slice a2 zs.length c2) zs) := Lib.hid (own_mono ho (by simp))
  have HBW := Lib.hid (HBL.out.trans (D2.mono (by simp)))
  clear ho D2 q0
  go_wp2
  refine bodyPost_ret (v := .tuple #[.agg #[.int .i64 m, .slice a2 zs.length c2], .int .i64 x]) (by simp [results, Try.results10, go_sem, d0, d1]) rfl ?_
  refine ⟨m, a2, zs, c2, x, rfl, hl, ?_, ?_⟩
  · exact own_mono (ownsRow_setCell_below (ownsRow_setCell_below HO.out (a := ⟨w.heap.size, 0, none⟩) (show w.heap.size < w.heap.size + 1 by omega) _) (a := ⟨w.heap.size, 1, none⟩) (show w.heap.size < w.heap.size + 1 by omega) _) (by omega)
  · exact (HBW.out.setCell (p := ⟨w.heap.size, 0, none⟩) (Nat.le_refl _) _).setCell (p := ⟨w.heap.size, 1, none⟩) (Nat.le_refl _) _

end Go.Proofs.Ytgpgocijacgkhaa
