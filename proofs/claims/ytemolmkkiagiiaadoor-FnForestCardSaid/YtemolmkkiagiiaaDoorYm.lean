/- It is proved that the families of chapter 6, drawn from bytes, are the call's own; conditions: those of each statement. -/
import Derived.Test.YtemolmkkiagiiaaDoorRows
import Derived.WalkKit
import Derived.WalkSpells
import Derived.ProofKit
import Derived.OpenShut
import Derived.ShutString
import Derived.ChangeOld
import Derived.Below
import Derived.Deep.RegionHeld3
import Derived.Deep.QuietTactic
import Derived.BigQuiet
import Derived.Lib.Hide
import Derived.Lib.SmallJoins
import Derived.Outline
import Derived.Laws.MakeOwn
import Derived.Laws.OwnMore
import Derived.IntWalk
import Derived.Deep.RegionLaw
import Derived.Deep.AppendLies
import Derived.StillTailTactics
import Derived.RangeFuncNested
import Derived.RangeFuncBound
import Derived.RangeFuncCalls
import Derived.RangeFuncLeaves
import Derived.RangeFuncBox
import Derived.Shelf.Abstract
import Derived.Shelf.RegionOpen
import Derived.OwnWalkIn
import Derived.TacticsInMore
import Derived.LoopNIn
import Derived.LoopIn
import Derived.Maps.AppendAt
import Derived.OwnWalk
import Derived.Shelf.Spec.TrailingZeros
import Derived.Test.YtemolmkkiagiiaaDoorPaaa
import Derived.Test.YtemolmkkiagiiaaDoorPaab
import Derived.Test.YtemolmkkiagiiaaDoorPaat
import Derived.Test.YtemolmkkiagiiaaDoorDc
import Derived.Test.YtemolmkkiagiiaaDoorPaac
import Derived.Test.YtemolmkkiagiiaaDoorPaad
import Derived.Test.YtemolmkkiagiiaaDoorYk
namespace Go.Proofs.YtemolmkkiagiiaaDoor
open Go.RowKit

set_option maxRecDepth 100000 in
set_option maxHeartbeats 2000000 in
theorem earD_any (a : Option Addr) (n cap : Nat) (w : World) (hb : Bys w w.heap.size a n) (hn : n ≤ 1048576) (hc : n ≤ cap) (hc2 : cap ≤ 9223372036854775807) :
    Calls Tryd.prog 38 #[.slice a n cap] w (DrawnOne w) := by
  have ha : n ≠ 0 → ∃ g off, a = some ⟨g, off, none⟩ := fun h => by obtain ⟨g, off, e, _⟩ := hb.resolve_left h; exact ⟨g, off, e⟩
  have HB := Lib.hid hb
  clear hb
  go_enter Tryd.func38, Tryd.ntmps38
  go_wp2_with fail
  refine (openD_any a n cap _ hn hc hc2 ha).mono ?_
  rintro e w1 ⟨k, hk, rfl, rfl⟩
  have b1 := below2 w (.cells #[.int .i64 0, .slice none 0 0] 25) (.cells #[.slice a k cap, .int .i64 0] 81)
  have HD1 : Hid (DS ((w.alloc (.cells #[.int .i64 0, .slice none 0 0] 25)).alloc (.cells #[.slice a k cap, .int .i64 0] 81)) (w.heap.size + 1) a k cap 0 ((w.alloc (.cells #[.int .i64 0, .slice none 0 0] 25)).alloc (.cells #[.slice a k cap, .int .i64 0] 81))) := Lib.hid ⟨⟨0, Nat.le_refl _, alloc2_1 w _ _⟩, World.grownBy.refl _ _⟩
  have HB1 := Lib.hid ((HB.out.below b1).fewer (B' := w.heap.size + 1) (by omega) hk)
  have HX : Hid (HasBlk ((w.alloc (.cells #[.int .i64 0, .slice none 0 0] 25)).alloc (.cells #[.slice a k cap, .int .i64 0] 81)) w.heap.size #[.int .i64 0, .slice none 0 0] 25) := Lib.hid (alloc2_0 w _ _)
  have HBL := Lib.hid b1
  clear b1
  go_wp2_with fail
  refine (earsD_any 6 6 6 6 rfl rfl (by decide) (by decide) (by decide) (by decide) (w.heap.size + 1) a k cap 0 _ HD1.out HB1.out (by simp) (by omega) (by omega)).mono ?_
  rintro e w2 ⟨m, a2, zs, c2, rfl, ⟨hl, -, -⟩, ho, D2⟩
  have q0 := HX.out.kept D2.gr (by simp)
  have d0 := (blk_cell q0 0).trans (cell2_0 _ _)
  have d1 := (blk_cell q0 1).trans (cell2_1 _ _)
  have f0 := blk_frozen q0 0
  have f1 := blk_frozen q0 1
  have HO : Hid (OwnI w2 (w.heap.size + 2) (.slice a2 zs.length c2) zs) := Lib.hid (own_mono ho (by simp))
  have HBW := Lib.hid (HBL.out.trans ((Below.refl w.heap.size _).grown D2.gr (by simp; omega) (fun g e => by injection e; omega)))
  clear ho D2 q0
  go_wp2
  refine bodyPost_ret (v := .agg #[.int .i64 m, .slice a2 zs.length c2]) (by simp [results, Tryd.results38, go_sem, d0, d1]) rfl ?_
  refine ⟨m, a2, zs, c2, rfl, Nat.le_trans hl (by decide), ?_, ?_⟩
  · exact own_mono (ownsRow_setCell_below (ownsRow_setCell_below HO.out (a := ⟨w.heap.size, 0, none⟩) (show w.heap.size < w.heap.size + 2 by omega) _) (a := ⟨w.heap.size, 1, none⟩) (show w.heap.size < w.heap.size + 2 by omega) _) (by omega)
  · exact (HBW.out.setCell (p := ⟨w.heap.size, 0, none⟩) (Nat.le_refl _) _).setCell (p := ⟨w.heap.size, 1, none⟩) (Nat.le_refl _) _

set_option maxRecDepth 100000 in
set_option maxHeartbeats 2000000 in
theorem drawEarReduce_any (a : Option Addr) (n cap : Nat) (w : World) (hb : Bys w w.heap.size a n) (hn : n ≤ 1048576) (hc : n ≤ cap) (hc2 : cap ≤ 9223372036854775807) :
    Calls Tryd.prog 9 #[.slice a n cap] w (DrawnOne w) := by
  have b1 := below1 w (.cells #[.int .i64 0, .slice none 0 0] 25)
  have HB := Lib.hid ((hb.below b1).fewer (B' := (w.alloc (.cells #[.int .i64 0, .slice none 0 0] 25)).heap.size) (by simp) (Nat.le_refl n))
  have HX : Hid (HasBlk (w.alloc (.cells #[.int .i64 0, .slice none 0 0] 25)) w.heap.size #[.int .i64 0, .slice none 0 0] 25) := Lib.hid (alloc_new w _)
  have HBL := Lib.hid b1
  clear hb b1
  go_enter Tryd.func9, Tryd.ntmps9
  go_wp2_with fail
  refine (earD_any a n cap _ HB.out hn hc hc2).mono ?_
  rintro e w2 ⟨m, a2, zs, c2, rfl, hl, ho, D2⟩
  have q0 : HasBlk w2 w.heap.size #[.int .i64 0, .slice none 0 0] 25 := (D2.block _ (by simp)).trans HX.out
  have d0 := (blk_cell q0 0).trans (cell2_0 _ _)
  have d1 := (blk_cell q0 1).trans (cell2_1 _ _)
  have f0 := blk_frozen q0 0
  have f1 := blk_frozen q0 1
  have HO : Hid (OwnI w2 (w.heap.size + 1) (.slice a2 zs.length c2) zs) := Lib.hid (own_mono ho (by simp))
  have HBW := Lib.hid (HBL.out.trans (D2.mono (by simp)))
  clear ho D2 q0
  go_wp2
  refine bodyPost_ret (v := .agg #[.int .i64 m, .slice a2 zs.length c2]) (by simp [results, Tryd.results9, go_sem, d0, d1]) rfl ?_
  refine ⟨m, a2, zs, c2, rfl, hl, ?_, ?_⟩
  · exact own_mono (ownsRow_setCell_below (ownsRow_setCell_below HO.out (a := ⟨w.heap.size, 0, none⟩) (show w.heap.size < w.heap.size + 1 by omega) _) (a := ⟨w.heap.size, 1, none⟩) (show w.heap.size < w.heap.size + 1 by omega) _) (by omega)
  · exact (HBW.out.setCell (p := ⟨w.heap.size, 0, none⟩) (Nat.le_refl _) _).setCell (p := ⟨w.heap.size, 1, none⟩) (Nat.le_refl _) _

set_option maxRecDepth 100000 in
set_option maxHeartbeats 2000000 in
theorem drawEarFalls_any (a : Option Addr) (n cap : Nat) (w : World) (hb : Bys w w.heap.size a n) (hn : n ≤ 1048576) (hc : n ≤ cap) (hc2 : cap ≤ 9223372036854775807) :
    Calls Tryd.prog 14 #[.slice a n cap] w (DrawnOne w) := by
  have b1 := below1 w (.cells #[.int .i64 0, .slice none 0 0] 25)
  have HB := Lib.hid ((hb.below b1).fewer (B' := (w.alloc (.cells #[.int .i64 0, .slice none 0 0] 25)).heap.size) (by simp) (Nat.le_refl n))
  have HX : Hid (HasBlk (w.alloc (.cells #[.int .i64 0, .slice none 0 0] 25)) w.heap.size #[.int .i64 0, .slice none 0 0] 25) := Lib.hid (alloc_new w _)
  have HBL := Lib.hid b1
  clear hb b1
  go_enter Tryd.func14, Tryd.ntmps14
  go_wp2_with fail
  refine (earD_any a n cap _ HB.out hn hc hc2).mono ?_
  rintro e w2 ⟨m, a2, zs, c2, rfl, hl, ho, D2⟩
  have q0 : HasBlk w2 w.heap.size #[.int .i64 0, .slice none 0 0] 25 := (D2.block _ (by simp)).trans HX.out
  have d0 := (blk_cell q0 0).trans (cell2_0 _ _)
  have d1 := (blk_cell q0 1).trans (cell2_1 _ _)
  have f0 := blk_frozen q0 0
  have f1 := blk_frozen q0 1
  have HO : Hid (OwnI w2 (w.heap.size + 1) (.slice a2 zs.length c2) zs) := Lib.hid (own_mono ho (by simp))
  have HBW := Lib.hid (HBL.out.trans (D2.mono (by simp)))
  clear ho D2 q0
  go_wp2
  refine bodyPost_ret (v := .agg #[.int .i64 m, .slice a2 zs.length c2]) (by simp [results, Tryd.results14, go_sem, d0, d1]) rfl ?_
  refine ⟨m, a2, zs, c2, rfl, hl, ?_, ?_⟩
  · exact own_mono (ownsRow_setCell_below (ownsRow_setCell_below HO.out (a := ⟨w.heap.size, 0, none⟩) (show w.heap.size < w.heap.size + 1 by omega) _) (a := ⟨w.heap.size, 1, none⟩) (show w.heap.size < w.heap.size + 1 by omega) _) (by omega)
  · exact (HBW.out.setCell (p := ⟨w.heap.size, 0, none⟩) (Nat.le_refl _) _).setCell (p := ⟨w.heap.size, 1, none⟩) (Nat.le_refl _) _

set_option maxRecDepth 100000 in
set_option maxHeartbeats 2000000 in
theorem drawEarOrder_any (a : Option Addr) (n cap : Nat) (w : World) (hb : Bys w w.heap.size a n) (hn : n ≤ 1048576) (hc : n ≤ cap) (hc2 : cap ≤ 9223372036854775807) :
    Calls Tryd.prog 20 #[.slice a n cap] w (DrawnOne w) := by
  have b1 := below1 w (.cells #[.int .i64 0, .slice none 0 0] 25)
  have HB := Lib.hid ((hb.below b1).fewer (B' := (w.alloc (.cells #[.int .i64 0, .slice none 0 0] 25)).heap.size) (by simp) (Nat.le_refl n))
  have HX : Hid (HasBlk (w.alloc (.cells #[.int .i64 0, .slice none 0 0] 25)) w.heap.size #[.int .i64 0, .slice none 0 0] 25) := Lib.hid (alloc_new w _)
  have HBL := Lib.hid b1
  clear hb b1
  go_enter Tryd.func20, Tryd.ntmps20
  go_wp2_with fail
  refine (earD_any a n cap _ HB.out hn hc hc2).mono ?_
  rintro e w2 ⟨m, a2, zs, c2, rfl, hl, ho, D2⟩
  have q0 : HasBlk w2 w.heap.size #[.int .i64 0, .slice none 0 0] 25 := (D2.block _ (by simp)).trans HX.out
  have d0 := (blk_cell q0 0).trans (cell2_0 _ _)
  have d1 := (blk_cell q0 1).trans (cell2_1 _ _)
  have f0 := blk_frozen q0 0
  have f1 := blk_frozen q0 1
  have HO : Hid (OwnI w2 (w.heap.size + 1) (.slice a2 zs.length c2) zs) := Lib.hid (own_mono ho (by simp))
  have HBW := Lib.hid (HBL.out.trans (D2.mono (by simp)))
  clear ho D2 q0
  go_wp2
  refine bodyPost_ret (v := .agg #[.int .i64 m, .slice a2 zs.length c2]) (by simp [results, Tryd.results20, go_sem, d0, d1]) rfl ?_
  refine ⟨m, a2, zs, c2, rfl, hl, ?_, ?_⟩
  · exact own_mono (ownsRow_setCell_below (ownsRow_setCell_below HO.out (a := ⟨w.heap.size, 0, none⟩) (show w.heap.size < w.heap.size + 1 by omega) _) (a := ⟨w.heap.size, 1, none⟩) (show w.heap.size < w.heap.size + 1 by omega) _) (by omega)
  · exact (HBW.out.setCell (p := ⟨w.heap.size, 0, none⟩) (Nat.le_refl _) _).setCell (p := ⟨w.heap.size, 1, none⟩) (Nat.le_refl _) _

set_option maxRecDepth 100000 in
set_option maxHeartbeats 2000000 in
theorem drawEarSteps_any (a : Option Addr) (n cap : Nat) (w : World) (hb : Bys w w.heap.size a n) (hn : n ≤ 1048576) (hc : n ≤ cap) (hc2 : cap ≤ 9223372036854775807) :
    Calls Tryd.prog 33 #[.slice a n cap] w (DrawnOne w) := by
  have b1 := below1 w (.cells #[.int .i64 0, .slice none 0 0] 25)
  have HB := Lib.hid ((hb.below b1).fewer (B' := (w.alloc (.cells #[.int .i64 0, .slice none 0 0] 25)).heap.size) (by simp) (Nat.le_refl n))
  have HX : Hid (HasBlk (w.alloc (.cells #[.int .i64 0, .slice none 0 0] 25)) w.heap.size #[.int .i64 0, .slice none 0 0] 25) := Lib.hid (alloc_new w _)
  have HBL := Lib.hid b1
  clear hb b1
  go_enter Tryd.func33, Tryd.ntmps33
  go_wp2_with fail
  refine (earD_any a n cap _ HB.out hn hc hc2).mono ?_
  rintro e w2 ⟨m, a2, zs, c2, rfl, hl, ho, D2⟩
  have q0 : HasBlk w2 w.heap.size #[.int .i64 0, .slice none 0 0] 25 := (D2.block _ (by simp)).trans HX.out
  have d0 := (blk_cell q0 0).trans (cell2_0 _ _)
  have d1 := (blk_cell q0 1).trans (cell2_1 _ _)
  have f0 := blk_frozen q0 0
  have f1 := blk_frozen q0 1
  have HO : Hid (OwnI w2 (w.heap.size + 1) (.slice a2 zs.length c2) zs) := Lib.hid (own_mono ho (by simp))
  have HBW := Lib.hid (HBL.out.trans (D2.mono (by simp)))
  clear ho D2 q0
  go_wp2
  refine bodyPost_ret (v := .agg #[.int .i64 m, .slice a2 zs.length c2]) (by simp [results, Tryd.results33, go_sem, d0, d1]) rfl ?_
  refine ⟨m, a2, zs, c2, rfl, hl, ?_, ?_⟩
  · exact own_mono (ownsRow_setCell_below (ownsRow_setCell_below HO.out (a := ⟨w.heap.size, 0, none⟩) (show w.heap.size < w.heap.size + 1 by omega) _) (a := ⟨w.heap.size, 1, none⟩) (show w.heap.size < w.heap.size + 1 by omega) _) (by omega)
  · exact (HBW.out.setCell (p := ⟨w.heap.size, 0, none⟩) (Nat.le_refl _) _).setCell (p := ⟨w.heap.size, 1, none⟩) (Nat.le_refl _) _

set_option maxRecDepth 100000 in
set_option maxHeartbeats 2000000 in
theorem drawEarForest_any (a : Option Addr) (n cap : Nat) (w : World) (hb : Bys w w.heap.size a n) (hn : n ≤ 1048576) (hc : n ≤ cap) (hc2 : cap ≤ 9223372036854775807) :
    Calls Tryd.prog 25 #[.slice a n cap] w (DrawnOne w) := by
  have ha : n ≠ 0 → ∃ g off, a = some ⟨g, off, none⟩ := fun h => by obtain ⟨g, off, e, _⟩ := hb.resolve_left h; exact ⟨g, off, e⟩
  have HB := Lib.hid hb
  clear hb
  go_enter Tryd.func25, Tryd.ntmps25
  go_wp2_with fail
  refine (openD_any a n cap _ hn hc hc2 ha).mono ?_
  rintro e w1 ⟨k, hk, rfl, rfl⟩
  have b1 := below2 w (.cells #[.int .i64 0, .slice none 0 0] 25) (.cells #[.slice a k cap, .int .i64 0] 81)
  have HD1 : Hid (DS ((w.alloc (.cells #[.int .i64 0, .slice none 0 0] 25)).alloc (.cells #[.slice a k cap, .int .i64 0] 81)) (w.heap.size + 1) a k cap 0 ((w.alloc (.cells #[.int .i64 0, .slice none 0 0] 25)).alloc (.cells #[.slice a k cap, .int .i64 0] 81))) := Lib.hid ⟨⟨0, Nat.le_refl _, alloc2_1 w _ _⟩, World.grownBy.refl _ _⟩
  have HB1 := Lib.hid ((HB.out.below b1).fewer (B' := w.heap.size + 1) (by omega) hk)
  have HX : Hid (HasBlk ((w.alloc (.cells #[.int .i64 0, .slice none 0 0] 25)).alloc (.cells #[.slice a k cap, .int .i64 0] 81)) w.heap.size #[.int .i64 0, .slice none 0 0] 25) := Lib.hid (alloc2_0 w _ _)
  have HBL := Lib.hid b1
  clear b1
  go_wp2_with fail
  refine (earsD_any 6 3 6 3 rfl rfl (by decide) (by decide) (by decide) (by decide) (w.heap.size + 1) a k cap 0 _ HD1.out HB1.out (by simp) (by omega) (by omega)).mono ?_
  rintro e w2 ⟨m, a2, zs, c2, rfl, ⟨hl, -, -⟩, ho, D2⟩
  have q0 := HX.out.kept D2.gr (by simp)
  have d0 := (blk_cell q0 0).trans (cell2_0 _ _)
  have d1 := (blk_cell q0 1).trans (cell2_1 _ _)
  have f0 := blk_frozen q0 0
  have f1 := blk_frozen q0 1
  have HO : Hid (OwnI w2 (w.heap.size + 2) (.slice a2 zs.length c2) zs) := Lib.hid (own_mono ho (by simp))
  have HBW := Lib.hid (HBL.out.trans ((Below.refl w.heap.size _).grown D2.gr (by simp; omega) (fun g e => by injection e; omega)))
  clear ho D2 q0
  go_wp2
  refine bodyPost_ret (v := .agg #[.int .i64 m, .slice a2 zs.length c2]) (by simp [results, Tryd.results25, go_sem, d0, d1]) rfl ?_
  refine ⟨m, a2, zs, c2, rfl, Nat.le_trans hl (by decide), ?_, ?_⟩
  · exact own_mono (ownsRow_setCell_below (ownsRow_setCell_below HO.out (a := ⟨w.heap.size, 0, none⟩) (show w.heap.size < w.heap.size + 2 by omega) _) (a := ⟨w.heap.size, 1, none⟩) (show w.heap.size < w.heap.size + 2 by omega) _) (by omega)
  · exact (HBW.out.setCell (p := ⟨w.heap.size, 0, none⟩) (Nat.le_refl _) _).setCell (p := ⟨w.heap.size, 1, none⟩) (Nat.le_refl _) _

end Go.Proofs.YtemolmkkiagiiaaDoor
