/- It is proved that the family drawn for CoverOwn is the call's own; conditions: those of each statement. -/
import Derived.Test.YtcmpjegfikdofaaDoorRows
import Derived.WalkKit
import Derived.WalkSpells
import Derived.ProofKit
import Derived.OpenShut
import Derived.ShutString
import Derived.ChangeOld
import Derived.Below
import Derived.Deep.RegionHeld3
import Derived.Deep.QuietTactic
import Derived.BigQuiet
import Derived.Lib.Hide
import Derived.Lib.SmallJoins
import Derived.Outline
import Derived.Laws.MakeOwn
import Derived.Laws.OwnMore
import Derived.IntWalk
import Derived.Deep.RegionLaw
import Derived.Deep.AppendLies
import Derived.RangeFuncNested
import Derived.RangeFuncBound
import Derived.RangeFuncCalls
import Derived.RangeFuncLeaves
import Derived.RangeFuncBox
import Derived.Shelf.Abstract
import Derived.Shelf.RegionOpen
import Derived.OwnWalkIn
import Derived.TacticsInMore
import Derived.LoopNIn
import Derived.LoopIn
import Derived.Maps.AppendAt
import Derived.OwnWalk
import Derived.Shelf.Spec.TrailingZeros
import Derived.Test.YtcmpjegfikdofaaDoorMraa
import Derived.Test.YtcmpjegfikdofaaDoorMrac
import Derived.Test.YtcmpjegfikdofaaDoorDb
import Derived.Test.YtcmpjegfikdofaaDoorMrae
import Derived.Test.YtcmpjegfikdofaaDoorMraf
import Derived.Test.YtcmpjegfikdofaaDoorMrab
namespace Go.Proofs.YtcmpjegfikdofaaDoor
open Go.RowKit

theorem own_built {W : World} {B : Nat} (xs : List Int) (hB : B ≤ W.heap.size) (hx : xs.length ≤ 9) : OwnI (W.alloc (.cells (xs.map (Value.int .i64)).toArray 3)) B (.slice (some ⟨W.heap.size, 0, none⟩) xs.length xs.length) xs := by
  refine ⟨by simp, .inr ⟨_, _, _, rfl, hB, alloc_new W _, Nat.le_refl _, by simp only [maxLen]; omega, by simp, ?_⟩⟩
  rw [List.take_of_length_le (by simp)]

set_option maxRecDepth 100000 in
set_option maxHeartbeats 4000000 in
theorem drawCoverOwn_any (a : Option Addr) (n cap : Nat) (w : World) (hb : Bys w w.heap.size a n) (hn : n ≤ 1048576) (hc : n ≤ cap) (hc2 : cap ≤ 9223372036854775807) :
    Calls Tryd.prog 33 #[.slice a n cap] w (DrawnOne w) := by
  have ha : n ≠ 0 → ∃ g off, a = some ⟨g, off, none⟩ := fun h => by obtain ⟨g, off, e, _⟩ := hb.resolve_left h; exact ⟨g, off, e⟩
  have HB := Lib.hid hb
  clear hb
  go_enter Tryd.func33, Tryd.ntmps33
  go_wp2_with fail
  refine (openD_any a n cap _ hn hc hc2 ha).mono ?_
  rintro e w1 ⟨k, hk, rfl, rfl⟩
  have b1 := below2 w (.cells #[.int .i64 0, .slice none 0 0] 25) (.cells #[.slice a k cap, .int .i64 0] 82)
  have HD1 : Hid (DS ((w.alloc (.cells #[.int .i64 0, .slice none 0 0] 25)).alloc (.cells #[.slice a k cap, .int .i64 0] 82)) (w.heap.size + 1) a k cap 0 ((w.alloc (.cells #[.int .i64 0, .slice none 0 0] 25)).alloc (.cells #[.slice a k cap, .int .i64 0] 82))) := Lib.hid ⟨⟨0, Nat.le_refl _, alloc2_1 w _ _⟩, World.grownBy.refl _ _⟩
  have HB1 := Lib.hid ((HB.out.below b1).fewer (B' := w.heap.size + 1) (by omega) hk)
  have HX : Hid (HasBlk ((w.alloc (.cells #[.int .i64 0, .slice none 0 0] 25)).alloc (.cells #[.slice a k cap, .int .i64 0] 82)) w.heap.size #[.int .i64 0, .slice none 0 0] 25) := Lib.hid (alloc2_0 w _ _)
  have HBL := Lib.hid b1
  clear b1
  go_wp2_with fail
  refine (pickX HD1.out HB1.out (by simp) (by omega) (by omega) 5).mono ?_
  rintro e w2 ⟨r, rfl, hr, D2, g2⟩
  have hr5 : r < 5 := by have := hr (by decide); omega
  have q2 : HasBlk w2 w.heap.size #[.int .i64 0, .slice none 0 0] 25 := HX.out.kept g2 (by simp)
  have hs2 : w.heap.size + 1 < w2.heap.size := by have := g2.size; simp at this; omega
  have HD2 := Lib.hid D2.rebase
  have HB2 := Lib.hid (HB1.out.kept (by simp) g2)
  have HBW := Lib.hid (HBL.out.trans ((Below.refl w.heap.size _).grown g2 (by simp; omega) (fun g e => by injection e; omega)))
  have HX2 := Lib.hid q2
  clear hr D2 g2 q2 HD1 HB1 HX HBL
  rcases (show r = 0 ∨ r = 1 ∨ r = 2 ∨ 3 ≤ r by omega) with rfl | rfl | rfl | hr3
  · have hb3 : Below w2.heap.size w2 (w2.alloc (.cells #[.int .i64 3, .int .i64 5, .int .i64 6] 3)) := below1 w2 _
    have q3 : HasBlk (w2.alloc (.cells #[.int .i64 3, .int .i64 5, .int .i64 6] 3)) w.heap.size #[.int .i64 0, .slice none 0 0] 25 := (hb3.block _ (by omega)).trans HX2.out
    have d0 := (blk_cell q3 0).trans (cell2_0 _ _)
    have d1 := (blk_cell q3 1).trans (cell2_1 _ _)
    have f0 := blk_frozen q3 0
    have f1 := blk_frozen q3 1
    have HO : Hid (OwnI (w2.alloc (.cells #[.int .i64 3, .int .i64 5, .int .i64 6] 3)) (w.heap.size + 1) (.slice (some ⟨w2.heap.size, 0, none⟩) 3 3) [3, 5, 6]) := Lib.hid (own_built (W := w2) [3, 5, 6] (by omega) (by decide))
    have HBF := Lib.hid (HBW.out.trans (hb3.mono (by omega)))
    clear hb3 q3 HBW HX2
    go_wp2
    refine bodyPost_ret (v := .agg #[.int .i64 3, .slice (some ⟨w2.heap.size, 0, none⟩) 3 3]) (by simp [results, Tryd.results33, go_sem, d0, d1]) rfl ?_
    refine ⟨3, _, [3, 5, 6], 3, rfl, by decide, ?_, ?_⟩
    · exact own_mono (ownsRow_setCell_below (ownsRow_setCell_below HO.out (a := ⟨w.heap.size, 0, none⟩) (show w.heap.size < w.heap.size + 1 by omega) _) (a := ⟨w.heap.size, 1, none⟩) (show w.heap.size < w.heap.size + 1 by omega) _) (by omega)
    · exact (HBF.out.setCell (p := ⟨w.heap.size, 0, none⟩) (Nat.le_refl _) _).setCell (p := ⟨w.heap.size, 1, none⟩) (Nat.le_refl _) _
  · have hb3 : Below w2.heap.size w2 (w2.alloc (.cells #[.int .i64 3, .int .i64 5, .int .i64 9, .int .i64 14] 3)) := below1 w2 _
    have q3 : HasBlk (w2.alloc (.cells #[.int .i64 3, .int .i64 5, .int .i64 9, .int .i64 14] 3)) w.heap.size #[.int .i64 0, .slice none 0 0] 25 := (hb3.block _ (by omega)).trans HX2.out
    have d0 := (blk_cell q3 0).trans (cell2_0 _ _)
    have d1 := (blk_cell q3 1).trans (cell2_1 _ _)
    have f0 := blk_frozen q3 0
    have f1 := blk_frozen q3 1
    have HO : Hid (OwnI (w2.alloc (.cells #[.int .i64 3, .int .i64 5, .int .i64 9, .int .i64 14] 3)) (w.heap.size + 1) (.slice (some ⟨w2.heap.size, 0, none⟩) 4 4) [3, 5, 9, 14]) := Lib.hid (own_built (W := w2) [3, 5, 9, 14] (by omega) (by decide))
    have HBF := Lib.hid (HBW.out.trans (hb3.mono (by omega)))
    clear hb3 q3 HBW HX2
    go_wp2
    refine bodyPost_ret (v := .agg #[.int .i64 4, .slice (some ⟨w2.heap.size, 0, none⟩) 4 4]) (by simp [results, Tryd.results33, go_sem, d0, d1]) rfl ?_
    refine ⟨4, _, [3, 5, 9, 14], 4, rfl, by decide, ?_, ?_⟩
    · exact own_mono (ownsRow_setCell_below (ownsRow_setCell_below HO.out (a := ⟨w.heap.size, 0, none⟩) (show w.heap.size < w.heap.size + 1 by omega) _) (a := ⟨w.heap.size, 1, none⟩) (show w.heap.size < w.heap.size + 1 by omega) _) (by omega)
    · exact (HBF.out.setCell (p := ⟨w.heap.size, 0, none⟩) (Nat.le_refl _) _).setCell (p := ⟨w.heap.size, 1, none⟩) (Nat.le_refl _) _
  · have hb3 : Below w2.heap.size w2 (w2.alloc (.cells #[.int .i64 2] 3)) := below1 w2 _
    have q3 : HasBlk (w2.alloc (.cells #[.int .i64 2] 3)) w.heap.size #[.int .i64 0, .slice none 0 0] 25 := (hb3.block _ (by omega)).trans HX2.out
    have d0 := (blk_cell q3 0).trans (cell2_0 _ _)
    have d1 := (blk_cell q3 1).trans (cell2_1 _ _)
    have f0 := blk_frozen q3 0
    have f1 := blk_frozen q3 1
    have HO : Hid (OwnI (w2.alloc (.cells #[.int .i64 2] 3)) (w.heap.size + 1) (.slice (some ⟨w2.heap.size, 0, none⟩) 1 1) [2]) := Lib.hid (own_built (W := w2) [2] (by omega) (by decide))
    have HBF := Lib.hid (HBW.out.trans (hb3.mono (by omega)))
    clear hb3 q3 HBW HX2
    go_wp2
    refine bodyPost_ret (v := .agg #[.int .i64 2, .slice (some ⟨w2.heap.size, 0, none⟩) 1 1]) (by simp [results, Tryd.results33, go_sem, d0, d1]) rfl ?_
    refine ⟨2, _, [2], 1, rfl, by decide, ?_, ?_⟩
    · exact own_mono (ownsRow_setCell_below (ownsRow_setCell_below HO.out (a := ⟨w.heap.size, 0, none⟩) (show w.heap.size < w.heap.size + 1 by omega) _) (a := ⟨w.heap.size, 1, none⟩) (show w.heap.size < w.heap.size + 1 by omega) _) (by omega)
    · exact (HBF.out.setCell (p := ⟨w.heap.size, 0, none⟩) (Nat.le_refl _) _).setCell (p := ⟨w.heap.size, 1, none⟩) (Nat.le_refl _) _
  · have hrI : (3 : Int) ≤ (r : Int) := by omega
    have hr0 : ¬ ((r : Int) = 0) := by omega
    have hr1 : ¬ ((r : Int) = 1) := by omega
    have hr2 : ¬ ((r : Int) = 2) := by omega
    go_wp2_with fail
    refine (someD_any 6 7 6 7 rfl rfl (by decide) (by decide) (by decide) (w.heap.size + 1) a k cap _ _ HD2.out HB2.out (by omega) (by omega) (by omega)).mono ?_
    rintro e w3 ⟨m, a3, zs, c3, rfl, ⟨hl, -, -⟩, ho, D3⟩
    have q3 : HasBlk w3 w.heap.size #[.int .i64 0, .slice none 0 0] 25 := HX2.out.kept D3.gr (fun e => by injection e; omega)
    have d0 := (blk_cell q3 0).trans (cell2_0 _ _)
    have d1 := (blk_cell q3 1).trans (cell2_1 _ _)
    have f0 := blk_frozen q3 0
    have f1 := blk_frozen q3 1
    have HO : Hid (OwnI w3 (w.heap.size + 2) (.slice a3 zs.length c3) zs) := Lib.hid (own_mono ho (by omega))
    have HBF := Lib.hid (HBW.out.trans ((Below.refl w.heap.size _).grown D3.gr (by omega) (fun g e => by injection e; omega)))
    clear ho D3 q3
    go_wp2
    refine bodyPost_ret (v := .agg #[.int .i64 m, .slice a3 zs.length c3]) (by simp [results, Tryd.results33, go_sem, d0, d1]) rfl ?_
    refine ⟨m, a3, zs, c3, rfl, Nat.le_trans hl (by decide), ?_, ?_⟩
    · exact own_mono (ownsRow_setCell_below (ownsRow_setCell_below HO.out (a := ⟨w.heap.size, 0, none⟩) (show w.heap.size < w.heap.size + 2 by omega) _) (a := ⟨w.heap.size, 1, none⟩) (show w.heap.size < w.heap.size + 2 by omega) _) (by omega)
    · exact (HBF.out.setCell (p := ⟨w.heap.size, 0, none⟩) (Nat.le_refl _) _).setCell (p := ⟨w.heap.size, 1, none⟩) (Nat.le_refl _) _

end Go.Proofs.YtcmpjegfikdofaaDoor
