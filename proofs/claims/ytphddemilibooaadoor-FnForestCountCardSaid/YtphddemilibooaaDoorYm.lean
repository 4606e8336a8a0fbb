/- It is proved that the families of chapter 6, drawn from bytes, are the call's own; conditions: those of each statement. -/
import Derived.Test.YtphddemilibooaaDoorRows
import Derived.WalkKit
import Derived.WalkSpells
import Derived.ProofKit
import Derived.OpenShut
import Derived.ShutString
import Derived.ChangeOld
import Derived.Below
import Derived.Deep.RegionHeld3
import Derived.Deep.QuietTactic
import Derived.BigQuiet
import Derived.Lib.Hide
import Derived.Lib.SmallJoins
import Derived.Outline
import Derived.Laws.MakeOwn
import Derived.Laws.OwnMore
import Derived.IntWalk
import Derived.Deep.RegionLaw
import Derived.Deep.AppendLies
import Derived.StillTailTactics
import Derived.RangeFuncNested
import Derived.RangeFuncBound
import Derived.RangeFuncCalls
import Derived.RangeFuncLeaves
import Derived.RangeFuncBox
import Derived.Shelf.Abstract
import Derived.Shelf.RegionOpen
import Derived.OwnWalkIn
import Derived.TacticsInMore
import Derived.LoopNIn
import Derived.LoopIn
import Derived.Maps.AppendAt
import Derived.OwnWalk
import Derived.Shelf.Spec.TrailingZeros
import Derived.Test.YtphddemilibooaaDoorRaaa
import Derived.Test.YtphddemilibooaaDoorRaab
import Derived.Test.YtphddemilibooaaDoorDb
import Derived.Test.YtphddemilibooaaDoorRaar
import Derived.Test.YtphddemilibooaaDoorRaad
import Derived.Test.YtphddemilibooaaDoorYk
namespace Go.Proofs.YtphddemilibooaaDoor
open Go.RowKit

set_option maxRecDepth 100000 in
set_option maxHeartbeats 2000000 in
theorem drawEarForest_any (a : Option Addr) (n cap : Nat) (w : World) (hb : Bys w w.heap.size a n) (hn : n ≤ 1048576) (hc : n ≤ cap) (hc2 : cap ≤ 9223372036854775807) :
    Calls Tryd.prog 12 #[.slice a n cap] w (DrawnOne w) := by
  have ha : n ≠ 0 → ∃ g off, a = some ⟨g, off, none⟩ := fun h => by obtain ⟨g, off, e, _⟩ := hb.resolve_left h; exact ⟨g, off, e⟩
  have HB := Lib.hid hb
  clear hb
  go_enter Tryd.func12, Tryd.ntmps12
  go_wp2_with fail
  refine (openD_any a n cap _ hn hc hc2 ha).mono ?_
  rintro e w1 ⟨k, hk, rfl, rfl⟩
  have b1 := below2 w (.cells #[.int .i64 0, .slice none 0 0] 25) (.cells #[.slice a k cap, .int .i64 0] 77)
  have HD1 : Hid (DS ((w.alloc (.cells #[.int .i64 0, .slice none 0 0] 25)).alloc (.cells #[.slice a k cap, .int .i64 0] 77)) (w.heap.size + 1) a k cap 0 ((w.alloc (.cells #[.int .i64 0, .slice none 0 0] 25)).alloc (.cells #[.slice a k cap, .int .i64 0] 77))) := Lib.hid ⟨⟨0, Nat.le_refl _, alloc2_1 w _ _⟩, World.grownBy.refl _ _⟩
  have HB1 := Lib.hid ((HB.out.below b1).fewer (B' := w.heap.size + 1) (by omega) hk)
  have HX : Hid (HasBlk ((w.alloc (.cells #[.int .i64 0, .slice none 0 0] 25)).alloc (.cells #[.slice a k cap, .int .i64 0] 77)) w.heap.size #[.int .i64 0, .slice none 0 0] 25) := Lib.hid (alloc2_0 w _ _)
  have HBL := Lib.hid b1
  clear b1
  go_wp2_with fail
  refine (earsD_any 6 3 6 3 rfl rfl (by decide) (by decide) (by decide) (by decide) (w.heap.size + 1) a k cap 0 _ HD1.out HB1.out (by simp) (by omega) (by omega)).mono ?_
  rintro e w2 ⟨m, a2, zs, c2, rfl, ⟨hl, -, -⟩, ho, D2⟩
  have q0 := HX.out.kept D2.gr (by simp)
  have d0 := (blk_cell q0 0).trans (cell2_0 _ _)
  have d1 := (blk_cell q0 1).trans (cell2_1 _ _)
  have f0 := blk_frozen q0 0
  have f1 := blk_frozen q0 1
  have HO : Hid (OwnI w2 (w.heap.size + 2) (.slice a2 zs.length c2) zs) := Lib.hid (own_mono ho (by simp))
  have HBW := Lib.hid (HBL.out.trans ((Below.refl w.heap.size _).grown D2.gr (by simp; omega) (fun g e => by injection e; omega)))
  clear ho D2 q0
  go_wp2
  refine bodyPost_ret (v := .agg #[.int .i64 m, .slice a2 zs.length c2]) (by simp [results, Tryd.results12, go_sem, d0, d1]) rfl ?_
  refine ⟨m, a2, zs, c2, rfl, Nat.le_trans hl (by decide), ?_, ?_⟩
  · exact own_mono (ownsRow_setCell_below (ownsRow_setCell_below HO.out (a := ⟨w.heap.size, 0, none⟩) (show w.heap.size < w.heap.size + 2 by omega) _) (a := ⟨w.heap.size, 1, none⟩) (show w.heap.size < w.heap.size + 2 by omega) _) (by omega)
  · exact (HBW.out.setCell (p := ⟨w.heap.size, 0, none⟩) (Nat.le_refl _) _).setCell (p := ⟨w.heap.size, 1, none⟩) (Nat.le_refl _) _

end Go.Proofs.YtphddemilibooaaDoor
