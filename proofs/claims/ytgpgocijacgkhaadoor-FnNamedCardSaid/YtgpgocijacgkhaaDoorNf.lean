/- It is proved what FamilyNamed of the model returns; conditions: those of each statement. -/
import Derived.Test.YtgpgocijacgkhaaDoorRows
import Derived.WalkKit
import Derived.WalkSpells
import Derived.ProofKit
import Derived.OpenShut
import Derived.ShutString
import Derived.ChangeOld
import Derived.Below
import Derived.Deep.RegionHeld3
import Derived.Deep.QuietTactic
import Derived.BigQuiet
import Derived.Lib.Hide
import Derived.Lib.SmallJoins
import Derived.Outline
import Derived.Laws.MakeOwn
import Derived.Laws.OwnMore
import Derived.IntWalk
import Derived.RangeFuncNested
import Derived.RangeFuncBound
import Derived.RangeFuncCalls
import Derived.RangeFuncLeaves
import Derived.RangeFuncBox
import Derived.Shelf.Abstract
import Derived.Shelf.RegionOpen
import Derived.OwnWalkIn
import Derived.TacticsInMore
import Derived.LoopNIn
import Derived.LoopIn
import Derived.Maps.AppendAt
import Derived.Deep.AppendLies
import Derived.OwnWalk
import Derived.StillTail
import Derived.StillTactics
import Derived.OrdersIn
import Derived.TacticsIn
import Derived.Shelf.Spec.TrailingZeros
import Derived.StillTailTactics
import Derived.Test.YtgpgocijacgkhaaDoorRaaa
import Derived.Test.YtgpgocijacgkhaaDoorRaab
import Derived.Test.YtgpgocijacgkhaaDoorRaai
import Derived.Test.YtgpgocijacgkhaaDoorNc
import Derived.Test.YtgpgocijacgkhaaDoorNd
import Derived.Test.YtgpgocijacgkhaaDoorNe
import Derived.Test.YtgpgocijacgkhaaDoorRaac
namespace Go.Proofs.YtgpgocijacgkhaaDoor
open Go.RowKit

def namIn (m : Int) (zs ps : List Int) : Bool := famIn m zs && namesB m.toNat ps
def namM (m : Int) (zs ps : List Int) : Int := if namIn m zs ps then m else 0
def namZ (m : Int) (zs ps : List Int) : List Int := if namIn m zs ps then zs.map (callZ ps) else []
theorem namZ_len (m : Int) (zs ps : List Int) (h : zs.length ≤ 1048576) : (namZ m zs ps).length ≤ 1048576 := by
  unfold namZ; split <;> simp; exact h

set_option maxRecDepth 100000 in
set_option maxHeartbeats 2000000 in
theorem specNamed_no1 (m : Int) (a b : Option Addr) (c d : Nat) (zs ps : List Int) (w : World) (ha : Ints w w.heap.size a zs) (hb : Ints w w.heap.size b ps) (hx : zs.length ≤ 1048576) (hy : ps.length ≤ 1048576) (hf : famIn m zs = false) :
    Calls Tryd.prog 22 #[.agg #[.int .i64 m, .slice a zs.length c], .slice b ps.length d] w (RetFB w 0 [] false) := by
  have HA := Lib.hid ((ha.below (below2 w (.cells #[.int .i64 m, .slice a zs.length c] 25) (.cells #[.int .i64 0, .slice none 0 0] 25))).mono (B' := ((w.alloc (.cells #[.int .i64 m, .slice a zs.length c] 25)).alloc (.cells #[.int .i64 0, .slice none 0 0] 25)).heap.size) (by simp; omega))
  have HBp := Lib.hid (hb.below (below2 w (.cells #[.int .i64 m, .slice a zs.length c] 25) (.cells #[.int .i64 0, .slice none 0 0] 25)))
  have HF := Lib.hid hf
  clear hf ha hb
  go_enter Tryd.func22, Tryd.ntmps22
  go_wp2_with fail
  refine (specFamilyIn_any _ _ _ zs _ HA.out hx).mono ?_
  rintro e w1 ⟨rfl, hb⟩
  rw [HF.out]
  have b1 : w1.heap[w.heap.size + 1]? = some (.cells #[.int .i64 0, .slice none 0 0] 25 (0, 0)) := (hb.block _ (by simp)).trans (alloc2_1 w _ _)
  have HB := Lib.hid ((below2 w _ _).trans (hb.mono (by simp; omega)))
  have z1 : w.heap.size + 1 < w1.heap.size := by have := hb.size; simp at this; omega
  clear hb
  go_wp2_with fail
  refine (l1None_any _).mono ?_
  rintro e w2 ⟨a2, c2, rfl, ho2, hb⟩
  have b2 := (hb.block _ z1).trans b1
  have d0 := (blk_cell b2 0).trans (cell2_0 _ _)
  have d1 := (blk_cell b2 1).trans (cell2_1 _ _)
  have f0 := blk_frozen b2 0
  have f1 := blk_frozen b2 1
  have z2 : w.heap.size + 1 < w2.heap.size := by have := hb.size; omega
  have HB2 := Lib.hid (HB.out.trans (hb.mono (by omega)))
  have HO := Lib.hid ho2
  clear hb b1 b2 ho2
  go_wp2
  refine bodyPost_ret (v := .tuple #[.agg #[.int .i64 0, .slice a2 0 c2], .bool false]) (by simp [results, Tryd.results22, go_sem, d0, d1]) rfl ?_
  refine ⟨a2, c2, rfl, ?_, ?_⟩
  · exact own_mono (ownsRow_setCell_below (ownsRow_setCell_below HO.out (by simp; omega) _) (by simp; omega) _) (by omega)
  · exact (HB2.out.setCell (p := ⟨w.heap.size + 1, 0, none⟩) (by simp) _).setCell (p := ⟨w.heap.size + 1, 1, none⟩) (by simp) _

set_option maxRecDepth 100000 in
set_option maxHeartbeats 2000000 in
theorem specNamed_no2 (m : Int) (a b : Option Addr) (c d : Nat) (zs ps : List Int) (w : World) (ha : Ints w w.heap.size a zs) (hb : Ints w w.heap.size b ps) (hx : zs.length ≤ 1048576) (hy : ps.length ≤ 1048576) (hf : famIn m zs = true) (hi : namesB m.toNat ps = false) :
    Calls Tryd.prog 22 #[.agg #[.int .i64 m, .slice a zs.length c], .slice b ps.length d] w (RetFB w 0 [] false) := by
  have HA := Lib.hid ((ha.below (below2 w (.cells #[.int .i64 m, .slice a zs.length c] 25) (.cells #[.int .i64 0, .slice none 0 0] 25))).mono (B' := ((w.alloc (.cells #[.int .i64 m, .slice a zs.length c] 25)).alloc (.cells #[.int .i64 0, .slice none 0 0] 25)).heap.size) (by simp; omega))
  have HBp := Lib.hid (hb.below (below2 w (.cells #[.int .i64 m, .slice a zs.length c] 25) (.cells #[.int .i64 0, .slice none 0 0] 25)))
  have HF := Lib.hid hf
  have HI := Lib.hid hi
  obtain ⟨hm1, hm6, -, -⟩ := famIn_out hf
  have hmm : Hid (m = ((m.toNat : Nat) : Int)) := Lib.hid (by omega)
  have hk1 : 1 ≤ m.toNat := by omega
  have hk6 : m.toNat ≤ 6 := by omega
  clear hf ha hb hi
  go_enter Tryd.func22, Tryd.ntmps22
  go_wp2_with fail
  refine (specFamilyIn_any _ _ _ zs _ HA.out hx).mono ?_
  rintro e w1 ⟨rfl, hb⟩
  rw [HF.out]
  have b1 : w1.heap[w.heap.size + 1]? = some (.cells #[.int .i64 0, .slice none 0 0] 25 (0, 0)) := (hb.block _ (by simp)).trans (alloc2_1 w _ _)
  have HB := Lib.hid ((below2 w _ _).trans (hb.mono (by simp; omega)))
  have z1 : w.heap.size + 1 < w1.heap.size := by have := hb.size; simp at this; omega
  have b0 : w1.heap[w.heap.size]? = some (.cells #[.int .i64 m, .slice a zs.length c] 25 (0, 0)) := (hb.block _ (by simp; omega)).trans (alloc2_0 w _ _)
  have x0 := (blk_cell b0 0).trans (cell2_0 _ _)
  have x1 := (blk_cell b0 1).trans (cell2_1 _ _)
  have HBp1 := Lib.hid ((HBp.out.below (hb.mono (by simp; omega))).mono (B' := w1.heap.size) (by omega))
  have HA1 := Lib.hid ((HA.out.below hb).mono (B' := w1.heap.size) hb.size)
  clear hb b0
  go_wp2_with fail
  have HC := Lib.hid (l1Names_any m.toNat hk1 hk6 b d ps w1 HBp1.out hy)
  rw [← hmm.out] at HC
  refine HC.out.mono ?_
  rintro e w1'' ⟨rfl, rfl⟩
  rw [HI.out]
  go_wp2_with fail
  refine (l1None_any _).mono ?_
  rintro e w2 ⟨a2, c2, rfl, ho2, hb⟩
  have b2 := (hb.block _ z1).trans b1
  have d0 := (blk_cell b2 0).trans (cell2_0 _ _)
  have d1 := (blk_cell b2 1).trans (cell2_1 _ _)
  have f0 := blk_frozen b2 0
  have f1 := blk_frozen b2 1
  have z2 : w.heap.size + 1 < w2.heap.size := by have := hb.size; omega
  have HB2 := Lib.hid (HB.out.trans (hb.mono (by omega)))
  have HO := Lib.hid ho2
  clear hb b1 b2 ho2
  go_wp2
  refine bodyPost_ret (v := .tuple #[.agg #[.int .i64 0, .slice a2 0 c2], .bool false]) (by simp [results, Tryd.results22, go_sem, d0, d1]) rfl ?_
  refine ⟨a2, c2, rfl, ?_, ?_⟩
  · exact own_mono (ownsRow_setCell_below (ownsRow_setCell_below HO.out (by simp; omega) _) (by simp; omega) _) (by omega)
  · exact (HB2.out.setCell (p := ⟨w.heap.size + 1, 0, none⟩) (by simp) _).setCell (p := ⟨w.heap.size + 1, 1, none⟩) (by simp) _

set_option maxRecDepth 100000 in
set_option maxHeartbeats 2000000 in
theorem specNamed_yes (m : Int) (a b : Option Addr) (c d : Nat) (zs ps : List Int) (w : World) (ha : Ints w w.heap.size a zs) (hb : Ints w w.heap.size b ps) (hx : zs.length ≤ 1048576) (hy : ps.length ≤ 1048576) (hf : famIn m zs = true) (hi : namesB m.toNat ps = true) :
    Calls Tryd.prog 22 #[.agg #[.int .i64 m, .slice a zs.length c], .slice b ps.length d] w (RetFB w m (zs.map (callZ ps)) true) := by
  have HA := Lib.hid ((ha.below (below2 w (.cells #[.int .i64 m, .slice a zs.length c] 25) (.cells #[.int .i64 0, .slice none 0 0] 25))).mono (B' := ((w.alloc (.cells #[.int .i64 m, .slice a zs.length c] 25)).alloc (.cells #[.int .i64 0, .slice none 0 0] 25)).heap.size) (by simp; omega))
  have HBp := Lib.hid (hb.below (below2 w (.cells #[.int .i64 m, .slice a zs.length c] 25) (.cells #[.int .i64 0, .slice none 0 0] 25)))
  have HF := Lib.hid hf
  have HI := Lib.hid hi
  obtain ⟨hm1, hm6, -, -⟩ := famIn_out hf
  have hmm : Hid (m = ((m.toNat : Nat) : Int)) := Lib.hid (by omega)
  have hk1 : 1 ≤ m.toNat := by omega
  have hk6 : m.toNat ≤ 6 := by omega
  have HOk := Lib.hid (namesB_ok hk6 hi)
  clear hf ha hb hi
  go_enter Tryd.func22, Tryd.ntmps22
  go_wp2_with fail
  refine (specFamilyIn_any _ _ _ zs _ HA.out hx).mono ?_
  rintro e w1 ⟨rfl, hb⟩
  rw [HF.out]
  have b1 : w1.heap[w.heap.size + 1]? = some (.cells #[.int .i64 0, .slice none 0 0] 25 (0, 0)) := (hb.block _ (by simp)).trans (alloc2_1 w _ _)
  have HB := Lib.hid ((below2 w _ _).trans (hb.mono (by simp; omega)))
  have z1 : w.heap.size + 1 < w1.heap.size := by have := hb.size; simp at this; omega
  have b0 : w1.heap[w.heap.size]? = some (.cells #[.int .i64 m, .slice a zs.length c] 25 (0, 0)) := (hb.block _ (by simp; omega)).trans (alloc2_0 w _ _)
  have x0 := (blk_cell b0 0).trans (cell2_0 _ _)
  have x1 := (blk_cell b0 1).trans (cell2_1 _ _)
  have HBp1 := Lib.hid ((HBp.out.below (hb.mono (by simp; omega))).mono (B' := w1.heap.size) (by omega))
  have HA1 := Lib.hid ((HA.out.below hb).mono (B' := w1.heap.size) hb.size)
  clear hb b0
  go_wp2_with fail
  have HC := Lib.hid (l1Names_any m.toNat hk1 hk6 b d ps w1 HBp1.out hy)
  rw [← hmm.out] at HC
  refine HC.out.mono ?_
  rintro e w1'' ⟨rfl, rfl⟩
  rw [HI.out]
  have HD := Lib.hid (l1Named_any m.toNat a b c d zs ps w1 HA1.out HBp1.out (by rw [← hmm.out]; exact HF.out) HOk.out)
  rw [← hmm.out] at HD
  go_wp2_with fail
  refine HD.out.mono ?_
  rintro e w2 ⟨a2, c2, rfl, ho2, hb⟩
  have b2 := (hb.block _ z1).trans b1
  have d0 := (blk_cell b2 0).trans (cell2_0 _ _)
  have d1 := (blk_cell b2 1).trans (cell2_1 _ _)
  have f0 := blk_frozen b2 0
  have f1 := blk_frozen b2 1
  have z2 : w.heap.size + 1 < w2.heap.size := by have := hb.size; omega
  have HB2 := Lib.hid (HB.out.trans (hb.mono (by omega)))
  have HO := Lib.hid ho2
  clear hb b1 b2 ho2
  go_wp2
  refine bodyPost_ret (v := .tuple #[.agg #[.int .i64 m, .slice a2 (zs.map (callZ ps)).length c2], .bool true]) (by simp [results, Tryd.results22, go_sem, d0, d1]) rfl ?_
  refine ⟨a2, c2, rfl, ?_, ?_⟩
  · exact own_mono (ownsRow_setCell_below (ownsRow_setCell_below HO.out (by simp; omega) _) (by simp; omega) _) (by omega)
  · exact (HB2.out.setCell (p := ⟨w.heap.size + 1, 0, none⟩) (by simp) _).setCell (p := ⟨w.heap.size + 1, 1, none⟩) (by simp) _

theorem specNamed_any (m : Int) (a b : Option Addr) (c d : Nat) (zs ps : List Int) (w : World) (ha : Ints w w.heap.size a zs) (hb : Ints w w.heap.size b ps) (hx : zs.length ≤ 1048576) (hy : ps.length ≤ 1048576) :
    Calls Tryd.prog 22 #[.agg #[.int .i64 m, .slice a zs.length c], .slice b ps.length d] w (RetFB w (namM m zs ps) (namZ m zs ps) (namIn m zs ps)) := by
  unfold namM namZ namIn
  cases h1 : famIn m zs
  · exact specNamed_no1 m a b c d zs ps w ha hb hx hy h1
  · cases h2 : namesB m.toNat ps
    · exact specNamed_no2 m a b c d zs ps w ha hb hx hy h1 h2
    · exact specNamed_yes m a b c d zs ps w ha hb hx hy h1 h2

end Go.Proofs.YtgpgocijacgkhaaDoor
