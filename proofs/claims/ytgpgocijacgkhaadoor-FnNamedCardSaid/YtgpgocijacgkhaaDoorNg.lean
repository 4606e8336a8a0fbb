/- It is proved what FamilyNamed of the program returns; conditions: those of each statement. -/
import Derived.Test.YtgpgocijacgkhaaDoorRows
import Derived.WalkKit
import Derived.WalkSpells
import Derived.ProofKit
import Derived.OpenShut
import Derived.ShutString
import Derived.ChangeOld
import Derived.Below
import Derived.Deep.RegionHeld3
import Derived.Deep.QuietTactic
import Derived.BigQuiet
import Derived.Lib.Hide
import Derived.Lib.SmallJoins
import Derived.Outline
import Derived.Laws.MakeOwn
import Derived.Laws.OwnMore
import Derived.IntWalk
import Derived.RangeFuncNested
import Derived.RangeFuncBound
import Derived.RangeFuncCalls
import Derived.RangeFuncLeaves
import Derived.RangeFuncBox
import Derived.Shelf.Abstract
import Derived.Shelf.RegionOpen
import Derived.OwnWalkIn
import Derived.TacticsInMore
import Derived.LoopNIn
import Derived.LoopIn
import Derived.Maps.AppendAt
import Derived.Deep.AppendLies
import Derived.OwnWalk
import Derived.StillTail
import Derived.StillTactics
import Derived.OrdersIn
import Derived.TacticsIn
import Derived.Shelf.Spec.TrailingZeros
import Derived.StillTailTactics
import Derived.Test.YtgpgocijacgkhaaDoorRaaa
import Derived.Test.YtgpgocijacgkhaaDoorRaab
import Derived.Test.YtgpgocijacgkhaaDoorNa
import Derived.Test.YtgpgocijacgkhaaDoorNb
import Derived.Test.YtgpgocijacgkhaaDoorNc
import Derived.Test.YtgpgocijacgkhaaDoorNd
import Derived.Test.YtgpgocijacgkhaaDoorNe
import Derived.Test.YtgpgocijacgkhaaDoorNf
import Derived.Test.YtgpgocijacgkhaaDoorRaac
import Derived.Test.YtgpgocijacgkhaaDoorTb
import Derived.Test.YtgpgocijacgkhaaDoorRaae
namespace Go.Proofs.YtgpgocijacgkhaaDoor
open Go.RowKit

set_option maxRecDepth 100000 in
set_option maxHeartbeats 2000000 in
theorem implNamed_no1 (m : Int) (a b : Option Addr) (c d : Nat) (zs ps : List Int) (w : World) (ha : Ints w w.heap.size a zs) (hb : Ints w w.heap.size b ps) (hx : zs.length ≤ 1048576) (hy : ps.length ≤ 1048576) (hf : famIn m zs = false) :
    Calls Tryd.prog 21 #[.agg #[.int .i64 m, .slice a zs.length c], .slice b ps.length d] w (RetFB w 0 [] false) := by
  have HB0 := Lib.hid (below3 w (.cells #[.int .i64 m, .slice a zs.length c] 25) (.cells #[.slice b ps.length d] 23) (.cells #[.int .i64 0, .slice none 0 0] 25))
  have HA := Lib.hid (ha.below HB0.out)
  have HBp := Lib.hid (hb.below HB0.out)
  have HF := Lib.hid hf
  clear hf ha hb
  go_enter Tryd.func21, Tryd.ntmps21
  go_wp2_with fail
  refine (implFamilyIn_any _ _ _ zs _ (HA.out.mono (by simp; omega)) hx).mono ?_
  rintro e w1 ⟨rfl, hb⟩
  rw [HF.out]
  have b0 : w1.heap[w.heap.size]? = some (.cells #[.int .i64 m, .slice a zs.length c] 25 (0, 0)) := (hb.block _ (by simp; omega)).trans (alloc3_0 w _ _ _)
  have b1 : w1.heap[w.heap.size + 1]? = some (.cells #[.slice b ps.length d] 23 (0, 0)) := (hb.block _ (by simp)).trans (alloc3_1 w _ _ _)
  have b2 : w1.heap[w.heap.size + 1 + 1]? = some (.cells #[.int .i64 0, .slice none 0 0] 25 (0, 0)) := (hb.block _ (by simp)).trans (alloc3_2 w _ _ _)
  have x0 := (blk_cell b0 0).trans (cell2_0 _ _)
  have x1 := (blk_cell b0 1).trans (cell2_1 _ _)
  have x2 := (blk_cell b1 0).trans (cell1_0 _)
  have d0 := (blk_cell b2 0).trans (cell2_0 _ _)
  have d1 := (blk_cell b2 1).trans (cell2_1 _ _)
  have f0 := blk_frozen b2 0
  have f1 := blk_frozen b2 1
  have HB := Lib.hid (HB0.out.trans (hb.mono (by simp; omega)))
  have z1 : w.heap.size + 1 + 1 < w1.heap.size := by have := hb.size; simp at this; omega
  have HA1 := Lib.hid ((HA.out.below (hb.mono (by simp; omega))).mono (B' := w1.heap.size) (by omega))
  have HBp1 := Lib.hid ((HBp.out.below (hb.mono (by simp; omega))).mono (B' := w1.heap.size) (by omega))
  clear hb b0 b1 b2
  go_wp2
  refine bodyPost_ret (v := .tuple #[.agg #[.int .i64 0, .slice none 0 0], .bool false]) (by simp [results, Tryd.results21, go_sem, d0, d1]) rfl ?_
  exact ⟨none, 0, rfl, own_nil _ _, (HB.out.setCell (p := ⟨w.heap.size + 1 + 1, 0, none⟩) (by simp; omega) _).setCell (p := ⟨w.heap.size + 1 + 1, 1, none⟩) (by simp; omega) _⟩

set_option maxRecDepth 100000 in
set_option maxHeartbeats 2000000 in
theorem implNamed_no2 (m : Int) (a b : Option Addr) (c d : Nat) (zs ps : List Int) (w : World) (ha : Ints w w.heap.size a zs) (hb : Ints w w.heap.size b ps) (hx : zs.length ≤ 1048576) (hy : ps.length ≤ 1048576) (hf : famIn m zs = true) (hi : namesB m.toNat ps = false) :
    Calls Tryd.prog 21 #[.agg #[.int .i64 m, .slice a zs.length c], .slice b ps.length d] w (RetFB w 0 [] false) := by
  have HB0 := Lib.hid (below3 w (.cells #[.int .i64 m, .slice a zs.length c] 25) (.cells #[.slice b ps.length d] 23) (.cells #[.int .i64 0, .slice none 0 0] 25))
  have HA := Lib.hid (ha.below HB0.out)
  have HBp := Lib.hid (hb.below HB0.out)
  have HF := Lib.hid hf
  have HI := Lib.hid hi
  obtain ⟨hm1, hm6, -, -⟩ := famIn_out hf
  have hmm : Hid (m = ((m.toNat : Nat) : Int)) := Lib.hid (by omega)
  have hk6 : m.toNat ≤ 6 := by omega
  clear hf ha hb hi
  go_enter Tryd.func21, Tryd.ntmps21
  go_wp2_with fail
  refine (implFamilyIn_any _ _ _ zs _ (HA.out.mono (by simp; omega)) hx).mono ?_
  rintro e w1 ⟨rfl, hb⟩
  rw [HF.out]
  have b0 : w1.heap[w.heap.size]? = some (.cells #[.int .i64 m, .slice a zs.length c] 25 (0, 0)) := (hb.block _ (by simp; omega)).trans (alloc3_0 w _ _ _)
  have b1 : w1.heap[w.heap.size + 1]? = some (.cells #[.slice b ps.length d] 23 (0, 0)) := (hb.block _ (by simp)).trans (alloc3_1 w _ _ _)
  have b2 : w1.heap[w.heap.size + 1 + 1]? = some (.cells #[.int .i64 0, .slice none 0 0] 25 (0, 0)) := (hb.block _ (by simp)).trans (alloc3_2 w _ _ _)
  have x0 := (blk_cell b0 0).trans (cell2_0 _ _)
  have x1 := (blk_cell b0 1).trans (cell2_1 _ _)
  have x2 := (blk_cell b1 0).trans (cell1_0 _)
  have d0 := (blk_cell b2 0).trans (cell2_0 _ _)
  have d1 := (blk_cell b2 1).trans (cell2_1 _ _)
  have f0 := blk_frozen b2 0
  have f1 := blk_frozen b2 1
  have HB := Lib.hid (HB0.out.trans (hb.mono (by simp; omega)))
  have z1 : w.heap.size + 1 + 1 < w1.heap.size := by have := hb.size; simp at this; omega
  have HA1 := Lib.hid ((HA.out.below (hb.mono (by simp; omega))).mono (B' := w1.heap.size) (by omega))
  have HBp1 := Lib.hid ((HBp.out.below (hb.mono (by simp; omega))).mono (B' := w1.heap.size) (by omega))
  have HC := Lib.hid (namesIn_any m.toNat hk6 b d ps w1 HBp1.out hy)
  rw [← hmm.out] at HC
  clear hb b0 b1 b2
  go_wp2_with (go_at_call 52; refine HC.out.mono ?_; rintro e w1'' ⟨rfl, rfl⟩; rw [HI.out])
  refine bodyPost_ret (v := .tuple #[.agg #[.int .i64 0, .slice none 0 0], .bool false]) (by simp [results, Tryd.results21, go_sem, d0, d1]) rfl ?_
  exact ⟨none, 0, rfl, own_nil _ _, (HB.out.setCell (p := ⟨w.heap.size + 1 + 1, 0, none⟩) (by simp; omega) _).setCell (p := ⟨w.heap.size + 1 + 1, 1, none⟩) (by simp; omega) _⟩

set_option maxRecDepth 100000 in
set_option maxHeartbeats 2000000 in
theorem implNamed_yes (m : Int) (a b : Option Addr) (c d : Nat) (zs ps : List Int) (w : World) (ha : Ints w w.heap.size a zs) (hb : Ints w w.heap.size b ps) (hx : zs.length ≤ 1048576) (hy : ps.length ≤ 1048576) (hT : Tab w) (hf : famIn m zs = true) (hi : namesB m.toNat ps = true) :
    Calls Tryd.prog 21 #[.agg #[.int .i64 m, .slice a zs.length c], .slice b ps.length d] w (RetFB w m (zs.map (callZ ps)) true) := by
  have HB0 := Lib.hid (below3 w (.cells #[.int .i64 m, .slice a zs.length c] 25) (.cells #[.slice b ps.length d] 23) (.cells #[.int .i64 0, .slice none 0 0] 25))
  have HA := Lib.hid (ha.below HB0.out)
  have HBp := Lib.hid (hb.below HB0.out)
  have HF := Lib.hid hf
  have HI := Lib.hid hi
  have HT := Lib.hid hT
  obtain ⟨hm1, hm6, -, -⟩ := famIn_out hf
  have hmm : Hid (m = ((m.toNat : Nat) : Int)) := Lib.hid (by omega)
  have hk6 : m.toNat ≤ 6 := by omega
  have HOk := Lib.hid (namesB_ok hk6 hi)
  have HPc : Hid (∀ k, k < zs.length → IsClub m.toNat (k, zs[k]?.getD 0)) := Lib.hid (isClub_all (by rw [← hmm.out]; exact hf))
  have hmf : ∀ (fn : Fn) (first cap : Array Value) (w : World), (Instr.makeFunc fn first cap).run Tryd.prog w = .ok (.func fn first cap) w := fun _ _ _ _ => rfl
  clear hf ha hb hi hT
  go_enter Tryd.func21, Tryd.ntmps21
  go_wp2_with fail
  refine (implFamilyIn_any _ _ _ zs _ (HA.out.mono (by simp; omega)) hx).mono ?_
  rintro e w1 ⟨rfl, hb⟩
  rw [HF.out]
  have b0 : w1.heap[w.heap.size]? = some (.cells #[.int .i64 m, .slice a zs.length c] 25 (0, 0)) := (hb.block _ (by simp; omega)).trans (alloc3_0 w _ _ _)
  have b1 : w1.heap[w.heap.size + 1]? = some (.cells #[.slice b ps.length d] 23 (0, 0)) := (hb.block _ (by simp)).trans (alloc3_1 w _ _ _)
  have b2 : w1.heap[w.heap.size + 1 + 1]? = some (.cells #[.int .i64 0, .slice none 0 0] 25 (0, 0)) := (hb.block _ (by simp)).trans (alloc3_2 w _ _ _)
  have x0 := (blk_cell b0 0).trans (cell2_0 _ _)
  have x1 := (blk_cell b0 1).trans (cell2_1 _ _)
  have x2 := (blk_cell b1 0).trans (cell1_0 _)
  have d0 := (blk_cell b2 0).trans (cell2_0 _ _)
  have d1 := (blk_cell b2 1).trans (cell2_1 _ _)
  have f0 := blk_frozen b2 0
  have f1 := blk_frozen b2 1
  have HB := Lib.hid (HB0.out.trans (hb.mono (by simp; omega)))
  have z1 : w.heap.size + 1 + 1 < w1.heap.size := by have := hb.size; simp at this; omega
  have HA1 := Lib.hid ((HA.out.below (hb.mono (by simp; omega))).mono (B' := w1.heap.size) (by omega))
  have HBp1 := Lib.hid ((HBp.out.below (hb.mono (by simp; omega))).mono (B' := w1.heap.size) (by omega))
  have HC := Lib.hid (namesIn_any m.toNat hk6 b d ps w1 HBp1.out hy)
  rw [← hmm.out] at HC
  have B1 := Lib.hid b1
  have B2 := Lib.hid b2
  have HTW := Lib.hid (HT.out.below HB.out HT.out.lt)
  clear hb b0 b1 b2
  go_wp2_with (go_at_call 52; refine HC.out.mono ?_; rintro e w1'' ⟨rfl, rfl⟩; rw [HI.out])
  refine (mappedP (IsClub m.toNat) m a c zs (w.heap.size + 1) (callZ ps) _ HA1.out hx HPc.out (fun p W hp hW => ?_)).mono ?_
  · obtain ⟨s, hs⟩ : ∃ s : Nat, p.2 = (s : Int) := ⟨p.2.toNat, by have := hp.2.1; omega⟩
    have hs2 : s < 2 ^ m.toNat := by have := hp.2.2; rw [hs] at this; simpa using this
    rw [hs]
    have := namedFn_any m.toNat s hk6 hs2 b d ps HOk.out (w.heap.size + 1) W ((hW.cell (p := ⟨w.heap.size + 1, 0, none⟩) (show w.heap.size + 1 < w1.heap.size by omega)).trans ((blk_cell B1.out 0).trans (cell1_0 _))) ((HBp1.out.below hW).mono hW.size) (HTW.out.step hW)
    simpa [callZ] using this
  rintro e w2 ⟨a2, c2, rfl, ho2, hb2⟩
  have b2' := (hb2.block _ z1).trans B2.out
  have d0 := (blk_cell b2' 0).trans (cell2_0 _ _)
  have d1 := (blk_cell b2' 1).trans (cell2_1 _ _)
  have f0 := blk_frozen b2' 0
  have f1 := blk_frozen b2' 1
  have HO2 := Lib.hid ho2
  have HB2 := Lib.hid (HB.out.trans (hb2.mono (by omega)))
  clear ho2 hb2 b2'
  go_wp2
  refine bodyPost_ret (v := .tuple #[.agg #[.int .i64 m, .slice a2 (zs.map (callZ ps)).length c2], .bool true]) (by simp [results, Tryd.results21, go_sem, d0, d1]) rfl ?_
  refine ⟨a2, c2, rfl, ?_, ?_⟩
  · exact own_mono (ownsRow_setCell_below (ownsRow_setCell_below HO2.out (by simp; omega) _) (by simp; omega) _) (by omega)
  · exact (HB2.out.setCell (p := ⟨w.heap.size + 1 + 1, 0, none⟩) (by simp; omega) _).setCell (p := ⟨w.heap.size + 1 + 1, 1, none⟩) (by simp; omega) _

theorem implNamed_any (m : Int) (a b : Option Addr) (c d : Nat) (zs ps : List Int) (w : World) (ha : Ints w w.heap.size a zs) (hb : Ints w w.heap.size b ps) (hx : zs.length ≤ 1048576) (hy : ps.length ≤ 1048576) (hT : Tab w) :
    Calls Tryd.prog 21 #[.agg #[.int .i64 m, .slice a zs.length c], .slice b ps.length d] w (RetFB w (namM m zs ps) (namZ m zs ps) (namIn m zs ps)) := by
  unfold namM namZ namIn
  cases h1 : famIn m zs
  · exact implNamed_no1 m a b c d zs ps w ha hb hx hy h1
  · cases h2 : namesB m.toNat ps
    · exact implNamed_no2 m a b c d zs ps w ha hb hx hy h1 h2
    · exact implNamed_yes m a b c d zs ps w ha hb hx hy hT h1 h2

end Go.Proofs.YtgpgocijacgkhaaDoor
