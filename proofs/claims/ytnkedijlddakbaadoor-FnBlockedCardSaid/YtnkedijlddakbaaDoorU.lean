/- It is proved what the FamilyMeet of the program returns, given what mapped returns; conditions: those of each statement. -/
import Derived.Test.YtnkedijlddakbaaDoorRows
import Derived.WalkKit
import Derived.WalkSpells
import Derived.ProofKit
import Derived.OpenShut
import Derived.ShutString
import Derived.ChangeOld
import Derived.Below
import Derived.Deep.RegionHeld3
import Derived.Deep.QuietTactic
import Derived.BigQuiet
import Derived.Lib.Hide
import Derived.Lib.SmallJoins
import Derived.Outline
import Derived.Laws.MakeOwn
import Derived.Laws.OwnMore
import Derived.IntWalk
import Derived.RangeFuncNested
import Derived.RangeFuncBound
import Derived.RangeFuncCalls
import Derived.RangeFuncLeaves
import Derived.RangeFuncBox
import Derived.Shelf.Abstract
import Derived.Shelf.RegionOpen
import Derived.OwnWalkIn
import Derived.TacticsInMore
import Derived.LoopNIn
import Derived.LoopIn
import Derived.Maps.AppendAt
import Derived.Deep.AppendLies
import Derived.OwnWalk
import Derived.Test.YtnkedijlddakbaaDoorMraa
import Derived.Test.YtnkedijlddakbaaDoorMrab
import Derived.Test.YtnkedijlddakbaaDoorMrac
import Derived.Test.YtnkedijlddakbaaDoorMraf
import Derived.Test.YtnkedijlddakbaaDoorSb
import Derived.Test.YtnkedijlddakbaaDoorTP
import Derived.Test.YtnkedijlddakbaaDoorMrad
namespace Go.Proofs.YtnkedijlddakbaaDoor
open Go.RowKit

theorem meetFn_any (x z : Int) (X : Nat) (W : World) (h : W.cell? ⟨X, 0, none⟩ = some (.int .i64 x)) :
    Calls Tryd.prog 45 #[.int .i64 z, .pointer (some ⟨X, 0, none⟩)] W fun e W' => e = .returned (.int .i64 (bits .and .i64 z x)) ∧ Below W.heap.size W W' := by
  go_enter Tryd.func45, Tryd.ntmps45
  go_wp2
  go_ret
  exact ⟨rfl, Below.refl _ _⟩

set_option maxRecDepth 100000 in
set_option maxHeartbeats 1600000 in
theorem implMeet_no1 (m : Int) (a : Option Addr) (c : Nat) (zs : List Int) (x : Int) (w : World) (ha : Ints w w.heap.size a zs) (hx : zs.length ≤ 1048576) (hf : famIn m zs = false) :
    Calls Tryd.prog 21 #[.agg #[.int .i64 m, .slice a zs.length c], .int .i64 x] w (RetFB w 0 [] false) := by
  have HB0 := Lib.hid (below3 w (.cells #[.int .i64 m, .slice a zs.length c] 25) (.cells #[.int .i64 x] 3) (.cells #[.int .i64 0, .slice none 0 0] 25))
  have HA := Lib.hid (ha.below HB0.out)
  have HF := Lib.hid hf
  clear hf ha
  go_enter Tryd.func21, Tryd.ntmps21
  go_wp2_with fail
  refine (implFamilyIn_any _ _ _ zs _ (HA.out.mono (by simp; omega)) hx).mono ?_
  rintro e w1 ⟨rfl, hb⟩
  rw [HF.out]
  have b2 : w1.heap[w.heap.size + 1 + 1]? = some (.cells #[.int .i64 0, .slice none 0 0] 25 (0, 0)) := (hb.block _ (by simp)).trans (alloc3_2 w _ _ _)
  have d0 := blk_cell b2 0
  have d1 := blk_cell b2 1
  have f0 := blk_frozen b2 0
  have f1 := blk_frozen b2 1
  simp only [cell2_0, cell2_1] at d0 d1
  have HB := Lib.hid (HB0.out.trans (hb.mono (by simp; omega)))
  clear hb b2
  go_wp2
  refine bodyPost_ret (v := .tuple #[.agg #[.int .i64 0, .slice none 0 0], .bool false]) (by simp [results, Tryd.results21, go_sem, d0, d1]) rfl ?_
  exact ⟨none, 0, rfl, own_nil _ _, (HB.out.setCell (p := ⟨w.heap.size + 1 + 1, 0, none⟩) (by simp; omega) _).setCell (p := ⟨w.heap.size + 1 + 1, 1, none⟩) (by simp; omega) _⟩

set_option maxRecDepth 100000 in
set_option maxHeartbeats 1600000 in
theorem implMeet_no2 (m : Int) (a : Option Addr) (c : Nat) (zs : List Int) (x : Int) (w : World) (ha : Ints w w.heap.size a zs) (hx : zs.length ≤ 1048576) (hf : famIn m zs = true) (hi : inB x 0 (fullI m) = false) :
    Calls Tryd.prog 21 #[.agg #[.int .i64 m, .slice a zs.length c], .int .i64 x] w (RetFB w 0 [] false) := by
  have HB0 := Lib.hid (below3 w (.cells #[.int .i64 m, .slice a zs.length c] 25) (.cells #[.int .i64 x] 3) (.cells #[.int .i64 0, .slice none 0 0] 25))
  have HA := Lib.hid (ha.below HB0.out)
  have HF := Lib.hid hf
  have HI := Lib.hid hi
  obtain ⟨hm1, hm6, -, -⟩ := famIn_out hf
  clear hf ha hi
  go_enter Tryd.func21, Tryd.ntmps21
  go_wp2_with fail
  refine (implFamilyIn_any _ _ _ zs _ (HA.out.mono (by simp; omega)) hx).mono ?_
  rintro e w1 ⟨rfl, hb⟩
  rw [HF.out]
  have b0 : w1.heap[w.heap.size]? = some (.cells #[.int .i64 m, .slice a zs.length c] 25 (0, 0)) := (hb.block _ (by simp; omega)).trans (alloc3_0 w _ _ _)
  have b1 : w1.heap[w.heap.size + 1]? = some (.cells #[.int .i64 x] 3 (0, 0)) := (hb.block _ (by simp)).trans (alloc3_1 w _ _ _)
  have b2 : w1.heap[w.heap.size + 1 + 1]? = some (.cells #[.int .i64 0, .slice none 0 0] 25 (0, 0)) := (hb.block _ (by simp)).trans (alloc3_2 w _ _ _)
  have x0 := blk_cell b0 0
  have x2 := blk_cell b1 0
  have d0 := blk_cell b2 0
  have d1 := blk_cell b2 1
  have f0 := blk_frozen b2 0
  have f1 := blk_frozen b2 1
  simp only [cell2_0, cell2_1, cell1_0] at d0 d1 x0 x2
  have HB := Lib.hid (HB0.out.trans (hb.mono (by simp; omega)))
  clear hb b0 b1 b2
  go_wp2_with (go_at_call 43; refine (setIn_any _ _ _ hm1 hm6).mono ?_; rintro e w' ⟨rfl, rfl⟩; rw [HI.out])
  refine bodyPost_ret (v := .tuple #[.agg #[.int .i64 0, .slice none 0 0], .bool false]) (by simp [results, Tryd.results21, go_sem, d0, d1]) rfl ?_
  exact ⟨none, 0, rfl, own_nil _ _, (HB.out.setCell (p := ⟨w.heap.size + 1 + 1, 0, none⟩) (by simp; omega) _).setCell (p := ⟨w.heap.size + 1 + 1, 1, none⟩) (by simp; omega) _⟩

set_option maxRecDepth 100000 in
set_option maxHeartbeats 1600000 in
theorem implMeet_yes (m : Int) (a : Option Addr) (c : Nat) (zs : List Int) (x : Int) (w : World) (ha : Ints w w.heap.size a zs) (hx : zs.length ≤ 1048576) (hf : famIn m zs = true) (hi : inB x 0 (fullI m) = true) :
    Calls Tryd.prog 21 #[.agg #[.int .i64 m, .slice a zs.length c], .int .i64 x] w (RetFB w m (zs.map fun z => bits .and .i64 z x) true) := by
  have HB0 := Lib.hid (below3 w (.cells #[.int .i64 m, .slice a zs.length c] 25) (.cells #[.int .i64 x] 3) (.cells #[.int .i64 0, .slice none 0 0] 25))
  have HA := Lib.hid (ha.below HB0.out)
  have HF := Lib.hid hf
  have HI := Lib.hid hi
  obtain ⟨hm1, hm6, -, -⟩ := famIn_out hf
  clear hf ha hi
  go_enter Tryd.func21, Tryd.ntmps21
  go_wp2_with fail
  refine (implFamilyIn_any _ _ _ zs _ (HA.out.mono (by simp; omega)) hx).mono ?_
  rintro e w1 ⟨rfl, hb⟩
  rw [HF.out]
  have b0 : w1.heap[w.heap.size]? = some (.cells #[.int .i64 m, .slice a zs.length c] 25 (0, 0)) := (hb.block _ (by simp; omega)).trans (alloc3_0 w _ _ _)
  have b1 : w1.heap[w.heap.size + 1]? = some (.cells #[.int .i64 x] 3 (0, 0)) := (hb.block _ (by simp)).trans (alloc3_1 w _ _ _)
  have b2 : w1.heap[w.heap.size + 1 + 1]? = some (.cells #[.int .i64 0, .slice none 0 0] 25 (0, 0)) := (hb.block _ (by simp)).trans (alloc3_2 w _ _ _)
  have x0 := blk_cell b0 0
  have x2 := blk_cell b1 0
  have d0 := blk_cell b2 0
  have d1 := blk_cell b2 1
  have f0 := blk_frozen b2 0
  have f1 := blk_frozen b2 1
  simp only [cell2_0, cell2_1, cell1_0] at d0 d1 x0 x2
  have x1 := blk_cell b0 1
  simp only [cell2_1] at x1
  have HB := Lib.hid (HB0.out.trans (hb.mono (by simp; omega)))
  have z1 : w.heap.size + 1 + 1 < w1.heap.size := by have := hb.size; simp at this; omega
  have HA1 := Lib.hid ((HA.out.below (hb.mono (by simp; omega))).mono (B' := w1.heap.size) (by omega))
  have B1 := Lib.hid b1
  have B2 := Lib.hid b2
  have hmf : ∀ (fn : Fn) (first cap : Array Value) (w : World), (Instr.makeFunc fn first cap).run Tryd.prog w = .ok (.func fn first cap) w := fun _ _ _ _ => rfl
  clear hb b0 b1 b2
  go_wp2_with (go_at_call 43; refine (setIn_any _ _ _ hm1 hm6).mono ?_; rintro e w' ⟨rfl, rfl⟩; rw [HI.out])
  refine (mapped64 m a c zs (w.heap.size + 1) (fun z => bits .and .i64 z x) _ HA1.out hx (fun z W hW => meetFn_any x z _ W ((hW.cell (p := ⟨w.heap.size + 1, 0, none⟩) (show w.heap.size + 1 < w1.heap.size by omega)).trans (blk_cell B1.out 0)))).mono ?_
  rintro e w2 ⟨a2, c2, rfl, ho2, hb2⟩
  have b2' := (hb2.block _ z1).trans B2.out
  have d0 := blk_cell b2' 0
  have d1 := blk_cell b2' 1
  have f0 := blk_frozen b2' 0
  have f1 := blk_frozen b2' 1
  simp only [cell2_0, cell2_1] at d0 d1
  have HO2 := Lib.hid ho2
  have HB2 := Lib.hid (HB.out.trans (hb2.mono (by omega)))
  clear ho2 hb2 b2'
  go_wp2
  refine bodyPost_ret (v := .tuple #[.agg #[.int .i64 m, .slice a2 (zs.map fun z => bits .and .i64 z x).length c2], .bool true]) (by simp [results, Tryd.results21, go_sem, d0, d1]) rfl ?_
  refine ⟨a2, c2, rfl, ?_, ?_⟩
  · exact own_mono (ownsRow_setCell_below (ownsRow_setCell_below HO2.out (by simp; omega) _) (by simp; omega) _) (by omega)
  · exact (HB2.out.setCell (p := ⟨w.heap.size + 1 + 1, 0, none⟩) (by simp; omega) _).setCell (p := ⟨w.heap.size + 1 + 1, 1, none⟩) (by simp; omega) _

theorem implMeet_any (m : Int) (a : Option Addr) (c : Nat) (zs : List Int) (x : Int) (w : World) (ha : Ints w w.heap.size a zs) (hx : zs.length ≤ 1048576) :
    Calls Tryd.prog 21 #[.agg #[.int .i64 m, .slice a zs.length c], .int .i64 x] w (RetFB w (meetM m zs x) (meetZ m zs x) (meetIn m zs x)) := by
  unfold meetM meetZ meetIn
  cases hf : famIn m zs
  · exact implMeet_no1 m a c zs x w ha hx hf
  · cases hi : inB x 0 (fullI m)
    · exact implMeet_no2 m a c zs x w ha hx hf hi
    · exact implMeet_yes m a c zs x w ha hx hf hi

end Go.Proofs.YtnkedijlddakbaaDoor
