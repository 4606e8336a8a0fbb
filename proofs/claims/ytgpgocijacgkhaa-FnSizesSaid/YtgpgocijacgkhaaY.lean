/- It is proved what the FamilyOther of the program and of the model return; conditions: those of each statement. -/
import Derived.Test.YtgpgocijacgkhaaRows
import Derived.WalkKit
import Derived.WalkSpells
import Derived.ProofKit
import Derived.OpenShut
import Derived.ShutString
import Derived.ChangeOld
import Derived.Below
import Derived.Deep.RegionHeld3
import Derived.Deep.QuietTactic
import Derived.BigQuiet
import Derived.Lib.Hide
import Derived.Lib.SmallJoins
import Derived.Outline
import Derived.Laws.MakeOwn
import Derived.Laws.OwnMore
import Derived.IntWalk
import Derived.RangeFuncNested
import Derived.RangeFuncBound
import Derived.RangeFuncCalls
import Derived.RangeFuncLeaves
import Derived.RangeFuncBox
import Derived.Shelf.Abstract
import Derived.Shelf.RegionOpen
import Derived.OwnWalkIn
import Derived.TacticsInMore
import Derived.LoopNIn
import Derived.LoopIn
import Derived.Maps.AppendAt
import Derived.Deep.AppendLies
import Derived.OwnWalk
import Derived.Test.YtgpgocijacgkhaaB
import Derived.Test.YtgpgocijacgkhaaC
import Derived.Test.YtgpgocijacgkhaaD
import Derived.Test.YtgpgocijacgkhaaE
import Derived.Test.YtgpgocijacgkhaaF
import Derived.Test.YtgpgocijacgkhaaL
import Derived.Test.YtgpgocijacgkhaaP
import Derived.Test.YtgpgocijacgkhaaR
import Derived.Test.YtgpgocijacgkhaaSa
import Derived.Test.YtgpgocijacgkhaaSc
import Derived.Test.YtgpgocijacgkhaaU
namespace Go.Proofs.Ytgpgocijacgkhaa
open Go.RowKit

theorem full_b (m : Int) (a : Option Addr) (n cap : Nat) (w : World) (h1 : 1 ≤ m) (h2 : m ≤ 6) :
    Calls Try.prog 33 #[.agg #[.int .i64 m, .slice a n cap]] w fun e w' => e = .returned (.int .i64 (fullI m)) ∧ Below w.heap.size w w' :=
  (full_any m a n cap w h1 h2).mono fun e w' ⟨he, hw⟩ => ⟨he, by rw [hw]; exact below1 _ _⟩

theorem otherFn_any (m : Int) (a : Option Addr) (n c : Nat) (z : Int) (X : Nat) (W : World) (h0 : W.cell? ⟨X, 0, none⟩ = some (.int .i64 m)) (h1 : W.cell? ⟨X, 1, none⟩ = some (.slice a n c)) (hm1 : 1 ≤ m) (hm6 : m ≤ 6) :
    Calls Try.prog 32 #[.int .i64 z, .pointer (some ⟨X, 0, none⟩)] W fun e W' => e = .returned (.int .i64 (bits .andNot .i64 (fullI m) z)) ∧ Below W.heap.size W W' := by
  go_enter Try.func32, Try.ntmps32
  go_wp2_with (go_at_call 33; refine (full_b _ _ _ _ _ hm1 hm6).mono ?_; rintro e w1 ⟨rfl, hb⟩; have HB := Lib.hid hb; clear hb)
  go_ret
  exact ⟨rfl, HB.out⟩

/-- The method other: no bound of clubs. -/
theorem otherFam_any (m : Int) (a : Option Addr) (c : Nat) (zs : List Int) (w : World) (ha : Ints w w.heap.size a zs) (hx : zs.length ≤ 1048576) (hm1 : 1 ≤ m) (hm6 : m ≤ 6) :
    Calls Try.prog 19 #[.agg #[.int .i64 m, .slice a zs.length c]] w (RetFam w m (zs.map fun z => bits .andNot .i64 (fullI m) z)) := by
  have hmf : ∀ (fn : Fn) (first cap : Array Value) (w : World), (Instr.makeFunc fn first cap).run Try.prog w = .ok (.func fn first cap) w := fun _ _ _ _ => rfl
  have HB0 := Lib.hid (below2 w (.cells #[.int .i64 m, .slice a zs.length c] 25) (.cells #[.int .i64 0, .slice none 0 0] 25))
  have HA := Lib.hid (ha.below HB0.out)
  have B0 := Lib.hid (alloc2_0 w (.cells #[.int .i64 m, .slice a zs.length c] 25) (.cells #[.int .i64 0, .slice none 0 0] 25))
  have Z1 := Lib.hid (show w.heap.size + 1 < ((w.alloc (.cells #[.int .i64 m, .slice a zs.length c] 25)).alloc (.cells #[.int .i64 0, .slice none 0 0] 25)).heap.size by simp)
  have Z0 := Lib.hid (show w.heap.size < ((w.alloc (.cells #[.int .i64 m, .slice a zs.length c] 25)).alloc (.cells #[.int .i64 0, .slice none 0 0] 25)).heap.size by simp; omega)
  clear ha
  go_enter Try.func19, Try.ntmps19
  go_wp2_with fail
  refine (mapped70 m a c zs w.heap.size (fun z => bits .andNot .i64 (fullI m) z) _ (HA.out.mono (by simp; omega)) hx (fun z W hW => otherFn_any m a zs.length c z _ W ((hW.cell (p := ⟨w.heap.size, 0, none⟩) Z0.out).trans ((blk_cell B0.out 0).trans (cell2_0 _ _))) ((hW.cell (p := ⟨w.heap.size, 1, none⟩) Z0.out).trans ((blk_cell B0.out 1).trans (cell2_1 _ _))) hm1 hm6)).mono ?_
  rintro e w2 ⟨a2, c2, rfl, ho2, hb2⟩
  have b2' : w2.heap[w.heap.size + 1]? = some (.cells #[.int .i64 0, .slice none 0 0] 25 (0, 0)) := (hb2.block _ (by simp)).trans (alloc2_1 w _ _)
  have d0 := (blk_cell b2' 0).trans (cell2_0 _ _)
  have d1 := (blk_cell b2' 1).trans (cell2_1 _ _)
  have f0 := blk_frozen b2' 0
  have f1 := blk_frozen b2' 1
  have HO2 := Lib.hid ho2
  have HB2 := Lib.hid (HB0.out.trans (hb2.mono (by simp; omega)))
  clear ho2 hb2 b2'
  go_wp2
  refine bodyPost_ret (v := .agg #[.int .i64 m, .slice a2 (zs.map fun z => bits .andNot .i64 (fullI m) z).length c2]) (by simp [results, Try.results19, go_sem, d0, d1]) rfl ?_
  refine ⟨a2, c2, rfl, ?_, ?_⟩
  · exact own_mono (ownsRow_setCell_below (ownsRow_setCell_below HO2.out Z1.out _) Z1.out _) (by simp; omega)
  · exact (HB2.out.setCell (p := ⟨w.heap.size + 1, 0, none⟩) (by simp) _).setCell (p := ⟨w.heap.size + 1, 1, none⟩) (by simp) _

set_option maxRecDepth 100000 in
set_option maxHeartbeats 1600000 in
theorem implOther_no (m : Int) (a : Option Addr) (c : Nat) (zs : List Int) (w : World) (ha : Ints w w.heap.size a zs) (hx : zs.length ≤ 1048576) (hf : famIn m zs = false) :
    Calls Try.prog 9 #[.agg #[.int .i64 m, .slice a zs.length c]] w (RetFB w 0 [] false) := by
  have HB0 := Lib.hid (below2 w (.cells #[.int .i64 m, .slice a zs.length c] 25) (.cells #[.int .i64 0, .slice none 0 0] 25))
  have HA := Lib.hid (ha.below HB0.out)
  have HF := Lib.hid hf
  clear hf ha
  go_enter Try.func9, Try.ntmps9
  go_wp2_with fail
  refine (implFamilyIn_any _ _ _ zs _ (HA.out.mono (by simp; omega)) hx).mono ?_
  rintro e w1 ⟨rfl, hb⟩
  rw [HF.out]
  have b2 : w1.heap[w.heap.size + 1]? = some (.cells #[.int .i64 0, .slice none 0 0] 25 (0, 0)) := (hb.block _ (by simp)).trans (alloc2_1 w _ _)
  have d0 := blk_cell b2 0
  have d1 := blk_cell b2 1
  have f0 := blk_frozen b2 0
  have f1 := blk_frozen b2 1
  simp only [cell2_0, cell2_1] at d0 d1
  have HB := Lib.hid (HB0.out.trans (hb.mono (by simp; omega)))
  clear hb b2
  go_wp2
  refine bodyPost_ret (v := .tuple #[.agg #[.int .i64 0, .slice none 0 0], .bool false]) (by simp [results, Try.results9, go_sem, d0, d1]) rfl ?_
  exact ⟨none, 0, rfl, own_nil _ _, (HB.out.setCell (p := ⟨w.heap.size + 1, 0, none⟩) (by simp) _).setCell (p := ⟨w.heap.size + 1, 1, none⟩) (by simp) _⟩

set_option maxRecDepth 100000 in
set_option maxHeartbeats 1600000 in
theorem implOther_yes (m : Int) (a : Option Addr) (c : Nat) (zs : List Int) (w : World) (ha : Ints w w.heap.size a zs) (hx : zs.length ≤ 1048576) (hf : famIn m zs = true) :
    Calls Try.prog 9 #[.agg #[.int .i64 m, .slice a zs.length c]] w (RetFB w m (zs.map fun z => bits .andNot .i64 (fullI m) z) true) := by
  have HB0 := Lib.hid (below2 w (.cells #[.int .i64 m, .slice a zs.length c] 25) (.cells #[.int .i64 0, .slice none 0 0] 25))
  have HA := Lib.hid (ha.below HB0.out)
  have HF := Lib.hid hf
  obtain ⟨hm1, hm6, -, -⟩ := famIn_out hf
  clear hf ha
  go_enter Try.func9, Try.ntmps9
  go_wp2_with fail
  refine (implFamilyIn_any _ _ _ zs _ (HA.out.mono (by simp; omega)) hx).mono ?_
  rintro e w1 ⟨rfl, hb⟩
  rw [HF.out]
  have b0 : w1.heap[w.heap.size]? = some (.cells #[.int .i64 m, .slice a zs.length c] 25 (0, 0)) := (hb.block _ (by simp; omega)).trans (alloc2_0 w _ _)
  have b2 : w1.heap[w.heap.size + 1]? = some (.cells #[.int .i64 0, .slice none 0 0] 25 (0, 0)) := (hb.block _ (by simp)).trans (alloc2_1 w _ _)
  have x0 := blk_cell b0 0
  have x1 := blk_cell b0 1
  simp only [cell2_0, cell2_1] at x0 x1
  have HB := Lib.hid (HB0.out.trans (hb.mono (by simp; omega)))
  have z1 : w.heap.size + 1 < w1.heap.size := by have := hb.size; simp at this; omega
  have HA1 := Lib.hid ((HA.out.below (hb.mono (by simp; omega))).mono (B' := w1.heap.size) (by omega))
  have B0 := Lib.hid b0
  have B2 := Lib.hid b2
  have hmf : ∀ (fn : Fn) (first cap : Array Value) (w : World), (Instr.makeFunc fn first cap).run Try.prog w = .ok (.func fn first cap) w := fun _ _ _ _ => rfl
  clear hb b0 b2
  go_wp2_with fail
  refine (otherFam_any m a c zs _ HA1.out hx hm1 hm6).mono ?_
  rintro e w2 ⟨a2, c2, rfl, ho2, hb2⟩
  have b2' := (hb2.block _ z1).trans B2.out
  have d0 := blk_cell b2' 0
  have d1 := blk_cell b2' 1
  have f0 := blk_frozen b2' 0
  have f1 := blk_frozen b2' 1
  simp only [cell2_0, cell2_1] at d0 d1
  have HO2 := Lib.hid ho2
  have HB2 := Lib.hid (HB.out.trans (hb2.mono (by omega)))
  clear ho2 hb2 b2'
  go_wp2
  refine bodyPost_ret (v := .tuple #[.agg #[.int .i64 m, .slice a2 (zs.map fun z => bits .andNot .i64 (fullI m) z).length c2], .bool true]) (by simp [results, Try.results9, go_sem, d0, d1]) rfl ?_
  refine ⟨a2, c2, rfl, ?_, ?_⟩
  · exact own_mono (ownsRow_setCell_below (ownsRow_setCell_below HO2.out (by simp; omega) _) (by simp; omega) _) (by omega)
  · exact (HB2.out.setCell (p := ⟨w.heap.size + 1, 0, none⟩) (by simp) _).setCell (p := ⟨w.heap.size + 1, 1, none⟩) (by simp) _

def otherZ (m : Int) (zs : List Int) : List Int := if famIn m zs then zs.map fun z => bits .andNot .i64 (fullI m) z else []
def otherM (m : Int) (zs : List Int) : Int := if famIn m zs then m else 0
theorem otherZ_len (m : Int) (zs : List Int) (h : zs.length ≤ 1048576) : (otherZ m zs).length ≤ 1048576 := by
  unfold otherZ; split <;> simp; exact h

theorem implOther_any (m : Int) (a : Option Addr) (c : Nat) (zs : List Int) (w : World) (ha : Ints w w.heap.size a zs) (hx : zs.length ≤ 1048576) :
    Calls Try.prog 9 #[.agg #[.int .i64 m, .slice a zs.length c]] w (RetFB w (otherM m zs) (otherZ m zs) (famIn m zs)) := by
  unfold otherM otherZ
  cases hf : famIn m zs
  · exact implOther_no m a c zs w ha hx hf
  · exact implOther_yes m a c zs w ha hx hf

end Go.Proofs.Ytgpgocijacgkhaa
