/- It is proved what the FamilyOther of the program and of the model return; conditions: those of each statement. -/
import Derived.Test.YtmojkeokkebbfaaDoorRows
import Derived.WalkKit
import Derived.WalkSpells
import Derived.ProofKit
import Derived.OpenShut
import Derived.ShutString
import Derived.ChangeOld
import Derived.Below
import Derived.Deep.RegionHeld3
import Derived.Deep.QuietTactic
import Derived.BigQuiet
import Derived.Lib.Hide
import Derived.Lib.SmallJoins
import Derived.Outline
import Derived.Laws.MakeOwn
import Derived.Laws.OwnMore
import Derived.IntWalk
import Derived.RangeFuncNested
import Derived.RangeFuncBound
import Derived.RangeFuncCalls
import Derived.RangeFuncLeaves
import Derived.RangeFuncBox
import Derived.Shelf.Abstract
import Derived.Shelf.RegionOpen
import Derived.OwnWalkIn
import Derived.TacticsInMore
import Derived.LoopNIn
import Derived.LoopIn
import Derived.Maps.AppendAt
import Derived.Deep.AppendLies
import Derived.OwnWalk
import Derived.Test.YtmojkeokkebbfaaDoorMzaa
import Derived.Test.YtmojkeokkebbfaaDoorMzad
import Derived.Test.YtmojkeokkebbfaaDoorMzae
import Derived.Test.YtmojkeokkebbfaaDoorMzab
import Derived.Test.YtmojkeokkebbfaaDoorMzat
import Derived.Test.YtmojkeokkebbfaaDoorSc
namespace Go.Proofs.YtmojkeokkebbfaaDoor
open Go.RowKit

theorem full_b (m : Int) (a : Option Addr) (n cap : Nat) (w : World) (h1 : 1 ≤ m) (h2 : m ≤ 6) :
    Calls Tryd.prog 101 #[.agg #[.int .i64 m, .slice a n cap]] w fun e w' => e = .returned (.int .i64 (fullI m)) ∧ Below w.heap.size w w' :=
  (full_any m a n cap w h1 h2).mono fun e w' ⟨he, hw⟩ => ⟨he, by rw [hw]; exact below1 _ _⟩

theorem otherFn_any (m : Int) (a : Option Addr) (n c : Nat) (z : Int) (X : Nat) (W : World) (h0 : W.cell? ⟨X, 0, none⟩ = some (.int .i64 m)) (h1 : W.cell? ⟨X, 1, none⟩ = some (.slice a n c)) (hm1 : 1 ≤ m) (hm6 : m ≤ 6) :
    Calls Tryd.prog 102 #[.int .i64 z, .pointer (some ⟨X, 0, none⟩)] W fun e W' => e = .returned (.int .i64 (bits .andNot .i64 (fullI m) z)) ∧ Below W.heap.size W W' := by
  go_enter Tryd.func102, Tryd.ntmps102
  go_wp2_with (go_at_call 101; refine (full_b _ _ _ _ _ hm1 hm6).mono ?_; rintro e w1 ⟨rfl, hb⟩; have HB := Lib.hid hb; clear hb)
  go_ret
  exact ⟨rfl, HB.out⟩

/-- The method other: no bound of clubs. -/
theorem otherFam_any (m : Int) (a : Option Addr) (c : Nat) (zs : List Int) (w : World) (ha : Ints w w.heap.size a zs) (hx : zs.length ≤ 1048576) (hm1 : 1 ≤ m) (hm6 : m ≤ 6) :
    Calls Tryd.prog 81 #[.agg #[.int .i64 m, .slice a zs.length c]] w (RetFam w m (zs.map fun z => bits .andNot .i64 (fullI m) z)) := by
  have hmf : ∀ (fn : Fn) (first cap : Array Value) (w : World), (Instr.makeFunc fn first cap).run Tryd.prog w = .ok (.func fn first cap) w := fun _ _ _ _ => rfl
  have HB0 := Lib.hid (below2 w (.cells #[.int .i64 m, .slice a zs.length c] 25) (.cells #[.int .i64 0, .slice none 0 0] 25))
  have HA := Lib.hid (ha.below HB0.out)
  have B0 := Lib.hid (alloc2_0 w (.cells #[.int .i64 m, .slice a zs.length c] 25) (.cells #[.int .i64 0, .slice none 0 0] 25))
  have Z1 := Lib.hid (show w.heap.size + 1 < ((w.alloc (.cells #[.int .i64 m, .slice a zs.length c] 25)).alloc (.cells #[.int .i64 0, .slice none 0 0] 25)).heap.size by simp)
  have Z0 := Lib.hid (show w.heap.size < ((w.alloc (.cells #[.int .i64 m, .slice a zs.length c] 25)).alloc (.cells #[.int .i64 0, .slice none 0 0] 25)).heap.size by simp; omega)
  clear ha
  go_enter Tryd.func81, Tryd.ntmps81
  go_wp2_with fail
  refine (mapped70 m a c zs w.heap.size (fun z => bits .andNot .i64 (fullI m) z) _ (HA.out.mono (by simp; omega)) hx (fun z W hW => otherFn_any m a zs.length c z _ W ((hW.cell (p := ⟨w.heap.size, 0, none⟩) Z0.out).trans ((blk_cell B0.out 0).trans (cell2_0 _ _))) ((hW.cell (p := ⟨w.heap.size, 1, none⟩) Z0.out).trans ((blk_cell B0.out 1).trans (cell2_1 _ _))) hm1 hm6)).mono ?_
  rintro e w2 ⟨a2, c2, rfl, ho2, hb2⟩
  have b2' : w2.heap[w.heap.size + 1]? = some (.cells #[.int .i64 0, .slice none 0 0] 25 (0, 0)) := (hb2.block _ (by simp)).trans (alloc2_1 w _ _)
  have d0 := (blk_cell b2' 0).trans (cell2_0 _ _)
  have d1 := (blk_cell b2' 1).trans (cell2_1 _ _)
  have f0 := blk_frozen b2' 0
  have f1 := blk_frozen b2' 1
  have HO2 := Lib.hid ho2
  have HB2 := Lib.hid (HB0.out.trans (hb2.mono (by simp; omega)))
  clear ho2 hb2 b2'
  go_wp2
  refine bodyPost_ret (v := .agg #[.int .i64 m, .slice a2 (zs.map fun z => bits .andNot .i64 (fullI m) z).length c2]) (by simp [results, Tryd.results81, go_sem, d0, d1]) rfl ?_
  refine ⟨a2, c2, rfl, ?_, ?_⟩
  · exact own_mono (ownsRow_setCell_below (ownsRow_setCell_below HO2.out Z1.out _) Z1.out _) (by simp; omega)
  · exact (HB2.out.setCell (p := ⟨w.heap.size + 1, 0, none⟩) (by simp) _).setCell (p := ⟨w.heap.size + 1, 1, none⟩) (by simp) _

def otherZ (m : Int) (zs : List Int) : List Int := if famIn m zs then zs.map fun z => bits .andNot .i64 (fullI m) z else []
def otherM (m : Int) (zs : List Int) : Int := if famIn m zs then m else 0
end Go.Proofs.YtmojkeokkebbfaaDoor
