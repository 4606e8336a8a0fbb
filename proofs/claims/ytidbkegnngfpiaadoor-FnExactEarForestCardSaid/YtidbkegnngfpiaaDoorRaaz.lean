/- It is proved what EarReduce, EarFalls and EarSteps of the model return; conditions: those of each statement. -/
import Derived.RowKit
import Derived.Laws.CopyRow
import Derived.Lib.SlBuf
import Derived.Deep.QuietTactic
import Derived.RangeFuncNested
import Derived.RangeFuncBound
import Derived.RangeFuncCalls
import Derived.RangeFuncLeaves
import Derived.RangeFuncBox
import Derived.RangeFuncWrites
import Derived.StillTailTactics
import Derived.Maps.OwnIn
import Derived.Maps.Ext
import Derived.DeepKeys4
import Derived.MapKept
import Derived.Test.YtidbkegnngfpiaaDoorRows
import Derived.WalkKit
import Derived.WalkSpells
import Derived.ProofKit
import Derived.OpenShut
import Derived.ShutString
import Derived.ChangeOld
import Derived.Below
import Derived.Deep.RegionHeld3
import Derived.BigQuiet
import Derived.Lib.Hide
import Derived.Lib.SmallJoins
import Derived.Outline
import Derived.Laws.MakeOwn
import Derived.Laws.OwnMore
import Derived.IntWalk
import Derived.Lib.AppendZeros
import Derived.Maps.AppendAt
import Derived.Deep.AppendLies
import Derived.OwnWalk
import Derived.Lib.SlicesCompact
import Derived.Lib.OwnBridge
import Derived.OrdersIn
import Derived.TacticsIn
import Derived.Shelf.Sort.Plain
import Derived.Shelf.Slices.In.SortNone
import Derived.Shelf.Slices.CompactI
import Derived.Ground.Names2Prog
import Derived.Lib.SliceRun
import Derived.Shelf.Abstract
import Derived.Shelf.RegionOpen
import Derived.OwnWalkIn
import Derived.TacticsInMore
import Derived.LoopNIn
import Derived.LoopIn
import Derived.StillTail
import Derived.StillTactics
import Derived.Shelf.Spec.TrailingZeros
import Derived.Deep.LoopGhost
import Derived.Test.YtidbkegnngfpiaaDoorRaaa
import Derived.Test.YtidbkegnngfpiaaDoorRaab
import Derived.Test.YtidbkegnngfpiaaDoorRaax
import Derived.Test.YtidbkegnngfpiaaDoorRaad
import Derived.Test.YtidbkegnngfpiaaDoorRaah
import Derived.Test.YtidbkegnngfpiaaDoorRaap
import Derived.Test.YtidbkegnngfpiaaDoorRaae
import Derived.Test.YtidbkegnngfpiaaDoorRaac
import Derived.Test.YtidbkegnngfpiaaDoorRaar
import Derived.Test.YtidbkegnngfpiaaDoorYf
namespace Go.Proofs.YtidbkegnngfpiaaDoor
open Go.RowKit

set_option maxRecDepth 100000 in
set_option maxHeartbeats 1600000 in
theorem specReduce_no (m : Int) (a : Option Addr) (c : Nat) (zs : List Int) (w : World) (ha : Ints w w.heap.size a zs) (hx : zs.length ≤ 1048576) (hf : famIn m zs = false) :
    Calls Tryd.prog 10 #[.agg #[.int .i64 m, .slice a zs.length c]] w (RetFB w 0 [] false) := by
  have HB0 := Lib.hid (below2 w (.cells #[.int .i64 m, .slice a zs.length c] 26) (.cells #[.int .i64 0, .slice none 0 0] 26))
  have HA := Lib.hid (ha.below HB0.out)
  have HF := Lib.hid hf
  clear hf ha
  go_enter Tryd.func10, Tryd.ntmps10
  go_wp2_with fail
  refine (specFamilyIn_any _ _ _ zs _ (HA.out.mono (by simp; omega)) hx).mono ?_
  rintro e w1 ⟨rfl, hb⟩
  rw [HF.out]
  have b1 : w1.heap[w.heap.size + 1]? = some (.cells #[.int .i64 0, .slice none 0 0] 26 (0, 0)) := (hb.block _ (by simp)).trans (alloc2_1 w _ _)
  have HB := Lib.hid (HB0.out.trans (hb.mono (by simp; omega)))
  have z1 : w.heap.size + 1 < w1.heap.size := by have := hb.size; simp at this; omega
  clear hb
  go_wp2_with fail
  refine (l1None_any _).mono ?_
  rintro e w2 ⟨a2, c2, rfl, ho2, hb⟩
  have b2 := (hb.block _ z1).trans b1
  have d0 := blk_cell b2 0
  have d1 := blk_cell b2 1
  have f0 := blk_frozen b2 0
  have f1 := blk_frozen b2 1
  simp only [cell2_0, cell2_1] at d0 d1
  have z2 : w.heap.size + 1 < w2.heap.size := by have := hb.size; omega
  have HB2 := Lib.hid (HB.out.trans (hb.mono (by omega)))
  have HO := Lib.hid ho2
  clear hb b1 b2 ho2
  go_wp2
  refine bodyPost_ret (v := .tuple #[.agg #[.int .i64 0, .slice a2 0 c2], .bool false]) (by simp [results, Tryd.results10, go_sem, d0, d1]) rfl ?_
  refine ⟨a2, c2, rfl, ?_, ?_⟩
  · exact own_mono (ownsRow_setCell_below (ownsRow_setCell_below HO.out (by simp; omega) _) (by simp; omega) _) (by omega)
  · exact (HB2.out.setCell (p := ⟨w.heap.size + 1, 0, none⟩) (by simp) _).setCell (p := ⟨w.heap.size + 1, 1, none⟩) (by simp) _

set_option maxRecDepth 100000 in
set_option maxHeartbeats 3200000 in
theorem specReduce_yes (k : Nat) (hk6 : k ≤ 6) (a : Option Addr) (c : Nat) (zs : List Int) (w : World) (ha : Ints w w.heap.size a zs) (hx : zs.length ≤ 1048576) (h8 : zs.length ≤ 8) (hz : Sets k zs) (hf : famIn (k : Int) zs = true) :
    Calls Tryd.prog 10 #[.agg #[.int .i64 (k : Int), .slice a zs.length c]] w (RetFB w (k : Int) (redZ k zs) true) := by
  have HB0 := Lib.hid (below2 w (.cells #[.int .i64 (k : Int), .slice a zs.length c] 26) (.cells #[.int .i64 0, .slice none 0 0] 26))
  have HA := Lib.hid (ha.below HB0.out)
  have HF := Lib.hid hf
  have HL8 := Lib.hid h8
  have HRED : Hid (∀ W, Ints W W.heap.size a zs → Calls Tryd.prog 32 #[.slice a zs.length c] W (RedRet W k zs)) := Lib.hid fun W h => l6eReduce_any k hk6 a c zs W h h8 hz
  obtain ⟨N, hN⟩ : ∃ N, N = redZ k zs := ⟨_, rfl⟩
  rw [← hN]
  have HN := Lib.hid hN
  clear hf ha hz h8 hN
  go_enter Tryd.func10, Tryd.ntmps10
  go_wp2_with fail
  refine (specFamilyIn_any _ _ _ zs _ (HA.out.mono (by simp; omega)) hx).mono ?_
  rintro e w1 ⟨rfl, hb⟩
  rw [HF.out]
  have b0 : w1.heap[w.heap.size]? = some (.cells #[.int .i64 (k : Int), .slice a zs.length c] 26 (0, 0)) := (hb.block _ (by simp; omega)).trans (alloc2_0 w _ _)
  have b2 : w1.heap[w.heap.size + 1]? = some (.cells #[.int .i64 0, .slice none 0 0] 26 (0, 0)) := (hb.block _ (by simp)).trans (alloc2_1 w _ _)
  have x0 := blk_cell b0 0
  have x1 := blk_cell b0 1
  simp only [cell2_0, cell2_1] at x0 x1
  have HB := Lib.hid (HB0.out.trans (hb.mono (by simp; omega)))
  have HA1 := Lib.hid (HA.out.below (hb.mono (by simp; omega)))
  have B2 := Lib.hid b2
  have z1 : w.heap.size + 1 < w1.heap.size := by have := hb.size; simp at this; omega
  clear hb b0 b2
  have hH1 : w.heap.size < w1.heap.size := by omega
  go_wp2_with fail
  refine (HRED.out _ (HA1.out.mono (Nat.le_of_lt hH1))).mono ?_
  rintro e w3 ⟨bo, co, out, st, rfl, ho3, hb3, hdone⟩
  have hle3 : w1.heap.size ≤ w3.heap.size := hb3.size
  have X0 := Lib.hid ((hb3.cell (p := ⟨w.heap.size, 0, none⟩) hH1).trans x0)
  have X1 := Lib.hid ((hb3.cell (p := ⟨w.heap.size, 1, none⟩) hH1).trans x1)
  have HO3 := Lib.hid ho3.ints
  have HB3 := Lib.hid (HB.out.trans (hb3.mono (by omega)))
  have B3 := Lib.hid ((hb3.block _ z1).trans B2.out)
  have z3 : w.heap.size + 1 < w3.heap.size := by omega
  have hH3 : w.heap.size < w3.heap.size := by omega
  have HSIM : Hid (∀ W, Ints W W.heap.size bo out → Calls Tryd.prog 34 #[.slice bo out.length co] W (RetOwn W (redZ k zs))) := Lib.hid fun W h => by
    have hl := hdone.2.1
    have h9 : (redZ k zs).length ≤ 14 := by have h1 := hdone.2.2.2; have h2 := mbN_le zs; have h3 := HL8.out; omega
    rw [← hdone.1]
    exact l1Simple_any bo co out W h (by omega)
  have hne := HN.out
  rw [← hne] at HSIM
  clear ho3 hb3 hdone x0 x1 hne HRED
  have x0 := X0.out
  have x1 := X1.out
  go_wp2_with fail
  go_region_held3 (fun w' => w'.cell? ⟨w.heap.size, 0, none⟩ = some (.int .i64 (k : Int)) ∧ w'.cell? ⟨w.heap.size, 1, none⟩ = some (.slice a zs.length c))
    (first
      | exact ⟨x0, x1⟩
      | exact ⟨(hb4.cell (p := ⟨w.heap.size, 0, none⟩) hH3).trans x0, (hb4.cell (p := ⟨w.heap.size, 1, none⟩) hH3).trans x1⟩
      | exact ⟨((hb4.trans (hb5.mono hb4.size)).cell (p := ⟨w.heap.size, 0, none⟩) hH3).trans x0, ((hb4.trans (hb5.mono hb4.size)).cell (p := ⟨w.heap.size, 1, none⟩) hH3).trans x1⟩
      | exact two_far (((hb4.trans (hb5.mono hb4.size)).cell (p := ⟨w.heap.size, 0, none⟩) hH3).trans x0) (((hb4.trans (hb5.mono hb4.size)).cell (p := ⟨w.heap.size, 1, none⟩) hH3).trans x1))
    (first
      | (go_at_call 34; refine (HSIM.out _ ((HO3.out.below (Below.drew (Below.refl _ _))).mono (Nat.le_refl _))).mono ?_; rintro e w4 ⟨g4, c4, rfl, ho4, hb4'⟩; have hb4 : Below w3.heap.size w3 w4 := (Below.drew (Below.refl _ _)).trans hb4')
      | (go_at_call 33; refine (l1With_any _ _ _ _ _ _ _ _).mono ?_; rintro e w5 ⟨rfl, hb5⟩; have e2 := ((hb4.trans (hb5.mono hb4.size)).block _ z3).trans B3.out; have d0 := (blk_cell e2 0).trans (cell2_0 _ _); have d1 := (blk_cell e2 1).trans (cell2_1 _ _); have f0 := blk_frozen e2 0; have f1 := blk_frozen e2 1))
  have HO5 := Lib.hid (ho4.below hb5)
  have HB5 := Lib.hid (HB3.out.trans ((hb4.trans (hb5.mono hb4.size)).mono (by omega)))
  clear hb4 hb5 e2 ho4 hb4'
  go_wp2
  refine bodyPost_ret (v := .tuple #[.agg #[.int .i64 (k : Int), .slice (some ⟨g4, 0, none⟩) N.length c4], .bool true]) (by simp [results, Tryd.results10, go_sem, d0, d1]) rfl ?_
  refine ⟨_, c4, rfl, ?_, ?_⟩
  · have h1 := ownsRow_setCell_below (ownsRow_setCell_below HO5.out (a := ⟨w.heap.size + 1, 0, none⟩) z3 (.int .i64 (k : Int))) (a := ⟨w.heap.size + 1, 1, none⟩) z3 (.slice (some ⟨g4, 0, none⟩) N.length c4)
    unfold OwnI
    simpa using ownsRow_base h1 (B := w.heap.size) (by show w.heap.size ≤ w3.heap.size; omega)
  · simpa using (HB5.out.setCell (p := ⟨w.heap.size + 1, 0, none⟩) (by simp) (.int .i64 (k : Int))).setCell (p := ⟨w.heap.size + 1, 1, none⟩) (by simp) (.slice (some ⟨g4, 0, none⟩) N.length c4)

theorem specReduce_any (m : Int) (a : Option Addr) (c : Nat) (zs : List Int) (w : World) (ha : Ints w w.heap.size a zs) (hx : zs.length ≤ 1048576) :
    Calls Tryd.prog 10 #[.agg #[.int .i64 m, .slice a zs.length c]] w (RetFB w (famM (famIn m zs) m) (famF (famIn m zs) (redZ m.toNat) zs) (famIn m zs)) := by
  unfold famM famF
  cases hf : famIn m zs
  · exact specReduce_no m a c zs w ha hx hf
  · obtain ⟨k, rfl, hk1, hk6, hset, hl8⟩ := fam_nat2 hf
    exact specReduce_yes k hk6 a c zs w ha hx hl8 hset hf

end Go.Proofs.YtidbkegnngfpiaaDoor

/- It is proved what FamilyAll of the program and of the model return; conditions: those of each statement. -/
namespace Go.Proofs.YtidbkegnngfpiaaDoor
open Go.RowKit Go.Shelf

attribute [local go_sem] Oper.semAt_some

/-- What a function of an int and a bool returns; nothing that lay has turned. -/
def RetIB (w : World) (r : Int) (ok : Bool) (e : Ending) (w' : World) : Prop := e = .returned (.tuple #[.int .i64 r, .bool ok]) ∧ Below w.heap.size w w'

end Go.Proofs.YtidbkegnngfpiaaDoor
