/- It is proved what the FamilyOther of the model returns; conditions: those of each statement. -/
import Derived.Test.YtkmaebkfmljiiaaRows
import Derived.WalkKit
import Derived.WalkSpells
import Derived.ProofKit
import Derived.OpenShut
import Derived.ShutString
import Derived.ChangeOld
import Derived.Below
import Derived.Deep.RegionHeld3
import Derived.Deep.QuietTactic
import Derived.BigQuiet
import Derived.Lib.Hide
import Derived.Lib.SmallJoins
import Derived.Outline
import Derived.Laws.MakeOwn
import Derived.Laws.OwnMore
import Derived.IntWalk
import Derived.RangeFuncNested
import Derived.RangeFuncBound
import Derived.RangeFuncCalls
import Derived.RangeFuncLeaves
import Derived.RangeFuncBox
import Derived.Shelf.Abstract
import Derived.Shelf.RegionOpen
import Derived.OwnWalkIn
import Derived.TacticsInMore
import Derived.LoopNIn
import Derived.LoopIn
import Derived.Maps.AppendAt
import Derived.Deep.AppendLies
import Derived.OwnWalk
import Derived.Test.YtkmaebkfmljiiaaB
import Derived.Test.YtkmaebkfmljiiaaC
import Derived.Test.YtkmaebkfmljiiaaD
import Derived.Test.YtkmaebkfmljiiaaE
import Derived.Test.YtkmaebkfmljiiaaF
import Derived.Test.YtkmaebkfmljiiaaG
import Derived.Test.YtkmaebkfmljiiaaH
import Derived.Test.YtkmaebkfmljiiaaL
import Derived.Test.YtkmaebkfmljiiaaP
import Derived.Test.YtkmaebkfmljiiaaSa
namespace Go.Proofs.Ytkmaebkfmljiiaa
open Go.RowKit

theorem other_keep1 {w1 w3 : World} {n H b o : Nat} {u0 u1 u2 : Value} {ob : Obj} (h3 : n ≤ w3.heap.size) (h0 : H < n) (h1 : b < n) (hs : w1.heap.size ≤ n)
    (c0 : w3.cell? ⟨H, 0, none⟩ = some u0) (c1 : w3.cell? ⟨H, 1, none⟩ = some u1) (c2 : w3.cell? ⟨b, o, none⟩ = some u2) (hb : Below w1.heap.size w1 w3) :
    (w3.alloc ob).cell? ⟨H, 0, none⟩ = some u0 ∧ (w3.alloc ob).cell? ⟨H, 1, none⟩ = some u1 ∧ (w3.alloc ob).cell? ⟨b, o, none⟩ = some u2 ∧ Below w1.heap.size w1 (w3.alloc ob) :=
  ⟨(World.cell?_alloc_lt _ _ _ (by show H < _; omega)).trans c0, (World.cell?_alloc_lt _ _ _ (by show H < _; omega)).trans c1, (World.cell?_alloc_lt _ _ _ (by show b < _; omega)).trans c2, hb.alloc (by omega) _⟩

theorem other_keep2 {w1 w3 w4 : World} {n H b o : Nat} {u0 u1 u2 v : Value} {ob : Obj} (h3 : n ≤ w3.heap.size) (h0 : H < n) (h1 : b < n) (hs : w1.heap.size ≤ n)
    (c0 : w3.cell? ⟨H, 0, none⟩ = some u0) (c1 : w3.cell? ⟨H, 1, none⟩ = some u1) (c2 : w3.cell? ⟨b, o, none⟩ = some u2) (hb : Below w1.heap.size w1 w3)
    (hg : (w3.alloc ob).grownBy w4 v.ownBlock) {wr : World} (hl : ∀ k, v.ownBlock = some k → w1.heap.size ≤ k ∧ k < wr.heap.size) (hH : H < w1.heap.size) (hbb : b < w1.heap.size) :
    w4.cell? ⟨H, 0, none⟩ = some u0 ∧ w4.cell? ⟨H, 1, none⟩ = some u1 ∧ w4.cell? ⟨b, o, none⟩ = some u2 ∧ Below w1.heap.size w1 w4 := by
  have hB : Below w1.heap.size w1 w4 := (hb.alloc (by omega) ob).grown hg (by simp; omega) (fun k e => (hl k e).1)
  obtain ⟨d0, d1, d2, d3⟩ := other_keep1 (ob := ob) h3 h0 h1 hs c0 c1 c2 hb
  have far : ∀ g o, g < w1.heap.size → w4.cell? ⟨g, o, none⟩ = (w3.alloc ob).cell? ⟨g, o, none⟩ := fun g o hg' =>
    World.cell?_of_block (a := ⟨g, o, none⟩) (hg.block g (by simp; omega) (fun e => by have := (hl g e.symm).1; omega))
  exact ⟨(far _ _ hH).trans d0, (far _ _ hH).trans d1, (far _ _ hbb).trans d2, hB⟩

set_option maxRecDepth 100000 in
set_option maxHeartbeats 1600000 in
theorem specOther_no (m : Int) (a : Option Addr) (c : Nat) (zs : List Int) (w : World) (ha : Ints w w.heap.size a zs) (hx : zs.length ≤ 1048576) (hf : famIn m zs = false) :
    Calls Try.prog 26 #[.agg #[.int .i64 m, .slice a zs.length c]] w (RetFB w 0 [] false) := by
  have HA := Lib.hid ((ha.below (below2 w (.cells #[.int .i64 m, .slice a zs.length c] 25) (.cells #[.int .i64 0, .slice none 0 0] 25))).mono (B' := ((w.alloc (.cells #[.int .i64 m, .slice a zs.length c] 25)).alloc (.cells #[.int .i64 0, .slice none 0 0] 25)).heap.size) (by simp; omega))
  have HF := Lib.hid hf
  clear hf ha
  go_enter Try.func26, Try.ntmps26
  go_wp2_with fail
  refine (specFamilyIn_any _ _ _ zs _ HA.out hx).mono ?_
  rintro e w1 ⟨rfl, hb⟩
  rw [HF.out]
  have b1 : w1.heap[w.heap.size + 1]? = some (.cells #[.int .i64 0, .slice none 0 0] 25 (0, 0)) := (hb.block _ (by simp)).trans (alloc2_1 w _ _)
  have HB := Lib.hid ((below2 w _ _).trans (hb.mono (by simp; omega)))
  have z1 : w.heap.size + 1 < w1.heap.size := by have := hb.size; simp at this; omega
  clear hb
  go_wp2_with fail
  refine (l1None_any _).mono ?_
  rintro e w2 ⟨a2, c2, rfl, ho2, hb⟩
  have b2 := (hb.block _ z1).trans b1
  have d0 := blk_cell b2 0
  have d1 := blk_cell b2 1
  have f0 := blk_frozen b2 0
  have f1 := blk_frozen b2 1
  simp only [Array.getElem?_eq_getElem, List.size_toArray, List.length_cons, List.length_nil, Nat.reduceAdd, Nat.reduceLT, List.getElem_toArray, List.getElem_cons_zero, List.getElem_cons_succ] at d0 d1
  have z2 : w.heap.size + 1 < w2.heap.size := by have := hb.size; omega
  have HB2 := Lib.hid (HB.out.trans (hb.mono (by omega)))
  have HO := Lib.hid ho2
  clear hb b1 b2 ho2
  go_wp2
  refine bodyPost_ret (v := .tuple #[.agg #[.int .i64 0, .slice a2 0 c2], .bool false]) (by simp [results, Try.results26, go_sem, d0, d1]) rfl ?_
  refine ⟨a2, c2, rfl, ?_, ?_⟩
  · exact own_mono (ownsRow_setCell_below (ownsRow_setCell_below HO.out (by simp; omega) _) (by simp; omega) _) (by omega)
  · exact (HB2.out.setCell (p := ⟨w.heap.size + 1, 0, none⟩) (by simp) _).setCell (p := ⟨w.heap.size + 1, 1, none⟩) (by simp) _

set_option maxRecDepth 100000 in
set_option maxHeartbeats 1600000 in
theorem specOther_yes (m : Int) (a : Option Addr) (c : Nat) (zs : List Int) (w : World) (ha : Ints w w.heap.size a zs) (hx : zs.length ≤ 1048576) (hf : famIn m zs = true) :
    Calls Try.prog 26 #[.agg #[.int .i64 m, .slice a zs.length c]] w (RetFB w m (zs.map fun z => bits .andNot .i64 (fullI m) z) true) := by
  have HA := Lib.hid ((ha.below (below2 w (.cells #[.int .i64 m, .slice a zs.length c] 25) (.cells #[.int .i64 0, .slice none 0 0] 25))).mono (B' := ((w.alloc (.cells #[.int .i64 m, .slice a zs.length c] 25)).alloc (.cells #[.int .i64 0, .slice none 0 0] 25)).heap.size) (by simp; omega))
  have HF := Lib.hid hf
  obtain ⟨hm1, hm6, -, -⟩ := famIn_out hf
  obtain ⟨i0, hi0, hz0, hz1, hz2⟩ := info_parts Try.info3
  have ha' := Lib.hid ha
  clear hf ha
  go_enter Try.func26, Try.ntmps26
  go_wp2_with fail
  refine (specFamilyIn_any _ _ _ zs _ HA.out hx).mono ?_
  rintro e w1 ⟨rfl, hb⟩
  rw [HF.out]
  have b0 : w1.heap[w.heap.size]? = some (.cells #[.int .i64 m, .slice a zs.length c] 25 (0, 0)) := (hb.block _ (by simp; omega)).trans (alloc2_0 w _ _)
  have b1 : w1.heap[w.heap.size + 1]? = some (.cells #[.int .i64 0, .slice none 0 0] 25 (0, 0)) := (hb.block _ (by simp)).trans (alloc2_1 w _ _)
  have HB := Lib.hid ((below2 w _ _).trans (hb.mono (by simp; omega)))
  have z1 : w.heap.size + 2 ≤ w1.heap.size := by have := hb.size; simp at this; omega
  have x0 := blk_cell b0 0
  have x1 := blk_cell b0 1
  simp only [Array.getElem?_eq_getElem, List.size_toArray, List.length_cons, List.length_nil, Nat.reduceAdd, Nat.reduceLT, List.getElem_toArray, List.getElem_cons_zero, List.getElem_cons_succ] at x0 x1
  clear hb
  go_wp2
  go_loopw [4, 5] (fun v i wr => ∃ (k : Nat) (a' : Option Addr) (c' : Nat), k ≤ zs.length ∧ i = .int .i64 k ∧ v = .slice a' k c' ∧ wr.ownsRow w1.heap.size 3 1 (.slice a' k c') k (((zs.take k).map fun z => bits .andNot .i64 (fullI m) z).map (Value.int .i64)) ∧ Below w1.heap.size w1 wr) (fun _ i _ => zs.length - (intOf i).toNat)
  case atStart => exact ⟨0, _, _, Nat.zero_le _, rfl, rfl, own_empty (alloc_new w1 _) (Nat.le_refl _), below1 _ _⟩
  case round =>
    obtain ⟨k, a', c', hk, rfl, rfl, ho, hb⟩ := hrel
    have y0 := (hb.cell (p := ⟨w.heap.size, 0, none⟩) (by simp; omega)).trans x0
    have y1 := (hb.cell (p := ⟨w.heap.size, 1, none⟩) (by simp; omega)).trans x1
    by_cases hlt : k < zs.length
    · obtain ⟨b1, o1, rfl, hb1, hc1⟩ := (ha'.out.below HB.out).at_ hlt
      have hc2 := (hb.cell (p := ⟨b1, o1 + k, none⟩) (by simp; omega)).trans hc1
      have hsz := hb.size
      have hk0 : (0 : Int) ≤ (k : Int) := by omega
      have hk1 : (k : Int) < (zs.length : Int) := by omega
      have HBr := Lib.hid hb
      have HOr := Lib.hid ho
      have hlr := (World.ownsRow.lt ho)
      have HLR := Lib.hid hlr
      clear hb ho hlr hc1
      have hs0 : w.heap.size < wr.heap.size := by omega
      have hs1 : b1 < wr.heap.size := by omega
      have hsb : w1.heap.size ≤ wr.heap.size := hsz
      have hb1' : b1 < w1.heap.size := by omega
      go_wp2_with fail
      go_region_held3 (fun w' => w'.cell? ⟨w.heap.size, 0, none⟩ = some (.int .i64 m) ∧ w'.cell? ⟨w.heap.size, 1, none⟩ = some (.slice (some ⟨b1, o1, none⟩) zs.length c) ∧ w'.cell? ⟨b1, o1 + k, none⟩ = some (.int .i64 (zs[k]?.getD 0)) ∧ Below w1.heap.size w1 w')
        (first
          | exact ⟨y0, y1, hc2, HBr.out.drew⟩
          | exact ⟨(hb3.cell (p := ⟨w.heap.size, 0, none⟩) hs0).trans y0, (hb3.cell (p := ⟨w.heap.size, 1, none⟩) hs0).trans y1, (hb3.cell (p := ⟨b1, o1 + k, none⟩) hs1).trans hc2, HBr.out.drew.trans (hb3.mono hsb)⟩
          | exact other_keep1 (show wr.heap.size ≤ w3.heap.size from hb3.size) hs0 hs1 hsb ((hb3.cell (p := ⟨w.heap.size, 0, none⟩) hs0).trans y0) ((hb3.cell (p := ⟨w.heap.size, 1, none⟩) hs0).trans y1) ((hb3.cell (p := ⟨b1, o1 + k, none⟩) hs1).trans hc2) (HBr.out.drew.trans (hb3.mono hsb))
          | exact other_keep2 (show wr.heap.size ≤ w3.heap.size from hb3.size) hs0 hs1 hsb ((hb3.cell (p := ⟨w.heap.size, 0, none⟩) hs0).trans y0) ((hb3.cell (p := ⟨w.heap.size, 1, none⟩) hs0).trans y1) ((hb3.cell (p := ⟨b1, o1 + k, none⟩) hs1).trans hc2) (HBr.out.drew.trans (hb3.mono hsb)) hgrow HLR.out (show w.heap.size < w1.heap.size by omega) hb1')
        (first
          | (go_at_call 47; refine (l1All_b _ _ _ _ _ hm1 hm6).mono ?_; rintro e w3 ⟨rfl, hb3⟩)
          | (refine step_append_lies _ (by rfl) _ _ _ (by rfl) w1.heap.size 3 i0 _ 1 8 Try.underlying23 hi0 hz0 hz1 hz2 rfl (by omega) (.slice a' k c') k _ (by rfl) ((own_after HOr.out hb3).alloc _) ⟨w3.heap.size, 0, none⟩ 1 1 [.int .i64 (bits .andNot .i64 (fullI m) zs[k])] (by rfl) (by rfl) (cell_one_new _ _ _) (by simp [Value.oneCell']) (by omega) (by simp only [maxLen]; omega) (by omega) (by have := hb3.size; simp at this ⊢; omega) (w3.heap.size + 1) (by simp) ?_; intro gg cp w4 hown hgrow hat hltg))
      rename_i hHeld
      have HW := Lib.hid hHeld.2.2.2
      have HN := Lib.hid hown
      clear hHeld hown hgrow hat hb3
      go_wp2
      go_roundw
      case rel => exact ⟨k + 1, _, _, by omega, by go_num, rfl, by have h := HN.out; rw [map_at _ zs k hlt, List.map_append]; simpa [hlt] using h, HW.out⟩
      case measure => simp [intOf]; omega
    · obtain rfl : k = zs.length := by omega
      rw [List.take_length] at ho
      have HO : Hid (OwnI wr w1.heap.size (.slice a' zs.length c') (zs.map fun z => bits .andNot .i64 (fullI m) z)) := Lib.hid (by unfold OwnI; rw [List.length_map]; exact ho)
      have HW := Lib.hid hb
      have b1' := (hb.block _ (by omega)).trans b1
      have hsz := hb.size
      clear ho hb b0 b1
      go_wp2_with fail
      refine (l1With_any _ _ _ _ _ _ _ _).mono ?_
      rintro e w4 ⟨rfl, hb4⟩
      have b2 := (hb4.block _ (by omega)).trans b1'
      have d0 := blk_cell b2 0
      have d1 := blk_cell b2 1
      have f0 := blk_frozen b2 0
      have f1 := blk_frozen b2 1
      simp only [Array.getElem?_eq_getElem, List.size_toArray, List.length_cons, List.length_nil, Nat.reduceAdd, Nat.reduceLT, List.getElem_toArray, List.getElem_cons_zero, List.getElem_cons_succ] at d0 d1
      have z4 : w.heap.size + 2 ≤ w4.heap.size := by have := hb4.size; omega
      have HO4 := Lib.hid (own_below HO.out hb4 (Nat.le_refl _))
      have HB4 := Lib.hid (HB.out.trans ((HW.out.mono (by omega)).trans (hb4.mono (by omega))))
      clear hb4 b1' b2
      go_wp2
      refine bodyPost_ret (v := .tuple #[.agg #[.int .i64 m, .slice a' zs.length c'], .bool true]) (by simp [results, Try.results26, go_sem, d0, d1]) rfl ?_
      refine ⟨a', c', by rw [List.length_map], ?_, ?_⟩
      · rw [List.length_map]
        exact own_mono (ownsRow_setCell_below (ownsRow_setCell_below HO4.out (by simp; omega) _) (by simp; omega) _) (by omega)
      · exact (HB4.out.setCell (p := ⟨w.heap.size + 1, 0, none⟩) (by simp) _).setCell (p := ⟨w.heap.size + 1, 1, none⟩) (by simp) _

end Go.Proofs.Ytkmaebkfmljiiaa
