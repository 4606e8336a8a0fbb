/- It is proved what l1None, l1With and the model's FamilyMeet return; conditions: those of each statement. -/
import Derived.Maps.AppendAt
import Derived.Deep.AppendLies
import Derived.OwnWalk
import Derived.Test.YtgpgocijacgkhaaRows
import Derived.WalkKit
import Derived.WalkSpells
import Derived.ProofKit
import Derived.OpenShut
import Derived.ShutString
import Derived.ChangeOld
import Derived.Below
import Derived.Deep.RegionHeld3
import Derived.Deep.QuietTactic
import Derived.BigQuiet
import Derived.Lib.Hide
import Derived.Lib.SmallJoins
import Derived.Outline
import Derived.Laws.MakeOwn
import Derived.Laws.OwnMore
import Derived.IntWalk
import Derived.Test.YtgpgocijacgkhaaB
import Derived.Test.YtgpgocijacgkhaaC
import Derived.Test.YtgpgocijacgkhaaD
import Derived.Test.YtgpgocijacgkhaaE
import Derived.Test.YtgpgocijacgkhaaF
import Derived.Test.YtgpgocijacgkhaaG
import Derived.Test.YtgpgocijacgkhaaH
import Derived.Test.YtgpgocijacgkhaaL
namespace Go.Proofs.Ytgpgocijacgkhaa
open Go.RowKit

theorem alloc2_0 (w : World) (o p : Obj) : ((w.alloc o).alloc p).heap[w.heap.size]? = some o := by rw [alloc_old _ _ _ (by simp), alloc_new]
theorem alloc2_1 (w : World) (o p : Obj) : ((w.alloc o).alloc p).heap[w.heap.size + 1]? = some p := by
  rw [show w.heap.size + 1 = (w.alloc o).heap.size from by simp, alloc_new]

/-- A new empty row. -/
theorem own_empty {w : World} {B g : Nat} (h : w.heap[g]? = some (.cells #[] 3 (0, 0))) (hB : B ≤ g) : OwnI w B (.slice (some ⟨g, 0, none⟩) 0 0) [] :=
  ⟨by simp, .inr ⟨g, 0, #[], rfl, hB, h, Nat.le_refl _, by simp [maxLen], by simp, by simp⟩⟩

set_option maxRecDepth 100000 in
set_option maxHeartbeats 400000 in
theorem l1None_any (w : World) : Calls Try.prog 25 #[] w (RetFB w 0 [] false) := by
  go_enter Try.func25, Try.ntmps25
  go_wp2
  refine bodyPost_ret (v := .tuple #[.agg #[.int .i64 0, .slice (some ⟨w.heap.size + 1, 0, none⟩) 0 0], .bool false]) (by simp [results, Try.results25, go_sem]) rfl ?_
  exact ⟨_, _, rfl, own_empty (alloc2_1 w _ _) (by omega), below2 _ _ _⟩

set_option maxRecDepth 100000 in
set_option maxHeartbeats 400000 in
theorem l1With_any (m : Int) (a b : Option Addr) (n c k d : Nat) (w : World) :
    Calls Try.prog 26 #[.agg #[.int .i64 m, .slice a n c], .slice b k d] w fun e w' => e = .returned (.agg #[.int .i64 m, .slice b k d]) ∧ Below w.heap.size w w' := by
  go_enter Try.func26, Try.ntmps26
  go_wp2
  refine bodyPost_ret (v := .agg #[.int .i64 m, .slice b k d]) (by simp [results, Try.results26, go_sem]) rfl ?_
  exact ⟨rfl, below2 _ _ _⟩

theorem map_at (f : Int → Int) (zs : List Int) (k : Nat) (h : k < zs.length) : (zs.take (k + 1)).map f = (zs.take k).map f ++ [f (zs[k]?.getD 0)] := by
  rw [List.take_succ_eq_append_getElem h, List.map_append]; simp [h]

/-- The condition of FamilyMeet. -/
def meetIn (m : Int) (zs : List Int) (x : Int) : Bool := famIn m zs && inB x 0 (fullI m)

set_option maxRecDepth 100000 in
set_option maxHeartbeats 1600000 in
theorem specMeet_no1 (m : Int) (a : Option Addr) (c : Nat) (zs : List Int) (x : Int) (w : World) (ha : Ints w w.heap.size a zs) (hx : zs.length ≤ 1048576) (hf : famIn m zs = false) :
    Calls Try.prog 12 #[.agg #[.int .i64 m, .slice a zs.length c], .int .i64 x] w (RetFB w 0 [] false) := by
  have HA := Lib.hid ((ha.below (below2 w (.cells #[.int .i64 m, .slice a zs.length c] 25) (.cells #[.int .i64 0, .slice none 0 0] 25))).mono (B' := ((w.alloc (.cells #[.int .i64 m, .slice a zs.length c] 25)).alloc (.cells #[.int .i64 0, .slice none 0 0] 25)).heap.size) (by simp; omega))
  have HF := Lib.hid hf
  clear hf ha
  go_enter Try.func12, Try.ntmps12
  go_wp2_with fail
  refine (specFamilyIn_any _ _ _ zs _ HA.out hx).mono ?_
  rintro e w1 ⟨rfl, hb⟩
  rw [HF.out]
  have b1 : w1.heap[w.heap.size + 1]? = some (.cells #[.int .i64 0, .slice none 0 0] 25 (0, 0)) := (hb.block _ (by simp)).trans (alloc2_1 w _ _)
  have HB := Lib.hid ((below2 w _ _).trans (hb.mono (by simp; omega)))
  have z1 : w.heap.size + 1 < w1.heap.size := by have := hb.size; simp at this; omega
  clear hb
  go_wp2_with fail
  refine (l1None_any _).mono ?_
  rintro e w2 ⟨a2, c2, rfl, ho2, hb⟩
  have b2 := (hb.block _ z1).trans b1
  have d0 := blk_cell b2 0
  have d1 := blk_cell b2 1
  have f0 := blk_frozen b2 0
  have f1 := blk_frozen b2 1
  simp only [Array.getElem?_eq_getElem, List.size_toArray, List.length_cons, List.length_nil, Nat.reduceAdd, Nat.reduceLT, List.getElem_toArray, List.getElem_cons_zero, List.getElem_cons_succ] at d0 d1
  have z2 : w.heap.size + 1 < w2.heap.size := by have := hb.size; omega
  have HB2 := Lib.hid (HB.out.trans (hb.mono (by omega)))
  have HO := Lib.hid ho2
  clear hb b1 b2 ho2
  go_wp2
  refine bodyPost_ret (v := .tuple #[.agg #[.int .i64 0, .slice a2 0 c2], .bool false]) (by simp [results, Try.results12, go_sem, d0, d1]) rfl ?_
  refine ⟨a2, c2, rfl, ?_, ?_⟩
  · exact own_mono (ownsRow_setCell_below (ownsRow_setCell_below HO.out (by simp; omega) _) (by simp; omega) _) (by omega)
  · exact (HB2.out.setCell (p := ⟨w.heap.size + 1, 0, none⟩) (by simp) _).setCell (p := ⟨w.heap.size + 1, 1, none⟩) (by simp) _

set_option maxRecDepth 100000 in
set_option maxHeartbeats 1600000 in
theorem specMeet_no2 (m : Int) (a : Option Addr) (c : Nat) (zs : List Int) (x : Int) (w : World) (ha : Ints w w.heap.size a zs) (hx : zs.length ≤ 1048576) (hf : famIn m zs = true) (hi : inB x 0 (fullI m) = false) :
    Calls Try.prog 12 #[.agg #[.int .i64 m, .slice a zs.length c], .int .i64 x] w (RetFB w 0 [] false) := by
  have HA := Lib.hid ((ha.below (below2 w (.cells #[.int .i64 m, .slice a zs.length c] 25) (.cells #[.int .i64 0, .slice none 0 0] 25))).mono (B' := ((w.alloc (.cells #[.int .i64 m, .slice a zs.length c] 25)).alloc (.cells #[.int .i64 0, .slice none 0 0] 25)).heap.size) (by simp; omega))
  have HF := Lib.hid hf
  have HI := Lib.hid hi
  obtain ⟨hm1, hm6, -, -⟩ := famIn_out hf
  clear hf ha hi
  go_enter Try.func12, Try.ntmps12
  go_wp2_with fail
  refine (specFamilyIn_any _ _ _ zs _ HA.out hx).mono ?_
  rintro e w1 ⟨rfl, hb⟩
  rw [HF.out]
  have b1 : w1.heap[w.heap.size + 1]? = some (.cells #[.int .i64 0, .slice none 0 0] 25 (0, 0)) := (hb.block _ (by simp)).trans (alloc2_1 w _ _)
  have HB := Lib.hid ((below2 w _ _).trans (hb.mono (by simp; omega)))
  have z1 : w.heap.size + 1 < w1.heap.size := by have := hb.size; simp at this; omega
  have b0 : w1.heap[w.heap.size]? = some (.cells #[.int .i64 m, .slice a zs.length c] 25 (0, 0)) := (hb.block _ (by simp; omega)).trans (alloc2_0 w _ _)
  have x0 := blk_cell b0 0
  have x1 := blk_cell b0 1
  simp only [Array.getElem?_eq_getElem, List.size_toArray, List.length_cons, List.length_nil, Nat.reduceAdd, Nat.reduceLT, List.getElem_toArray, List.getElem_cons_zero, List.getElem_cons_succ] at x0 x1
  clear hb b0
  go_wp2_with fail
  refine (l1All_b _ _ _ _ _ hm1 hm6).mono ?_
  rintro e w1' ⟨rfl, hb⟩
  have b1 := (hb.block _ z1).trans b1
  have HB := Lib.hid (HB.out.trans (hb.mono (by omega)))
  have z1 : w.heap.size + 1 < w1'.heap.size := by have := hb.size; omega
  clear hb
  go_wp2_with fail
  refine (l6In_any _ _ _ _).mono ?_
  rintro e w1'' ⟨rfl, rfl⟩
  rw [HI.out]
  go_wp2_with fail
  refine (l1None_any _).mono ?_
  rintro e w2 ⟨a2, c2, rfl, ho2, hb⟩
  have b2 := (hb.block _ z1).trans b1
  have d0 := blk_cell b2 0
  have d1 := blk_cell b2 1
  have f0 := blk_frozen b2 0
  have f1 := blk_frozen b2 1
  simp only [Array.getElem?_eq_getElem, List.size_toArray, List.length_cons, List.length_nil, Nat.reduceAdd, Nat.reduceLT, List.getElem_toArray, List.getElem_cons_zero, List.getElem_cons_succ] at d0 d1
  have z2 : w.heap.size + 1 < w2.heap.size := by have := hb.size; omega
  have HB2 := Lib.hid (HB.out.trans (hb.mono (by omega)))
  have HO := Lib.hid ho2
  clear hb b1 b2 ho2
  go_wp2
  refine bodyPost_ret (v := .tuple #[.agg #[.int .i64 0, .slice a2 0 c2], .bool false]) (by simp [results, Try.results12, go_sem, d0, d1]) rfl ?_
  refine ⟨a2, c2, rfl, ?_, ?_⟩
  · exact own_mono (ownsRow_setCell_below (ownsRow_setCell_below HO.out (by simp; omega) _) (by simp; omega) _) (by omega)
  · exact (HB2.out.setCell (p := ⟨w.heap.size + 1, 0, none⟩) (by simp) _).setCell (p := ⟨w.heap.size + 1, 1, none⟩) (by simp) _

theorem OwnI.form {w : World} {B : Nat} {v : Value} {zs : List Int} (h : OwnI w B v zs) (hn : 0 < zs.length) : ∃ g cap, v = .slice (some ⟨g, 0, none⟩) zs.length cap ∧ B ≤ g ∧ g < w.heap.size := World.ownsRow.form h hn
set_option maxRecDepth 100000 in
set_option maxHeartbeats 1600000 in
theorem specMeet_yes (m : Int) (a : Option Addr) (c : Nat) (zs : List Int) (x : Int) (w : World) (ha : Ints w w.heap.size a zs) (hx : zs.length ≤ 1048576) (hf : famIn m zs = true) (hi : inB x 0 (fullI m) = true) :
    Calls Try.prog 12 #[.agg #[.int .i64 m, .slice a zs.length c], .int .i64 x] w (RetFB w m (zs.map fun z => bits .and .i64 z x) true) := by
  have HA := Lib.hid ((ha.below (below2 w (.cells #[.int .i64 m, .slice a zs.length c] 25) (.cells #[.int .i64 0, .slice none 0 0] 25))).mono (B' := ((w.alloc (.cells #[.int .i64 m, .slice a zs.length c] 25)).alloc (.cells #[.int .i64 0, .slice none 0 0] 25)).heap.size) (by simp; omega))
  have HF := Lib.hid hf
  have HI := Lib.hid hi
  obtain ⟨hm1, hm6, -, -⟩ := famIn_out hf
  obtain ⟨i0, hi0, hz0, hz1, hz2⟩ := info_parts Try.info3
  have ha' := Lib.hid ha
  clear hf ha hi
  go_enter Try.func12, Try.ntmps12
  go_wp2_with fail
  refine (specFamilyIn_any _ _ _ zs _ HA.out hx).mono ?_
  rintro e w1 ⟨rfl, hb⟩
  rw [HF.out]
  have b0 : w1.heap[w.heap.size]? = some (.cells #[.int .i64 m, .slice a zs.length c] 25 (0, 0)) := (hb.block _ (by simp; omega)).trans (alloc2_0 w _ _)
  have b1 : w1.heap[w.heap.size + 1]? = some (.cells #[.int .i64 0, .slice none 0 0] 25 (0, 0)) := (hb.block _ (by simp)).trans (alloc2_1 w _ _)
  have HB := Lib.hid ((below2 w _ _).trans (hb.mono (by simp; omega)))
  have z1 : w.heap.size + 2 ≤ w1.heap.size := by have := hb.size; simp at this; omega
  have x0 := blk_cell b0 0
  have x1 := blk_cell b0 1
  simp only [Array.getElem?_eq_getElem, List.size_toArray, List.length_cons, List.length_nil, Nat.reduceAdd, Nat.reduceLT, List.getElem_toArray, List.getElem_cons_zero, List.getElem_cons_succ] at x0 x1
  clear hb
  go_wp2_with fail
  refine (l1All_b _ _ _ _ _ hm1 hm6).mono ?_
  rintro e w2 ⟨rfl, hb⟩
  have b0 := (hb.block _ (by omega)).trans b0
  have b1 := (hb.block _ (by omega)).trans b1
  have HB2 := Lib.hid (HB.out.trans (hb.mono (by omega)))
  have z2 : w.heap.size + 2 ≤ w2.heap.size := by have := hb.size; omega
  have x0 := blk_cell b0 0
  have x1 := blk_cell b0 1
  simp only [Array.getElem?_eq_getElem, List.size_toArray, List.length_cons, List.length_nil, Nat.reduceAdd, Nat.reduceLT, List.getElem_toArray, List.getElem_cons_zero, List.getElem_cons_succ] at x0 x1
  clear hb HB z1
  go_wp2_with (go_at_call 23; refine (l6In_any _ _ _ _).mono ?_; rintro e w' ⟨rfl, rfl⟩; rw [HI.out])
  go_loopw [6, 7] (fun v i wr => ∃ (k : Nat) (a' : Option Addr) (c' : Nat), k ≤ zs.length ∧ i = .int .i64 k ∧ v = .slice a' k c' ∧ wr.ownsRow w2.heap.size 3 1 (.slice a' k c') k (((zs.take k).map fun z => bits .and .i64 z x).map (Value.int .i64)) ∧ Below w2.heap.size w2 wr) (fun _ i _ => zs.length - (intOf i).toNat)
  case atStart => exact ⟨0, _, _, Nat.zero_le _, rfl, rfl, own_empty (alloc_new w2 _) (Nat.le_refl _), below1 _ _⟩
  case round =>
    obtain ⟨k, a', c', hk, rfl, rfl, ho, hb⟩ := hrel
    have y0 := (hb.cell (p := ⟨w.heap.size, 0, none⟩) (by simp; omega)).trans x0
    have y1 := (hb.cell (p := ⟨w.heap.size, 1, none⟩) (by simp; omega)).trans x1
    by_cases hlt : k < zs.length
    · obtain ⟨b1, o1, rfl, hb1, hc1⟩ := (ha'.out.below HB2.out).at_ hlt
      have hc2 := (hb.cell (p := ⟨b1, o1 + k, none⟩) (by simp; omega)).trans hc1
      have hsz := hb.size
      go_wp2_with (at_builtin; refine wpList_append_own _ rfl _ _ 23 rfl w2.heap.size 3 i0 (.int .i64 0) 1 8 Try.underlying23 hi0 hz0 hz1 hz2 rfl (by decide) _ _ _ rfl (ho.alloc _) ⟨wr.heap.size, 0, none⟩ 1 1 [.int .i64 (bits .and .i64 zs[k] x)] rfl rfl (cell_one_new _ _ _) (by simp [Value.oneCell']) (by simp only [maxLen]; omega) (by omega) (by simp; omega) ?_; intro v' w3 hown hgrow _; obtain ⟨g', cap', rfl, _, _⟩ := World.ownsRow.form hown (by omega))
      go_roundw
      case rel => exact ⟨k + 1, _, _, by omega, by go_num, rfl, by rw [map_at _ zs k hlt, List.map_append]; simpa [hlt] using hown, (hb.alloc (by omega) _).grown hgrow (by simp; omega) (fun g e => (World.ownsRow.lt ho g e).1)⟩
      case measure => simp [intOf]; omega
    · obtain rfl : k = zs.length := by omega
      rw [List.take_length] at ho
      have HO : Hid (OwnI wr w2.heap.size (.slice a' zs.length c') (zs.map fun z => bits .and .i64 z x)) := Lib.hid (by unfold OwnI; rw [List.length_map]; exact ho)
      have HW := Lib.hid hb
      have b1' := (hb.block _ (by omega)).trans b1
      have hsz := hb.size
      clear ho hb b0 b1
      go_wp2_with fail
      refine (l1With_any _ _ _ _ _ _ _ _).mono ?_
      rintro e w4 ⟨rfl, hb4⟩
      have b2 := (hb4.block _ (by omega)).trans b1'
      have d0 := blk_cell b2 0
      have d1 := blk_cell b2 1
      have f0 := blk_frozen b2 0
      have f1 := blk_frozen b2 1
      simp only [Array.getElem?_eq_getElem, List.size_toArray, List.length_cons, List.length_nil, Nat.reduceAdd, Nat.reduceLT, List.getElem_toArray, List.getElem_cons_zero, List.getElem_cons_succ] at d0 d1
      have z4 : w.heap.size + 2 ≤ w4.heap.size := by have := hb4.size; omega
      have HO4 := Lib.hid (own_below HO.out hb4 (Nat.le_refl _))
      have HB4 := Lib.hid (HB2.out.trans ((HW.out.mono (by omega)).trans (hb4.mono (by omega))))
      clear hb4 b1' b2
      go_wp2
      refine bodyPost_ret (v := .tuple #[.agg #[.int .i64 m, .slice a' zs.length c'], .bool true]) (by simp [results, Try.results12, go_sem, d0, d1]) rfl ?_
      refine ⟨a', c', by rw [List.length_map], ?_, ?_⟩
      · rw [List.length_map]
        exact own_mono (ownsRow_setCell_below (ownsRow_setCell_below HO4.out (by simp; omega) _) (by simp; omega) _) (by omega)
      · exact (HB4.out.setCell (p := ⟨w.heap.size + 1, 0, none⟩) (by simp) _).setCell (p := ⟨w.heap.size + 1, 1, none⟩) (by simp) _

def meetZ (m : Int) (zs : List Int) (x : Int) : List Int := if meetIn m zs x then zs.map fun z => bits .and .i64 z x else []
def meetM (m : Int) (zs : List Int) (x : Int) : Int := if meetIn m zs x then m else 0
theorem meetZ_len (m : Int) (zs : List Int) (x : Int) (h : zs.length ≤ 1048576) : (meetZ m zs x).length ≤ 1048576 := by
  unfold meetZ; split <;> simp; exact h

theorem specMeet_any (m : Int) (a : Option Addr) (c : Nat) (zs : List Int) (x : Int) (w : World) (ha : Ints w w.heap.size a zs) (hx : zs.length ≤ 1048576) :
    Calls Try.prog 12 #[.agg #[.int .i64 m, .slice a zs.length c], .int .i64 x] w (RetFB w (meetM m zs x) (meetZ m zs x) (meetIn m zs x)) := by
  unfold meetM meetZ meetIn
  cases hf : famIn m zs
  · exact specMeet_no1 m a c zs x w ha hx hf
  · cases hi : inB x 0 (fullI m)
    · exact specMeet_no2 m a c zs x w ha hx hf hi
    · exact specMeet_yes m a c zs x w ha hx hf hi

end Go.Proofs.Ytgpgocijacgkhaa
