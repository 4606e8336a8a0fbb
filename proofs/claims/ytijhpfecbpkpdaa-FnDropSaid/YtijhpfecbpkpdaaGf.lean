/- It is proved what the FamilyPut of the model returns; conditions: those of each statement. -/
import Derived.Test.YtijhpfecbpkpdaaRows
import Derived.WalkKit
import Derived.WalkSpells
import Derived.ProofKit
import Derived.OpenShut
import Derived.ShutString
import Derived.ChangeOld
import Derived.Below
import Derived.Deep.RegionHeld3
import Derived.Deep.QuietTactic
import Derived.BigQuiet
import Derived.Lib.Hide
import Derived.Lib.SmallJoins
import Derived.Outline
import Derived.Laws.MakeOwn
import Derived.Laws.OwnMore
import Derived.IntWalk
import Derived.Lib.AppendZeros
import Derived.Maps.AppendAt
import Derived.Deep.AppendLies
import Derived.OwnWalk
import Derived.RangeFuncNested
import Derived.RangeFuncBound
import Derived.RangeFuncCalls
import Derived.RangeFuncLeaves
import Derived.RangeFuncBox
import Derived.Shelf.Abstract
import Derived.Shelf.RegionOpen
import Derived.OwnWalkIn
import Derived.TacticsInMore
import Derived.LoopNIn
import Derived.LoopIn
import Derived.Test.YtijhpfecbpkpdaaB
import Derived.Test.YtijhpfecbpkpdaaC
import Derived.Test.YtijhpfecbpkpdaaD
import Derived.Test.YtijhpfecbpkpdaaE
import Derived.Test.YtijhpfecbpkpdaaF
import Derived.Test.YtijhpfecbpkpdaaG
import Derived.Test.YtijhpfecbpkpdaaGa
import Derived.Test.YtijhpfecbpkpdaaGb
import Derived.Test.YtijhpfecbpkpdaaGc
import Derived.Test.YtijhpfecbpkpdaaL
import Derived.Test.YtijhpfecbpkpdaaOw
import Derived.Test.YtijhpfecbpkpdaaP
import Derived.Test.YtijhpfecbpkpdaaSa
namespace Go.Proofs.Ytijhpfecbpkpdaa
open Go.RowKit

theorem step_run3 {P : Program} {w : World} {ops : Array Oper} {o : Oper} {a : Act} {K : Act → World → Prop} {Q : Exit → Act → World → Prop} {E : Prop} (s x : Operand) (t tn : TypeId) (vs vx : Value) (hgd : o.guard = none)
    (ho : o.op = .call { callee := .builtin .append, args := #[s, x], argTypes := #[t, tn] }) (hs : a.eval s = vs) (hx : a.eval x = vx)
    (h : ∃ v' w', (Builtin.append_ #[t, tn] o.type #[vs, vx]).run P w = .ok v' w' ∧ K (a.put o.dst v') w') :
    if Region.wanted o (yielded ops a.tmps) = true then Oper.wp P o a w K Q else E := step_run2 hgd s x t tn ho vs vx hs hx h

theorem app_run0 {w : World} {B : Nat} {v : Value} (h : OwnI w B v []) (hB : B ≤ w.heap.size) (a : Option Addr) (c : Nat) (zs : List Int) (hz : Ints w w.heap.size a zs) (_hn : 0 ≤ 1048576) (hzn : zs.length ≤ 1048576) :
    ∃ a' c' w', (Builtin.append_ #[23, 23] 23 #[v, .slice a zs.length c]).run Try.prog w = .ok (.slice a' zs.length c') w' ∧
      w'.ownsRow B 3 1 (.slice a' zs.length c') zs.length (zs.map (Value.int .i64)) ∧ w.grownBy w' v.ownBlock := by
  have := app_run (n := 0) (xs := []) h hB a c zs hz (by omega) hzn
  simpa using this

theorem drew_below {B : Nat} {a w : World} (h : Below B a w) : Below B a w.drew := h.drew
set_option maxRecDepth 100000 in
set_option maxHeartbeats 1600000 in
theorem specPut_no1 (m : Int) (a : Option Addr) (c : Nat) (zs : List Int) (x : Int) (w : World) (ha : Ints w w.heap.size a zs) (hx : zs.length ≤ 1048576) (hf : famIn m zs = false) :
    Calls Try.prog 21 #[.agg #[.int .i64 m, .slice a zs.length c], .int .i64 x] w (RetFB w 0 [] false) := by
  have HA := Lib.hid ((ha.below (below2 w (.cells #[.int .i64 m, .slice a zs.length c] 25) (.cells #[.int .i64 0, .slice none 0 0] 25))).mono (B' := ((w.alloc (.cells #[.int .i64 m, .slice a zs.length c] 25)).alloc (.cells #[.int .i64 0, .slice none 0 0] 25)).heap.size) (by simp; omega))
  have HF := Lib.hid hf
  clear hf ha
  go_enter Try.func21, Try.ntmps21
  go_wp2_with fail
  refine (specFamilyIn_any _ _ _ zs _ HA.out hx).mono ?_
  rintro e w1 ⟨rfl, hb⟩
  rw [HF.out]
  have b1 : w1.heap[w.heap.size + 1]? = some (.cells #[.int .i64 0, .slice none 0 0] 25 (0, 0)) := (hb.block _ (by simp)).trans (alloc2_1 w _ _)
  have HB := Lib.hid ((below2 w _ _).trans (hb.mono (by simp; omega)))
  have z1 : w.heap.size + 1 < w1.heap.size := by have := hb.size; simp at this; omega
  clear hb
  go_wp2_with fail
  refine (l1None_any _).mono ?_
  rintro e w2 ⟨a2, c2, rfl, ho2, hb⟩
  have b2 := (hb.block _ z1).trans b1
  have d0 := blk_cell b2 0
  have d1 := blk_cell b2 1
  have f0 := blk_frozen b2 0
  have f1 := blk_frozen b2 1
  simp only [Array.getElem?_eq_getElem, List.size_toArray, List.length_cons, List.length_nil, Nat.reduceAdd, Nat.reduceLT, List.getElem_toArray, List.getElem_cons_zero, List.getElem_cons_succ] at d0 d1
  have z2 : w.heap.size + 1 < w2.heap.size := by have := hb.size; omega
  have HB2 := Lib.hid (HB.out.trans (hb.mono (by omega)))
  have HO := Lib.hid ho2
  clear hb b1 b2 ho2
  go_wp2
  refine bodyPost_ret (v := .tuple #[.agg #[.int .i64 0, .slice a2 0 c2], .bool false]) (by simp [results, Try.results21, go_sem, d0, d1]) rfl ?_
  refine ⟨a2, c2, rfl, ?_, ?_⟩
  · exact own_mono (ownsRow_setCell_below (ownsRow_setCell_below HO.out (by simp; omega) _) (by simp; omega) _) (by omega)
  · exact (HB2.out.setCell (p := ⟨w.heap.size + 1, 0, none⟩) (by simp) _).setCell (p := ⟨w.heap.size + 1, 1, none⟩) (by simp) _

set_option maxRecDepth 100000 in
set_option maxHeartbeats 1600000 in
theorem specPut_no2 (m : Int) (a : Option Addr) (c : Nat) (zs : List Int) (x : Int) (w : World) (ha : Ints w w.heap.size a zs) (hx : zs.length ≤ 1048576) (hf : famIn m zs = true) (hi : inB x 0 (fullI m) = false) :
    Calls Try.prog 21 #[.agg #[.int .i64 m, .slice a zs.length c], .int .i64 x] w (RetFB w 0 [] false) := by
  have HA := Lib.hid ((ha.below (below2 w (.cells #[.int .i64 m, .slice a zs.length c] 25) (.cells #[.int .i64 0, .slice none 0 0] 25))).mono (B' := ((w.alloc (.cells #[.int .i64 m, .slice a zs.length c] 25)).alloc (.cells #[.int .i64 0, .slice none 0 0] 25)).heap.size) (by simp; omega))
  have HF := Lib.hid hf
  have HI := Lib.hid hi
  obtain ⟨hm1, hm6, -, -⟩ := famIn_out hf
  clear hf ha hi
  go_enter Try.func21, Try.ntmps21
  go_wp2_with fail
  refine (specFamilyIn_any _ _ _ zs _ HA.out hx).mono ?_
  rintro e w1 ⟨rfl, hb⟩
  rw [HF.out]
  have b1 : w1.heap[w.heap.size + 1]? = some (.cells #[.int .i64 0, .slice none 0 0] 25 (0, 0)) := (hb.block _ (by simp)).trans (alloc2_1 w _ _)
  have HB := Lib.hid ((below2 w _ _).trans (hb.mono (by simp; omega)))
  have z1 : w.heap.size + 1 < w1.heap.size := by have := hb.size; simp at this; omega
  have b0 : w1.heap[w.heap.size]? = some (.cells #[.int .i64 m, .slice a zs.length c] 25 (0, 0)) := (hb.block _ (by simp; omega)).trans (alloc2_0 w _ _)
  have x0 := blk_cell b0 0
  have x1 := blk_cell b0 1
  simp only [Array.getElem?_eq_getElem, List.size_toArray, List.length_cons, List.length_nil, Nat.reduceAdd, Nat.reduceLT, List.getElem_toArray, List.getElem_cons_zero, List.getElem_cons_succ] at x0 x1
  clear hb b0
  go_wp2_with fail
  refine (l1All_b _ _ _ _ _ hm1 hm6).mono ?_
  rintro e w1' ⟨rfl, hb⟩
  have b1 := (hb.block _ z1).trans b1
  have HB := Lib.hid (HB.out.trans (hb.mono (by omega)))
  have z1 : w.heap.size + 1 < w1'.heap.size := by have := hb.size; omega
  clear hb
  go_wp2_with fail
  refine (l6In_any _ _ _ _).mono ?_
  rintro e w1'' ⟨rfl, rfl⟩
  rw [HI.out]
  go_wp2_with fail
  refine (l1None_any _).mono ?_
  rintro e w2 ⟨a2, c2, rfl, ho2, hb⟩
  have b2 := (hb.block _ z1).trans b1
  have d0 := blk_cell b2 0
  have d1 := blk_cell b2 1
  have f0 := blk_frozen b2 0
  have f1 := blk_frozen b2 1
  simp only [Array.getElem?_eq_getElem, List.size_toArray, List.length_cons, List.length_nil, Nat.reduceAdd, Nat.reduceLT, List.getElem_toArray, List.getElem_cons_zero, List.getElem_cons_succ] at d0 d1
  have z2 : w.heap.size + 1 < w2.heap.size := by have := hb.size; omega
  have HB2 := Lib.hid (HB.out.trans (hb.mono (by omega)))
  have HO := Lib.hid ho2
  clear hb b1 b2 ho2
  go_wp2
  refine bodyPost_ret (v := .tuple #[.agg #[.int .i64 0, .slice a2 0 c2], .bool false]) (by simp [results, Try.results21, go_sem, d0, d1]) rfl ?_
  refine ⟨a2, c2, rfl, ?_, ?_⟩
  · exact own_mono (ownsRow_setCell_below (ownsRow_setCell_below HO.out (by simp; omega) _) (by simp; omega) _) (by omega)
  · exact (HB2.out.setCell (p := ⟨w.heap.size + 1, 0, none⟩) (by simp) _).setCell (p := ⟨w.heap.size + 1, 1, none⟩) (by simp) _

set_option maxRecDepth 100000 in
set_option maxHeartbeats 1600000 in
theorem specPut_no3 (m : Int) (a : Option Addr) (c : Nat) (zs : List Int) (x : Int) (w : World) (ha : Ints w w.heap.size a zs) (hx : zs.length ≤ 1048576) (hf : famIn m zs = true) (hi : inB x 0 (fullI m) = true) (h8 : zs.length = 8) :
    Calls Try.prog 21 #[.agg #[.int .i64 m, .slice a zs.length c], .int .i64 x] w (RetFB w 0 [] false) := by
  have HA := Lib.hid ((ha.below (below2 w (.cells #[.int .i64 m, .slice a zs.length c] 25) (.cells #[.int .i64 0, .slice none 0 0] 25))).mono (B' := ((w.alloc (.cells #[.int .i64 m, .slice a zs.length c] 25)).alloc (.cells #[.int .i64 0, .slice none 0 0] 25)).heap.size) (by simp; omega))
  have HF := Lib.hid hf
  have HI := Lib.hid hi
  obtain ⟨hm1, hm6, -, -⟩ := famIn_out hf
  have h8' : ((zs.length : Int) == 8) = true := by rw [h8]; rfl
  have h8n : (zs.length == 8) = true := by rw [h8]; rfl
  clear hf ha hi h8
  go_enter Try.func21, Try.ntmps21
  go_wp2_with fail
  refine (specFamilyIn_any _ _ _ zs _ HA.out hx).mono ?_
  rintro e w1 ⟨rfl, hb⟩
  rw [HF.out]
  have b1 : w1.heap[w.heap.size + 1]? = some (.cells #[.int .i64 0, .slice none 0 0] 25 (0, 0)) := (hb.block _ (by simp)).trans (alloc2_1 w _ _)
  have HB := Lib.hid ((below2 w _ _).trans (hb.mono (by simp; omega)))
  have z1 : w.heap.size + 1 < w1.heap.size := by have := hb.size; simp at this; omega
  have b0 : w1.heap[w.heap.size]? = some (.cells #[.int .i64 m, .slice a zs.length c] 25 (0, 0)) := (hb.block _ (by simp; omega)).trans (alloc2_0 w _ _)
  have x0 := blk_cell b0 0
  have x1 := blk_cell b0 1
  simp only [Array.getElem?_eq_getElem, List.size_toArray, List.length_cons, List.length_nil, Nat.reduceAdd, Nat.reduceLT, List.getElem_toArray, List.getElem_cons_zero, List.getElem_cons_succ] at x0 x1
  clear hb b0
  go_wp2_with fail
  refine (l1All_b _ _ _ _ _ hm1 hm6).mono ?_
  rintro e w1' ⟨rfl, hb⟩
  have b1 := (hb.block _ z1).trans b1
  have x1 := (hb.cell (p := ⟨w.heap.size, 1, none⟩) (Nat.lt_of_succ_lt z1)).trans x1
  have HB := Lib.hid (HB.out.trans (hb.mono (by omega)))
  have z1 : w.heap.size + 1 < w1'.heap.size := by have := hb.size; omega
  clear hb
  go_wp2_with fail
  refine (l6In_any _ _ _ _).mono ?_
  rintro e w1'' ⟨rfl, rfl⟩
  rw [HI.out]
  go_wp2_with fail
  refine (l1None_any _).mono ?_
  rintro e w2 ⟨a2, c2, rfl, ho2, hb⟩
  have b2 := (hb.block _ z1).trans b1
  have d0 := blk_cell b2 0
  have d1 := blk_cell b2 1
  have f0 := blk_frozen b2 0
  have f1 := blk_frozen b2 1
  simp only [Array.getElem?_eq_getElem, List.size_toArray, List.length_cons, List.length_nil, Nat.reduceAdd, Nat.reduceLT, List.getElem_toArray, List.getElem_cons_zero, List.getElem_cons_succ] at d0 d1
  have z2 : w.heap.size + 1 < w2.heap.size := by have := hb.size; omega
  have HB2 := Lib.hid (HB.out.trans (hb.mono (by omega)))
  have HO := Lib.hid ho2
  clear hb b1 b2 ho2
  go_wp2
  refine bodyPost_ret (v := .tuple #[.agg #[.int .i64 0, .slice a2 0 c2], .bool false]) (by simp [results, Try.results21, go_sem, d0, d1]) rfl ?_
  refine ⟨a2, c2, rfl, ?_, ?_⟩
  · exact own_mono (ownsRow_setCell_below (ownsRow_setCell_below HO.out (by simp; omega) _) (by simp; omega) _) (by omega)
  · exact (HB2.out.setCell (p := ⟨w.heap.size + 1, 0, none⟩) (by simp) _).setCell (p := ⟨w.heap.size + 1, 1, none⟩) (by simp) _

theorem one_blk {w : World} {x : Int} {b : Nat} (h : w.heap[b]? = some (.cells #[.int .i64 x] 3 (0, 0))) : Ints w w.heap.size (some ⟨b, 0, none⟩) [x] := by
  refine .inr ⟨b, 0, rfl, lt_of_some h, fun j hj => ?_⟩
  obtain rfl : j = 0 := by simpa using hj
  exact blk_cell h 0

theorem one_ints0 (w : World) (x : Int) : Ints (w.alloc (.cells #[.int .i64 x] 3)) (w.alloc (.cells #[.int .i64 x] 3)).heap.size (some ⟨w.heap.size, 0, none⟩) [x] := one_blk (alloc_new w _)
set_option maxRecDepth 100000 in
set_option maxHeartbeats 6400000 in
theorem specPut_yes (m : Int) (a : Option Addr) (c : Nat) (zs : List Int) (x : Int) (w : World) (ha : Ints w w.heap.size a zs) (hx : zs.length ≤ 1048576) (hf : famIn m zs = true) (hi : inB x 0 (fullI m) = true) (h8 : zs.length ≠ 8) :
    Calls Try.prog 21 #[.agg #[.int .i64 m, .slice a zs.length c], .int .i64 x] w (RetFB w m (zs ++ [x]) true) := by
  have HB0 := Lib.hid (below2 w (.cells #[.int .i64 m, .slice a zs.length c] 25) (.cells #[.int .i64 0, .slice none 0 0] 25))
  have HA := Lib.hid (ha.below HB0.out)
  have HF := Lib.hid hf
  have HI := Lib.hid hi
  obtain ⟨hm1, hm6, -, -⟩ := famIn_out hf
  have h8' : ((zs.length : Int) == 8) = false := by rw [beq_eq_false_iff_ne]; omega
  have h8n : (zs.length == 8) = false := by rw [beq_eq_false_iff_ne]; omega
  clear hf ha hi h8
  go_enter Try.func21, Try.ntmps21
  go_wp2_with fail
  refine (specFamilyIn_any _ _ _ zs _ (HA.out.mono (by simp; omega)) hx).mono ?_
  rintro e w0 ⟨rfl, hb⟩
  rw [HF.out]
  have b0 : w0.heap[w.heap.size]? = some (.cells #[.int .i64 m, .slice a zs.length c] 25 (0, 0)) := (hb.block _ (by simp; omega)).trans (alloc2_0 w _ _)
  have b2 : w0.heap[w.heap.size + 1]? = some (.cells #[.int .i64 0, .slice none 0 0] 25 (0, 0)) := (hb.block _ (by simp)).trans (alloc2_1 w _ _)
  have x0 := blk_cell b0 0
  have x1 := blk_cell b0 1
  simp only [cell2_0, cell2_1] at x0 x1
  have HB' := Lib.hid (HB0.out.trans (hb.mono (by simp; omega)))
  have HA0 := Lib.hid (HA.out.below (hb.mono (by simp; omega)))
  have z0 : w.heap.size + 1 < w0.heap.size := by have := hb.size; simp at this; omega
  clear hb
  go_wp2_with fail
  refine (l1All_b _ _ _ _ _ hm1 hm6).mono ?_
  rintro e w1 ⟨rfl, hb⟩
  have b0 := (hb.block _ (Nat.lt_of_succ_lt z0)).trans b0
  have b2 := (hb.block _ z0).trans b2
  have x0 := blk_cell b0 0
  have x1 := blk_cell b0 1
  simp only [cell2_0, cell2_1] at x0 x1
  have HB := Lib.hid (HB'.out.trans (hb.mono (by omega)))
  have HA1 := Lib.hid (HA0.out.below (hb.mono (by omega)))
  have B2 := Lib.hid b2
  have z1 : w.heap.size + 1 < w1.heap.size := by have := hb.size; omega
  clear hb b0 b2
  have hH1 : w.heap.size < w1.heap.size := by omega
  go_wp2_with fail
  refine (l6In_any _ _ _ _).mono ?_
  rintro e w' ⟨rfl, rfl⟩
  rw [HI.out]
  have HL5 : Hid ((zs ++ [x]).length = zs.length + 1) := Lib.hid (by simp)
  have hEA : OwnI (w1.alloc (.cells #[] 3)).drew w1.heap.size (.slice (some ⟨w1.heap.size, 0, none⟩) 0 0) [] := own_empty (w := (w1.alloc (.cells #[] 3)).drew) (alloc_new w1 _) (Nat.le_refl _)
  have hB0A : Below w1.heap.size w1 (w1.alloc (.cells #[] 3)).drew := (below1 w1 (.cells #[] 3)).drew
  obtain ⟨a3A, c3A, w3A, hr3A, ho3A, hg3A⟩ := app_run0 hEA hB0A.size a c zs ((HA1.out.below (hB0A.mono (by omega))).mono (by have := hB0A.size; omega)) (by omega) hx
  have hb3A : Below w1.heap.size w1 w3A := hB0A.grown hg3A hB0A.size (fun g e => (World.ownsRow.lt hEA g e).1)
  have hX2A : Ints (w3A.alloc (.cells #[.int .i64 x] 3)) (w3A.alloc (.cells #[.int .i64 x] 3)).heap.size (some ⟨w3A.heap.size, 0, none⟩) [x] := one_ints0 w3A x
  have hO2A := ho3A.alloc (.cells #[.int .i64 x] 3)
  have hBW2A : Below w1.heap.size w1 (w3A.alloc (.cells #[.int .i64 x] 3)) := hb3A.alloc hb3A.size _
  obtain ⟨a4A, c4A, w4A, hr4A, ho4A, hg4A⟩ := app_run_n (k := 1) hO2A hBW2A.size (some ⟨w3A.heap.size, 0, none⟩) 1 [x] rfl hX2A (by omega) (by omega)
  have hb4A : Below w1.heap.size w1 w4A := hBW2A.grown hg4A hBW2A.size (fun g e => (World.ownsRow.lt hO2A g e).1)
  have HR3A := Lib.hid hr3A
  have HR4A := Lib.hid hr4A
  have HO4A : Hid (w4A.ownsRow w1.heap.size 3 1 (.slice a4A (zs.length + 1) c4A) (zs.length + 1) ((zs ++ [x]).map (Value.int .i64))) := Lib.hid (by have h := ho4A; rw [List.map_append]; simpa using h)
  have HB0A := Lib.hid hB0A
  have HW3A := Lib.hid hb3A
  have HW2A := Lib.hid hBW2A
  have HW4A := Lib.hid hb4A
  have hz4A : w1.heap.size ≤ w4A.heap.size := hb4A.size
  clear hEA hB0A hr3A ho3A hg3A hb3A hX2A hO2A hBW2A hr4A ho4A hg4A hb4A
  have hEB : OwnI ((w1.alloc (.cells #[.int .i64 x] 3)).alloc (.cells #[] 3)).drew w1.heap.size (.slice (some ⟨w1.heap.size + 1, 0, none⟩) 0 0) [] := own_empty (w := ((w1.alloc (.cells #[.int .i64 x] 3)).alloc (.cells #[] 3)).drew) (alloc2_1 w1 _ _) (by omega)
  have hB0B : Below w1.heap.size w1 ((w1.alloc (.cells #[.int .i64 x] 3)).alloc (.cells #[] 3)).drew := (below2 w1 (.cells #[.int .i64 x] 3) (.cells #[] 3)).drew
  obtain ⟨a3B, c3B, w3B, hr3B, ho3B, hg3B⟩ := app_run0 hEB hB0B.size a c zs ((HA1.out.below (hB0B.mono (by omega))).mono (by have := hB0B.size; omega)) (by omega) hx
  have hb3B : Below w1.heap.size w1 w3B := hB0B.grown hg3B hB0B.size (fun g e => (World.ownsRow.lt hEB g e).1)
  have hXbB : w3B.heap[w1.heap.size]? = some (.cells #[.int .i64 x] 3 (0, 0)) := (hg3B.block w1.heap.size (lt_of_some (W := ((w1.alloc (.cells #[.int .i64 x] 3)).alloc (.cells #[] 3)).drew) (alloc2_0 w1 _ _)) (by simp [Value.ownBlock])).trans (alloc2_0 w1 _ _)
  have hX2B : Ints w3B w3B.heap.size (some ⟨w1.heap.size, 0, none⟩) [x] := one_blk hXbB
  have hO2B := ho3B
  have hBW2B : Below w1.heap.size w1 w3B := hb3B
  obtain ⟨a4B, c4B, w4B, hr4B, ho4B, hg4B⟩ := app_run_n (k := 1) hO2B hBW2B.size (some ⟨w1.heap.size, 0, none⟩) 1 [x] rfl hX2B (by omega) (by omega)
  have hb4B : Below w1.heap.size w1 w4B := hBW2B.grown hg4B hBW2B.size (fun g e => (World.ownsRow.lt hO2B g e).1)
  have HR3B := Lib.hid hr3B
  have HR4B := Lib.hid hr4B
  have HO4B : Hid (w4B.ownsRow w1.heap.size 3 1 (.slice a4B (zs.length + 1) c4B) (zs.length + 1) ((zs ++ [x]).map (Value.int .i64))) := Lib.hid (by have h := ho4B; rw [List.map_append]; simpa using h)
  have HB0B := Lib.hid hB0B
  have HW3B := Lib.hid hb3B
  have HW2B := Lib.hid hBW2B
  have HW4B := Lib.hid hb4B
  have hz4B : w1.heap.size ≤ w4B.heap.size := hb4B.size
  clear hEB hB0B hr3B ho3B hg3B hb3B hX2B hO2B hBW2B hr4B ho4B hg4B hb4B hXbB
  have hEC : OwnI ((w1.alloc (.cells #[] 3)).alloc (.cells #[.int .i64 x] 3)).drew w1.heap.size (.slice (some ⟨w1.heap.size, 0, none⟩) 0 0) [] := own_empty (w := ((w1.alloc (.cells #[] 3)).alloc (.cells #[.int .i64 x] 3)).drew) (alloc2_0 w1 _ _) (Nat.le_refl _)
  have hB0C : Below w1.heap.size w1 ((w1.alloc (.cells #[] 3)).alloc (.cells #[.int .i64 x] 3)).drew := (below2 w1 (.cells #[] 3) (.cells #[.int .i64 x] 3)).drew
  obtain ⟨a3C, c3C, w3C, hr3C, ho3C, hg3C⟩ := app_run0 hEC hB0C.size a c zs ((HA1.out.below (hB0C.mono (by omega))).mono (by have := hB0C.size; omega)) (by omega) hx
  have hb3C : Below w1.heap.size w1 w3C := hB0C.grown hg3C hB0C.size (fun g e => (World.ownsRow.lt hEC g e).1)
  have hXbC : w3C.heap[(w1.heap.size + 1)]? = some (.cells #[.int .i64 x] 3 (0, 0)) := (hg3C.block (w1.heap.size + 1) (lt_of_some (W := ((w1.alloc (.cells #[] 3)).alloc (.cells #[.int .i64 x] 3)).drew) (alloc2_1 w1 _ _)) (by simp [Value.ownBlock])).trans (alloc2_1 w1 _ _)
  have hX2C : Ints w3C w3C.heap.size (some ⟨(w1.heap.size + 1), 0, none⟩) [x] := one_blk hXbC
  have hO2C := ho3C
  have hBW2C : Below w1.heap.size w1 w3C := hb3C
  obtain ⟨a4C, c4C, w4C, hr4C, ho4C, hg4C⟩ := app_run_n (k := 1) hO2C hBW2C.size (some ⟨(w1.heap.size + 1), 0, none⟩) 1 [x] rfl hX2C (by omega) (by omega)
  have hb4C : Below w1.heap.size w1 w4C := hBW2C.grown hg4C hBW2C.size (fun g e => (World.ownsRow.lt hO2C g e).1)
  have HR3C := Lib.hid hr3C
  have HR4C := Lib.hid hr4C
  have HO4C : Hid (w4C.ownsRow w1.heap.size 3 1 (.slice a4C (zs.length + 1) c4C) (zs.length + 1) ((zs ++ [x]).map (Value.int .i64))) := Lib.hid (by have h := ho4C; rw [List.map_append]; simpa using h)
  have HB0C := Lib.hid hB0C
  have HW3C := Lib.hid hb3C
  have HW2C := Lib.hid hBW2C
  have HW4C := Lib.hid hb4C
  have hz4C : w1.heap.size ≤ w4C.heap.size := hb4C.size
  clear hEC hB0C hr3C ho3C hg3C hb3C hX2C hO2C hBW2C hr4C ho4C hg4C hb4C hXbC
  go_wp2_with fail
  go_region_held3 (fun w' => w'.cell? ⟨w.heap.size, 0, none⟩ = some (.int .i64 m) ∧ w'.cell? ⟨w.heap.size, 1, none⟩ = some (.slice a zs.length c))
    (first
      | exact ⟨x0, x1⟩
      | exact ⟨((below1 w1 (.cells #[.int .i64 x] 3)).drew.cell (p := ⟨w.heap.size, 0, none⟩) hH1).trans x0, ((below1 w1 (.cells #[.int .i64 x] 3)).drew.cell (p := ⟨w.heap.size, 1, none⟩) hH1).trans x1⟩
      | exact ⟨(HB0A.out.cell (p := ⟨w.heap.size, 0, none⟩) hH1).trans x0, (HB0A.out.cell (p := ⟨w.heap.size, 1, none⟩) hH1).trans x1⟩
      | exact ⟨(HW3A.out.cell (p := ⟨w.heap.size, 0, none⟩) hH1).trans x0, (HW3A.out.cell (p := ⟨w.heap.size, 1, none⟩) hH1).trans x1⟩
      | exact ⟨(HW2A.out.cell (p := ⟨w.heap.size, 0, none⟩) hH1).trans x0, (HW2A.out.cell (p := ⟨w.heap.size, 1, none⟩) hH1).trans x1⟩
      | exact ⟨(HW4A.out.cell (p := ⟨w.heap.size, 0, none⟩) hH1).trans x0, (HW4A.out.cell (p := ⟨w.heap.size, 1, none⟩) hH1).trans x1⟩
      | exact ⟨(HB0B.out.cell (p := ⟨w.heap.size, 0, none⟩) hH1).trans x0, (HB0B.out.cell (p := ⟨w.heap.size, 1, none⟩) hH1).trans x1⟩
      | exact ⟨(HW3B.out.cell (p := ⟨w.heap.size, 0, none⟩) hH1).trans x0, (HW3B.out.cell (p := ⟨w.heap.size, 1, none⟩) hH1).trans x1⟩
      | exact ⟨(HW2B.out.cell (p := ⟨w.heap.size, 0, none⟩) hH1).trans x0, (HW2B.out.cell (p := ⟨w.heap.size, 1, none⟩) hH1).trans x1⟩
      | exact ⟨(HW4B.out.cell (p := ⟨w.heap.size, 0, none⟩) hH1).trans x0, (HW4B.out.cell (p := ⟨w.heap.size, 1, none⟩) hH1).trans x1⟩
      | exact ⟨(HB0C.out.cell (p := ⟨w.heap.size, 0, none⟩) hH1).trans x0, (HB0C.out.cell (p := ⟨w.heap.size, 1, none⟩) hH1).trans x1⟩
      | exact ⟨(HW3C.out.cell (p := ⟨w.heap.size, 0, none⟩) hH1).trans x0, (HW3C.out.cell (p := ⟨w.heap.size, 1, none⟩) hH1).trans x1⟩
      | exact ⟨(HW2C.out.cell (p := ⟨w.heap.size, 0, none⟩) hH1).trans x0, (HW2C.out.cell (p := ⟨w.heap.size, 1, none⟩) hH1).trans x1⟩
      | exact ⟨(HW4C.out.cell (p := ⟨w.heap.size, 0, none⟩) hH1).trans x0, (HW4C.out.cell (p := ⟨w.heap.size, 1, none⟩) hH1).trans x1⟩
      | exact ⟨(hb5.cell (p := ⟨w.heap.size, 0, none⟩) (Nat.lt_of_lt_of_le hH1 hz4A)).trans ((HW4A.out.cell (p := ⟨w.heap.size, 0, none⟩) hH1).trans x0), (hb5.cell (p := ⟨w.heap.size, 1, none⟩) (Nat.lt_of_lt_of_le hH1 hz4A)).trans ((HW4A.out.cell (p := ⟨w.heap.size, 1, none⟩) hH1).trans x1)⟩
      | exact ⟨(hb5.cell (p := ⟨w.heap.size, 0, none⟩) (Nat.lt_of_lt_of_le hH1 hz4B)).trans ((HW4B.out.cell (p := ⟨w.heap.size, 0, none⟩) hH1).trans x0), (hb5.cell (p := ⟨w.heap.size, 1, none⟩) (Nat.lt_of_lt_of_le hH1 hz4B)).trans ((HW4B.out.cell (p := ⟨w.heap.size, 1, none⟩) hH1).trans x1)⟩
      | exact ⟨(hb5.cell (p := ⟨w.heap.size, 0, none⟩) (Nat.lt_of_lt_of_le hH1 hz4C)).trans ((HW4C.out.cell (p := ⟨w.heap.size, 0, none⟩) hH1).trans x0), (hb5.cell (p := ⟨w.heap.size, 1, none⟩) (Nat.lt_of_lt_of_le hH1 hz4C)).trans ((HW4C.out.cell (p := ⟨w.heap.size, 1, none⟩) hH1).trans x1)⟩
      | exact two_far ((hb5.cell (p := ⟨w.heap.size, 0, none⟩) (Nat.lt_of_lt_of_le hH1 hz4A)).trans ((HW4A.out.cell (p := ⟨w.heap.size, 0, none⟩) hH1).trans x0)) ((hb5.cell (p := ⟨w.heap.size, 1, none⟩) (Nat.lt_of_lt_of_le hH1 hz4A)).trans ((HW4A.out.cell (p := ⟨w.heap.size, 1, none⟩) hH1).trans x1))
      | exact two_far ((hb5.cell (p := ⟨w.heap.size, 0, none⟩) (Nat.lt_of_lt_of_le hH1 hz4B)).trans ((HW4B.out.cell (p := ⟨w.heap.size, 0, none⟩) hH1).trans x0)) ((hb5.cell (p := ⟨w.heap.size, 1, none⟩) (Nat.lt_of_lt_of_le hH1 hz4B)).trans ((HW4B.out.cell (p := ⟨w.heap.size, 1, none⟩) hH1).trans x1))
      | exact two_far ((hb5.cell (p := ⟨w.heap.size, 0, none⟩) (Nat.lt_of_lt_of_le hH1 hz4C)).trans ((HW4C.out.cell (p := ⟨w.heap.size, 0, none⟩) hH1).trans x0)) ((hb5.cell (p := ⟨w.heap.size, 1, none⟩) (Nat.lt_of_lt_of_le hH1 hz4C)).trans ((HW4C.out.cell (p := ⟨w.heap.size, 1, none⟩) hH1).trans x1)))
    (first
      | ((with_reducible refine step_run3 (w := (w1.alloc (.cells #[] 3)).drew) (.tmp 26) (.tmp 28) 23 23 (.slice (some ⟨w1.heap.size, 0, none⟩) 0 0) (.slice a zs.length c) ?_ ?_ ?_ ?_ ?_); rfl; rfl; rfl; rfl; refine ⟨_, _, HR3A.out, ?_⟩)
      | ((with_reducible refine step_run3 (w := ((w1.alloc (.cells #[.int .i64 x] 3)).alloc (.cells #[] 3)).drew) (.tmp 26) (.tmp 28) 23 23 (.slice (some ⟨w1.heap.size + 1, 0, none⟩) 0 0) (.slice a zs.length c) ?_ ?_ ?_ ?_ ?_); rfl; rfl; rfl; rfl; refine ⟨_, _, HR3B.out, ?_⟩)
      | ((with_reducible refine step_run3 (w := ((w1.alloc (.cells #[] 3)).alloc (.cells #[.int .i64 x] 3)).drew) (.tmp 26) (.tmp 28) 23 23 (.slice (some ⟨w1.heap.size, 0, none⟩) 0 0) (.slice a zs.length c) ?_ ?_ ?_ ?_ ?_); rfl; rfl; rfl; rfl; refine ⟨_, _, HR3C.out, ?_⟩)
      | ((with_reducible refine step_run3 (w := (w3A.alloc (.cells #[.int .i64 x] 3))) (.tmp 29) (.tmp 31) 23 23 (.slice a3A zs.length c3A) (.slice (some ⟨w3A.heap.size, 0, none⟩) 1 1) ?_ ?_ ?_ ?_ ?_); rfl; rfl; rfl; rfl; refine ⟨_, _, HR4A.out, ?_⟩)
      | ((with_reducible refine step_run3 (w := w3B) (.tmp 29) (.tmp 31) 23 23 (.slice a3B zs.length c3B) (.slice (some ⟨w1.heap.size, 0, none⟩) 1 1) ?_ ?_ ?_ ?_ ?_); rfl; rfl; rfl; rfl; refine ⟨_, _, HR4B.out, ?_⟩)
      | ((with_reducible refine step_run3 (w := w3C) (.tmp 29) (.tmp 31) 23 23 (.slice a3C zs.length c3C) (.slice (some ⟨(w1.heap.size + 1), 0, none⟩) 1 1) ?_ ?_ ?_ ?_ ?_); rfl; rfl; rfl; rfl; refine ⟨_, _, HR4C.out, ?_⟩)
      | (go_at_call 53; refine (l1With_any _ _ _ _ _ _ _ _).mono ?_; rintro e w5 ⟨rfl, hb5⟩; have e2 := (hb5.block _ (Nat.lt_of_lt_of_le z1 hz4A)).trans ((HW4A.out.block _ z1).trans B2.out); have d0 := (blk_cell e2 0).trans (cell2_0 _ _); have d1 := (blk_cell e2 1).trans (cell2_1 _ _); have f0 := blk_frozen e2 0; have f1 := blk_frozen e2 1)
      | (go_at_call 53; refine (l1With_any _ _ _ _ _ _ _ _).mono ?_; rintro e w5 ⟨rfl, hb5⟩; have e2 := (hb5.block _ (Nat.lt_of_lt_of_le z1 hz4B)).trans ((HW4B.out.block _ z1).trans B2.out); have d0 := (blk_cell e2 0).trans (cell2_0 _ _); have d1 := (blk_cell e2 1).trans (cell2_1 _ _); have f0 := blk_frozen e2 0; have f1 := blk_frozen e2 1)
      | (go_at_call 53; refine (l1With_any _ _ _ _ _ _ _ _).mono ?_; rintro e w5 ⟨rfl, hb5⟩; have e2 := (hb5.block _ (Nat.lt_of_lt_of_le z1 hz4C)).trans ((HW4C.out.block _ z1).trans B2.out); have d0 := (blk_cell e2 0).trans (cell2_0 _ _); have d1 := (blk_cell e2 1).trans (cell2_1 _ _); have f0 := blk_frozen e2 0; have f1 := blk_frozen e2 1))
  all_goals first
    | (have HO5 := Lib.hid (ownsRow_below HO4A.out hb5)
       have HB5 := Lib.hid (HB.out.trans ((HW4A.out.mono (by omega)).trans (hb5.mono (by omega))))
       clear hb5 e2
       go_wp2
       refine bodyPost_ret (v := .tuple #[.agg #[.int .i64 m, .slice a4A (zs.length + 1) c4A], .bool true]) (by simp [results, Try.results21, go_sem, d0, d1]) rfl ?_
       refine ⟨a4A, c4A, by rw [HL5.out], ?_, ?_⟩
       · rw [HL5.out]
         have h1 := ownsRow_setCell_below (ownsRow_setCell_below HO5.out (a := ⟨w.heap.size + 1, 0, none⟩) z1 (.int .i64 m)) (a := ⟨w.heap.size + 1, 1, none⟩) z1 (.slice a4A (zs.length + 1) c4A)
         unfold OwnI
         rw [HL5.out]
         simpa using ownsRow_base h1 (B := w.heap.size) (by omega)
       · simpa using (HB5.out.setCell (p := ⟨w.heap.size + 1, 0, none⟩) (by simp) (.int .i64 m)).setCell (p := ⟨w.heap.size + 1, 1, none⟩) (by simp) (.slice a4A (zs.length + 1) c4A))
    | (have HO5 := Lib.hid (ownsRow_below HO4B.out hb5)
       have HB5 := Lib.hid (HB.out.trans ((HW4B.out.mono (by omega)).trans (hb5.mono (by omega))))
       clear hb5 e2
       go_wp2
       refine bodyPost_ret (v := .tuple #[.agg #[.int .i64 m, .slice a4B (zs.length + 1) c4B], .bool true]) (by simp [results, Try.results21, go_sem, d0, d1]) rfl ?_
       refine ⟨a4B, c4B, by rw [HL5.out], ?_, ?_⟩
       · rw [HL5.out]
         have h1 := ownsRow_setCell_below (ownsRow_setCell_below HO5.out (a := ⟨w.heap.size + 1, 0, none⟩) z1 (.int .i64 m)) (a := ⟨w.heap.size + 1, 1, none⟩) z1 (.slice a4B (zs.length + 1) c4B)
         unfold OwnI
         rw [HL5.out]
         simpa using ownsRow_base h1 (B := w.heap.size) (by omega)
       · simpa using (HB5.out.setCell (p := ⟨w.heap.size + 1, 0, none⟩) (by simp) (.int .i64 m)).setCell (p := ⟨w.heap.size + 1, 1, none⟩) (by simp) (.slice a4B (zs.length + 1) c4B))
    | (have HO5 := Lib.hid (ownsRow_below HO4C.out hb5)
       have HB5 := Lib.hid (HB.out.trans ((HW4C.out.mono (by omega)).trans (hb5.mono (by omega))))
       clear hb5 e2
       go_wp2
       refine bodyPost_ret (v := .tuple #[.agg #[.int .i64 m, .slice a4C (zs.length + 1) c4C], .bool true]) (by simp [results, Try.results21, go_sem, d0, d1]) rfl ?_
       refine ⟨a4C, c4C, by rw [HL5.out], ?_, ?_⟩
       · rw [HL5.out]
         have h1 := ownsRow_setCell_below (ownsRow_setCell_below HO5.out (a := ⟨w.heap.size + 1, 0, none⟩) z1 (.int .i64 m)) (a := ⟨w.heap.size + 1, 1, none⟩) z1 (.slice a4C (zs.length + 1) c4C)
         unfold OwnI
         rw [HL5.out]
         simpa using ownsRow_base h1 (B := w.heap.size) (by omega)
       · simpa using (HB5.out.setCell (p := ⟨w.heap.size + 1, 0, none⟩) (by simp) (.int .i64 m)).setCell (p := ⟨w.heap.size + 1, 1, none⟩) (by simp) (.slice a4C (zs.length + 1) c4C))

end Go.Proofs.Ytijhpfecbpkpdaa
