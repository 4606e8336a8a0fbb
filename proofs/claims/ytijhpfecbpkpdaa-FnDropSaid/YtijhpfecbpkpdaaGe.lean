/- It is proved what the FamilyPut of the program returns; conditions: those of each statement. -/
import Derived.Test.YtijhpfecbpkpdaaRows
import Derived.WalkKit
import Derived.WalkSpells
import Derived.ProofKit
import Derived.OpenShut
import Derived.ShutString
import Derived.ChangeOld
import Derived.Below
import Derived.Deep.RegionHeld3
import Derived.Deep.QuietTactic
import Derived.BigQuiet
import Derived.Lib.Hide
import Derived.Lib.SmallJoins
import Derived.Outline
import Derived.Laws.MakeOwn
import Derived.Laws.OwnMore
import Derived.IntWalk
import Derived.Lib.AppendZeros
import Derived.Maps.AppendAt
import Derived.Deep.AppendLies
import Derived.OwnWalk
import Derived.RangeFuncNested
import Derived.RangeFuncBound
import Derived.RangeFuncCalls
import Derived.RangeFuncLeaves
import Derived.RangeFuncBox
import Derived.Shelf.Abstract
import Derived.Shelf.RegionOpen
import Derived.OwnWalkIn
import Derived.TacticsInMore
import Derived.LoopNIn
import Derived.LoopIn
import Derived.Test.YtijhpfecbpkpdaaB
import Derived.Test.YtijhpfecbpkpdaaC
import Derived.Test.YtijhpfecbpkpdaaD
import Derived.Test.YtijhpfecbpkpdaaE
import Derived.Test.YtijhpfecbpkpdaaF
import Derived.Test.YtijhpfecbpkpdaaGa
import Derived.Test.YtijhpfecbpkpdaaGb
import Derived.Test.YtijhpfecbpkpdaaL
import Derived.Test.YtijhpfecbpkpdaaP
import Derived.Test.YtijhpfecbpkpdaaSa
import Derived.Test.YtijhpfecbpkpdaaUa
namespace Go.Proofs.Ytijhpfecbpkpdaa
open Go.RowKit

theorem one_ints (w : World) (x : Int) (o : Obj) : Ints ((w.alloc (.cells #[.int .i64 x] 3)).alloc o) ((w.alloc (.cells #[.int .i64 x] 3)).alloc o).heap.size (some ⟨w.heap.size, 0, none⟩) [x] := by
  refine .inr ⟨w.heap.size, 0, rfl, by simp; omega, fun j hj => ?_⟩
  obtain rfl : j = 0 := by simpa using hj
  rw [World.cell?_alloc_lt _ _ _ (by simp)]
  exact blk_cell (alloc_new w _) 0

set_option maxRecDepth 100000 in
set_option maxHeartbeats 3200000 in
theorem implPut_no (m : Int) (a : Option Addr) (c : Nat) (zs : List Int) (x : Int) (t : Bool) (w : World) (ha : Ints w w.heap.size a zs) (hx : zs.length ≤ 1048576) (hf : famIn m zs = t)
    (hi : t = false ∨ (t = true ∧ inB x 0 (fullI m) = false) ∨ (t = true ∧ inB x 0 (fullI m) = true ∧ zs.length = 8)) :
    Calls Try.prog 20 #[.agg #[.int .i64 m, .slice a zs.length c], .int .i64 x] w (RetFB w 0 [] false) := by
  have HB0 := Lib.hid (below2 w (.cells #[.int .i64 m, .slice a zs.length c] 25) (.cells #[.int .i64 0, .slice none 0 0] 25))
  have HA := Lib.hid (ha.below HB0.out)
  have HF := Lib.hid hf
  have HM : t = true → 1 ≤ m ∧ m ≤ 6 := fun h => by rw [h] at hf; obtain ⟨h1, h2, -, -⟩ := famIn_out hf; exact ⟨h1, h2⟩
  clear hf ha
  rcases hi with rfl | ⟨rfl, hi⟩ | ⟨rfl, hi, h8⟩
  · clear HM
    go_enter Try.func20, Try.ntmps20
    go_wp2_with fail
    refine (implFamilyIn_any _ _ _ zs _ (HA.out.mono (by simp; omega)) hx).mono ?_
    rintro e w1 ⟨rfl, hb⟩
    rw [HF.out]
    have b0 : w1.heap[w.heap.size]? = some (.cells #[.int .i64 m, .slice a zs.length c] 25 (0, 0)) := (hb.block _ (by simp; omega)).trans (alloc2_0 w _ _)
    have b2 : w1.heap[w.heap.size + 1]? = some (.cells #[.int .i64 0, .slice none 0 0] 25 (0, 0)) := (hb.block _ (by simp)).trans (alloc2_1 w _ _)
    have x0 := blk_cell b0 0
    have x1 := blk_cell b0 1
    have d0 := blk_cell b2 0
    have d1 := blk_cell b2 1
    have f0 := blk_frozen b2 0
    have f1 := blk_frozen b2 1
    simp only [cell2_0, cell2_1] at d0 d1 x0 x1
    have HB := Lib.hid (HB0.out.trans (hb.mono (by simp; omega)))
    clear hb b0 b2
    go_wp2
    refine bodyPost_ret (v := .tuple #[.agg #[.int .i64 0, .slice none 0 0], .bool false]) (by simp [results, Try.results20, go_sem, d0, d1]) rfl ?_
    exact ⟨none, 0, rfl, own_nil _ _, (HB.out.setCell (p := ⟨w.heap.size + 1, 0, none⟩) (by simp) _).setCell (p := ⟨w.heap.size + 1, 1, none⟩) (by simp) _⟩
  · obtain ⟨hm1, hm6⟩ := HM rfl
    have HI := Lib.hid hi
    clear hi HM
    go_enter Try.func20, Try.ntmps20
    go_wp2_with fail
    refine (implFamilyIn_any _ _ _ zs _ (HA.out.mono (by simp; omega)) hx).mono ?_
    rintro e w1 ⟨rfl, hb⟩
    rw [HF.out]
    have b0 : w1.heap[w.heap.size]? = some (.cells #[.int .i64 m, .slice a zs.length c] 25 (0, 0)) := (hb.block _ (by simp; omega)).trans (alloc2_0 w _ _)
    have b2 : w1.heap[w.heap.size + 1]? = some (.cells #[.int .i64 0, .slice none 0 0] 25 (0, 0)) := (hb.block _ (by simp)).trans (alloc2_1 w _ _)
    have x0 := blk_cell b0 0
    have x1 := blk_cell b0 1
    have d0 := blk_cell b2 0
    have d1 := blk_cell b2 1
    have f0 := blk_frozen b2 0
    have f1 := blk_frozen b2 1
    simp only [cell2_0, cell2_1] at d0 d1 x0 x1
    have HB := Lib.hid (HB0.out.trans (hb.mono (by simp; omega)))
    clear hb b0 b2
    go_wp2_with (go_at_call 48; refine (setIn_any _ _ _ hm1 hm6).mono ?_; rintro e w' ⟨rfl, rfl⟩; rw [HI.out])
    refine bodyPost_ret (v := .tuple #[.agg #[.int .i64 0, .slice none 0 0], .bool false]) (by simp [results, Try.results20, go_sem, d0, d1]) rfl ?_
    exact ⟨none, 0, rfl, own_nil _ _, (HB.out.setCell (p := ⟨w.heap.size + 1, 0, none⟩) (by simp) _).setCell (p := ⟨w.heap.size + 1, 1, none⟩) (by simp) _⟩
  · obtain ⟨hm1, hm6⟩ := HM rfl
    have HI := Lib.hid hi
    have h8' : ((zs.length : Int) == 8) = true := by rw [h8]; rfl
    have h8n : (zs.length == 8) = true := by rw [h8]; rfl
    clear hi HM h8
    go_enter Try.func20, Try.ntmps20
    go_wp2_with fail
    refine (implFamilyIn_any _ _ _ zs _ (HA.out.mono (by simp; omega)) hx).mono ?_
    rintro e w1 ⟨rfl, hb⟩
    rw [HF.out]
    have b0 : w1.heap[w.heap.size]? = some (.cells #[.int .i64 m, .slice a zs.length c] 25 (0, 0)) := (hb.block _ (by simp; omega)).trans (alloc2_0 w _ _)
    have b2 : w1.heap[w.heap.size + 1]? = some (.cells #[.int .i64 0, .slice none 0 0] 25 (0, 0)) := (hb.block _ (by simp)).trans (alloc2_1 w _ _)
    have x0 := blk_cell b0 0
    have x1 := blk_cell b0 1
    have d0 := blk_cell b2 0
    have d1 := blk_cell b2 1
    have f0 := blk_frozen b2 0
    have f1 := blk_frozen b2 1
    simp only [cell2_0, cell2_1] at d0 d1 x0 x1
    have HB := Lib.hid (HB0.out.trans (hb.mono (by simp; omega)))
    clear hb b0 b2
    go_wp2_with (go_at_call 48; refine (setIn_any _ _ _ hm1 hm6).mono ?_; rintro e w' ⟨rfl, rfl⟩; rw [HI.out])
    refine bodyPost_ret (v := .tuple #[.agg #[.int .i64 0, .slice none 0 0], .bool false]) (by simp [results, Try.results20, go_sem, d0, d1]) rfl ?_
    exact ⟨none, 0, rfl, own_nil _ _, (HB.out.setCell (p := ⟨w.heap.size + 1, 0, none⟩) (by simp) _).setCell (p := ⟨w.heap.size + 1, 1, none⟩) (by simp) _⟩

set_option maxRecDepth 100000 in
set_option maxHeartbeats 3200000 in
theorem implPut_yes (m : Int) (a : Option Addr) (c : Nat) (zs : List Int) (x : Int) (w : World) (ha : Ints w w.heap.size a zs) (hx : zs.length ≤ 1048576) (hf : famIn m zs = true) (hi : inB x 0 (fullI m) = true) (h8 : zs.length ≠ 8) :
    Calls Try.prog 20 #[.agg #[.int .i64 m, .slice a zs.length c], .int .i64 x] w (RetFB w m (zs ++ [x]) true) := by
  have HB0 := Lib.hid (below2 w (.cells #[.int .i64 m, .slice a zs.length c] 25) (.cells #[.int .i64 0, .slice none 0 0] 25))
  have HA := Lib.hid (ha.below HB0.out)
  have HF := Lib.hid hf
  have HI := Lib.hid hi
  obtain ⟨hm1, hm6, -, -⟩ := famIn_out hf
  have h8' : ((zs.length : Int) == 8) = false := by rw [beq_eq_false_iff_ne]; omega
  have h8n : (zs.length == 8) = false := by rw [beq_eq_false_iff_ne]; omega
  clear hf ha hi h8
  go_enter Try.func20, Try.ntmps20
  go_wp2_with fail
  refine (implFamilyIn_any _ _ _ zs _ (HA.out.mono (by simp; omega)) hx).mono ?_
  rintro e w1 ⟨rfl, hb⟩
  rw [HF.out]
  have b0 : w1.heap[w.heap.size]? = some (.cells #[.int .i64 m, .slice a zs.length c] 25 (0, 0)) := (hb.block _ (by simp; omega)).trans (alloc2_0 w _ _)
  have b2 : w1.heap[w.heap.size + 1]? = some (.cells #[.int .i64 0, .slice none 0 0] 25 (0, 0)) := (hb.block _ (by simp)).trans (alloc2_1 w _ _)
  have x0 := blk_cell b0 0
  have x1 := blk_cell b0 1
  simp only [cell2_0, cell2_1] at x0 x1
  have HB := Lib.hid (HB0.out.trans (hb.mono (by simp; omega)))
  have HA1 := Lib.hid (HA.out.below (hb.mono (by simp; omega)))
  have B2 := Lib.hid b2
  have z1 : w.heap.size + 1 < w1.heap.size := by have := hb.size; simp at this; omega
  clear hb b0 b2
  have hH1 : w.heap.size < w1.heap.size := by omega
  go_wp2_with fail
  refine (setIn_any _ _ _ hm1 hm6).mono ?_
  rintro e w' ⟨rfl, rfl⟩
  rw [HI.out]
  go_wp2_with fail
  have HL1 : Hid (([x] : List Int).length = 1) := Lib.hid rfl
  have HB1 := Lib.hid (below2 w1 (.cells #[.int .i64 x] 3) (.cells #[.slice a zs.length c, .slice (some ⟨w1.heap.size, 0, none⟩) 1 1] 23))
  have HY0 := Lib.hid (blk_cell (w := ((w1.alloc (.cells #[.int .i64 x] 3)).alloc (.cells #[.slice a zs.length c, .slice (some ⟨w1.heap.size, 0, none⟩) 1 1] 23)).drew) (alloc2_1 w1 (.cells #[.int .i64 x] 3) (.cells #[.slice a zs.length c, .slice (some ⟨w1.heap.size, 0, none⟩) 1 1] 23)) 0)
  have HY1 := Lib.hid (blk_cell (w := ((w1.alloc (.cells #[.int .i64 x] 3)).alloc (.cells #[.slice a zs.length c, .slice (some ⟨w1.heap.size, 0, none⟩) 1 1] 23)).drew) (alloc2_1 w1 (.cells #[.int .i64 x] 3) (.cells #[.slice a zs.length c, .slice (some ⟨w1.heap.size, 0, none⟩) 1 1] 23)) 1)
  have HI1 : Hid (Ints ((w1.alloc (.cells #[.int .i64 x] 3)).alloc (.cells #[.slice a zs.length c, .slice (some ⟨w1.heap.size, 0, none⟩) 1 1] 23)).drew ((w1.alloc (.cells #[.int .i64 x] 3)).alloc (.cells #[.slice a zs.length c, .slice (some ⟨w1.heap.size, 0, none⟩) 1 1] 23)).drew.heap.size a zs) := Lib.hid ((HA1.out.below ((HB1.out.drew).mono (by omega))).mono (by show w.heap.size ≤ ((w1.alloc (.cells #[.int .i64 x] 3)).alloc (.cells #[.slice a zs.length c, .slice (some ⟨w1.heap.size, 0, none⟩) 1 1] 23)).heap.size; rw [World.size_alloc, World.size_alloc]; omega))
  have HI2 : Hid (Ints ((w1.alloc (.cells #[.int .i64 x] 3)).alloc (.cells #[.slice a zs.length c, .slice (some ⟨w1.heap.size, 0, none⟩) 1 1] 23)).drew ((w1.alloc (.cells #[.int .i64 x] 3)).alloc (.cells #[.slice a zs.length c, .slice (some ⟨w1.heap.size, 0, none⟩) 1 1] 23)).drew.heap.size (some ⟨w1.heap.size, 0, none⟩) [x]) := Lib.hid (one_ints w1 x (.cells #[.slice a zs.length c, .slice (some ⟨w1.heap.size, 0, none⟩) 1 1] 23))
  have HD : Hid (((w1.alloc (.cells #[.int .i64 x] 3)).alloc (.cells #[.slice a zs.length c, .slice (some ⟨w1.heap.size, 0, none⟩) 1 1] 23)).drew.heap[w.heap.size + 1]? = some (.cells #[.int .i64 0, .slice none 0 0] 25 (0, 0))) := Lib.hid ((HB1.out.block _ z1).trans B2.out)
  have X0 : Hid (((w1.alloc (.cells #[.int .i64 x] 3)).alloc (.cells #[.slice a zs.length c, .slice (some ⟨w1.heap.size, 0, none⟩) 1 1] 23)).drew.cell? ⟨w.heap.size, 0, none⟩ = some (.int .i64 m)) := Lib.hid ((HB1.out.cell (p := ⟨w.heap.size, 0, none⟩) hH1).trans x0)
  have X1 : Hid (((w1.alloc (.cells #[.int .i64 x] 3)).alloc (.cells #[.slice a zs.length c, .slice (some ⟨w1.heap.size, 0, none⟩) 1 1] 23)).drew.cell? ⟨w.heap.size, 1, none⟩ = some (.slice a zs.length c)) := Lib.hid ((HB1.out.cell (p := ⟨w.heap.size, 1, none⟩) hH1).trans x1)
  have Y0 : Hid ((w1.alloc (.cells #[.int .i64 x] 3)).drew.cell? ⟨w.heap.size, 0, none⟩ = some (.int .i64 m)) := Lib.hid ((World.cell?_alloc_lt w1 _ _ hH1).trans x0)
  have Y1 : Hid ((w1.alloc (.cells #[.int .i64 x] 3)).drew.cell? ⟨w.heap.size, 1, none⟩ = some (.slice a zs.length c)) := Lib.hid ((World.cell?_alloc_lt w1 _ _ hH1).trans x1)
  have hS : w.heap.size + 1 < ((w1.alloc (.cells #[.int .i64 x] 3)).alloc (.cells #[.slice a zs.length c, .slice (some ⟨w1.heap.size, 0, none⟩) 1 1] 23)).drew.heap.size := by show w.heap.size + 1 < ((w1.alloc (.cells #[.int .i64 x] 3)).alloc (.cells #[.slice a zs.length c, .slice (some ⟨w1.heap.size, 0, none⟩) 1 1] 23)).heap.size; rw [World.size_alloc, World.size_alloc]; omega
  go_region_held3 (fun w' => w'.cell? ⟨w.heap.size, 0, none⟩ = some (.int .i64 m) ∧ w'.cell? ⟨w.heap.size, 1, none⟩ = some (.slice a zs.length c))
    (first
      | exact ⟨x0, x1⟩
      | exact ⟨Y0.out, Y1.out⟩
      | exact ⟨X0.out, X1.out⟩
      | exact ⟨(hb2.cell (p := ⟨w.heap.size, 0, none⟩) (Nat.lt_of_succ_lt hS)).trans X0.out, (hb2.cell (p := ⟨w.heap.size, 1, none⟩) (Nat.lt_of_succ_lt hS)).trans X1.out⟩
      | exact two_far ((hb2.cell (p := ⟨w.heap.size, 0, none⟩) (Nat.lt_of_succ_lt hS)).trans X0.out) ((hb2.cell (p := ⟨w.heap.size, 1, none⟩) (Nat.lt_of_succ_lt hS)).trans X1.out))
    (first
      | (go_at_call 57; refine (concat_n _ _ _ _ _ _ _ zs [x] _ rfl HL1.out HI1.out HI2.out (by omega) (by omega) HY0.out HY1.out).mono ?_; rintro e w2 ⟨a', c', rfl, ho, hb2⟩; have e2 := (hb2.block _ hS).trans HD.out; have d0 := (blk_cell e2 0).trans (cell2_0 _ _); have d1 := (blk_cell e2 1).trans (cell2_1 _ _); have f0 := blk_frozen e2 0; have f1 := blk_frozen e2 1))
  have HO := Lib.hid ho
  have HB2 := Lib.hid (HB.out.trans (((HB1.out.drew).mono (by omega)).trans (hb2.mono (Nat.le_of_lt (Nat.lt_of_succ_lt hS)))))
  have HS2 : Hid (w.heap.size + 1 < ((w1.alloc (.cells #[.int .i64 x] 3)).alloc (.cells #[.slice a zs.length c, .slice (some ⟨w1.heap.size, 0, none⟩) 1 1] 23)).drew.heap.size) := Lib.hid hS
  clear ho hb2 e2 hS
  go_wp2
  refine bodyPost_ret (v := .tuple #[.agg #[.int .i64 m, .slice a' (zs ++ [x]).length c'], .bool true]) (by simp [results, Try.results20, go_sem, d0, d1]) rfl ?_
  refine ⟨a', c', rfl, ?_, ?_⟩
  · exact own_mono (ownsRow_setCell_below (ownsRow_setCell_below HO.out HS2.out _) HS2.out _) (Nat.le_of_lt (Nat.lt_of_succ_lt HS2.out))
  · simpa using (HB2.out.setCell (p := ⟨w.heap.size + 1, 0, none⟩) (by simp) (.int .i64 m)).setCell (p := ⟨w.heap.size + 1, 1, none⟩) (by simp) (.slice a' (zs ++ [x]).length c')

end Go.Proofs.Ytijhpfecbpkpdaa
