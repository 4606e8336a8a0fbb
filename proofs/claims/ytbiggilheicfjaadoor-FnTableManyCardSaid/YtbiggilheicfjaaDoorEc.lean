/- It is proved what wantedBy and atLeast return; conditions: those of each statement. -/
import Derived.Laws.CopyRow
import Derived.Lib.SlBuf
import Derived.Test.YtbiggilheicfjaaDoorRows
import Derived.WalkKit
import Derived.WalkSpells
import Derived.ProofKit
import Derived.OpenShut
import Derived.ShutString
import Derived.ChangeOld
import Derived.Below
import Derived.Deep.RegionHeld3
import Derived.Deep.QuietTactic
import Derived.BigQuiet
import Derived.Lib.Hide
import Derived.Lib.SmallJoins
import Derived.Outline
import Derived.Laws.MakeOwn
import Derived.Laws.OwnMore
import Derived.IntWalk
import Derived.StillTailTactics
import Derived.Lib.AppendZeros
import Derived.Maps.AppendAt
import Derived.Deep.AppendLies
import Derived.OwnWalk
import Derived.RangeFuncNested
import Derived.RangeFuncBound
import Derived.RangeFuncCalls
import Derived.RangeFuncLeaves
import Derived.RangeFuncBox
import Derived.Shelf.Abstract
import Derived.Shelf.RegionOpen
import Derived.OwnWalkIn
import Derived.TacticsInMore
import Derived.LoopNIn
import Derived.LoopIn
import Derived.Shelf.Spec.TrailingZeros
import Derived.Test.YtbiggilheicfjaaDoorMva
namespace Go.Proofs.YtbiggilheicfjaaDoor
open Go.RowKit Go.Shelf

def z5 : Array Value := #[Value.int IntKind.i64 0, Value.int IntKind.i64 0, Value.int IntKind.i64 0, Value.int IntKind.i64 0, Value.int IntKind.i64 0]
/-- Numbers with zeros behind them, five in all. -/
def pad5 (zs : List Int) : List Int := zs ++ List.replicate (5 - zs.length) 0

theorem pad5_len {zs : List Int} (h : zs.length ≤ 5) : (pad5 zs).length = 5 := by simp [pad5]; omega
theorem five {xs : List Int} (h : xs.length = 5) : ∃ x0 x1 x2 x3 x4 : Int, xs = [x0, x1, x2, x3, x4] := by
  match xs, h with
  | [x0, x1, x2, x3, x4], _ => exact ⟨_, _, _, _, _, rfl⟩

theorem iv5 {xs : List Int} (h : xs.length = 5) : #[Value.int .i64 (xs[0]?.getD 0), .int .i64 (xs[1]?.getD 0), .int .i64 (xs[2]?.getD 0), .int .i64 (xs[3]?.getD 0), .int .i64 (xs[4]?.getD 0)] = iv xs := by
  obtain ⟨x0, x1, x2, x3, x4, rfl⟩ := five h
  rfl

theorem copy_five (ps : List Int) (hp : ps.length ≤ 5) (h0 : 1 ≤ ps.length) (a : Option Addr) (c : Nat) (w : World) (ha : Ints w w.heap.size a ps) :
    ∃ W3, (∀ ty, (Builtin.copy_ #[23, 23] ty #[.slice (some ⟨w.heap.size, 0, none⟩) 5 5, .slice a ps.length c]).run Tryd.prog (w.alloc (.cells z5 81)) = .ok (.int .i64 (ps.length : Int)) W3) ∧
      Nums W3 w.heap.size 81 (pad5 ps) ∧ Below w.heap.size w W3 := by
  have hb2 := below1 w (.cells z5 81)
  have q0 := alloc_new w (.cells z5 81)
  obtain ⟨W, hW⟩ : ∃ W, w.alloc (.cells z5 81) = W := ⟨_, rfl⟩
  rw [hW] at hb2 q0 ⊢
  obtain ⟨b, off, rfl, hbb, hcc⟩ := ha.at_ (k := 0) (by omega)
  have hA := Ints.add_ (ha.below hb2)
  have hr := fun ty => run_copy_row (P := Tryd.prog) W 23 23 ty 3 w.heap.size 0 5 5 ⟨b, off, none⟩ ps.length c z5 81 (ps.map (Value.int .i64)) Tryd.underlying23 (by
    obtain ⟨i0, hi0, hz0, hz1, hz2⟩ := info_parts Tryd.info3
    simp [hi0, hz1]) q0 (by simp [Nat.min_def]; omega) hA (by simp [z5]; omega) (by simp [Value.oneCell'])
  refine ⟨W.setRow w.heap.size ((z5.toList.take 0 ++ ps.map (Value.int .i64) ++ z5.toList.drop (0 + (ps.map (Value.int .i64)).length)).toArray), fun ty => (hr ty).trans ?_, ?_, ?_⟩
  · simp [goInt]
  · have := setRow_heap W w.heap.size z5 ((z5.toList.take 0 ++ ps.map (Value.int .i64) ++ z5.toList.drop (0 + (ps.map (Value.int .i64)).length)).toArray) 81 _ q0
    have hz : z5.toList = List.replicate 5 (Value.int .i64 0) := rfl
    unfold Nums HasBlk
    rw [this, hz, List.drop_replicate]
    simp [iv, pad5]
  · exact hb2.grown (row := some w.heap.size) ⟨rfl, rfl, rfl, by simp, fun k _ hk => setRow_other _ _ _ _ (fun e => hk (by rw [e]))⟩ hb2.size (fun j e => by cases e; exact Nat.le_refl _)

set_option maxRecDepth 100000 in
set_option maxHeartbeats 1600000 in
theorem wantedBy_any (a : Option Addr) (c : Nat) (zs : List Int) (w : World) (ha : Ints w w.heap.size a zs) (h0 : 1 ≤ zs.length) (h5 : zs.length ≤ 5) :
    Calls Tryd.prog 69 #[.slice a zs.length c] w fun e w' => e = .returned (.agg (iv (pad5 zs))) ∧ Below w.heap.size w w' := by
  have hbw := below1 w (.cells z5 81)
  have hsz : (w.alloc (.cells z5 81)).heap.size = w.heap.size + 1 := by simp
  have q0 := alloc_new w (.cells z5 81)
  obtain ⟨W3, hcp, hN3, hB3⟩ := copy_five zs h5 h0 a c (w.alloc (.cells z5 81)) ((ha.below hbw).mono (by omega))
  rw [hsz] at hcp hN3 hB3
  have hZ : HasBlk W3 w.heap.size z5 81 := (hB3.block _ (by omega)).trans q0
  unfold z5 at hcp
  have hl5 := pad5_len h5
  have HI := Lib.hid (iv5 hl5)
  have d0 := hN3.cell 0 (by omega)
  have d1 := hN3.cell 1 (by omega)
  have d2 := hN3.cell 2 (by omega)
  have d3 := hN3.cell 3 (by omega)
  have d4 := hN3.cell 4 (by omega)
  have e0 : W3.cell? ⟨w.heap.size, 0, none⟩ = some (.int .i64 0) := blk_cell hZ 0
  have e1 : W3.cell? ⟨w.heap.size, 1, none⟩ = some (.int .i64 0) := blk_cell hZ 1
  have e2 : W3.cell? ⟨w.heap.size, 2, none⟩ = some (.int .i64 0) := blk_cell hZ 2
  have e3 : W3.cell? ⟨w.heap.size, 3, none⟩ = some (.int .i64 0) := blk_cell hZ 3
  have e4 : W3.cell? ⟨w.heap.size, 4, none⟩ = some (.int .i64 0) := blk_cell hZ 4
  have g0 : W3.frozen? ⟨w.heap.size, 0, none⟩ = false := blk_frozen hZ 0
  have g1 : W3.frozen? ⟨w.heap.size, 1, none⟩ = false := blk_frozen hZ 1
  have g2 : W3.frozen? ⟨w.heap.size, 2, none⟩ = false := blk_frozen hZ 2
  have g3 : W3.frozen? ⟨w.heap.size, 3, none⟩ = false := blk_frozen hZ 3
  have g4 : W3.frozen? ⟨w.heap.size, 4, none⟩ = false := blk_frozen hZ 4
  have HB := Lib.hid (hbw.trans (hB3.mono (Nat.le_succ _)))
  obtain ⟨n, hn⟩ : ∃ n, n = zs.length := ⟨_, rfl⟩
  rw [← hn] at hcp h0 h5 ⊢
  clear ha hN3 hB3 hn hl5 hZ q0 hsz hbw
  go_enter Tryd.func69, Tryd.ntmps69
  go_wp2_with (at_builtin; refine Lib.wpList_copy_run _ rfl _ _ 23 23 rfl _ _ rfl rfl (hcp _) ?_)
  refine bodyPost_ret (v := .agg (iv (pad5 zs))) ?_ rfl ?_
  · rw [← HI.out]
    simp [results, Tryd.results69, go_sem, e0, e1, e2, e3, e4]
  · have st : ∀ (W : World) (i : Nat) (v : Value), Below w.heap.size w W → Below w.heap.size w (W.setCell ⟨w.heap.size, i, none⟩ v) := fun W i v h => h.setCell (p := ⟨w.heap.size, i, none⟩) (Nat.le_refl _) v
    exact ⟨rfl, st _ _ _ (st _ _ _ (st _ _ _ (st _ _ _ (st _ _ _ HB.out))))⟩

/-- The places below j whose number is at least k, as a set. -/
def atL (xs : List Int) (k : Int) (j : Nat) : Nat := (List.range j).foldl (fun s v => if k ≤ xs[v]?.getD 0 then s ||| 2 ^ v else s) 0

theorem atL_succ (xs : List Int) (k : Int) (j : Nat) : atL xs k (j + 1) = if k ≤ xs[j]?.getD 0 then atL xs k j ||| 2 ^ j else atL xs k j := by
  simp [atL, List.range_succ]

theorem atL_lt (xs : List Int) (k : Int) : ∀ j, j ≤ 5 → atL xs k j < 2 ^ j
  | 0, _ => by simp [atL]
  | j + 1, h => by
    have h1 := atL_lt xs k j (by omega)
    rw [atL_succ]
    split
    · exact Nat.or_lt_two_pow (Nat.lt_of_lt_of_le h1 (Nat.pow_le_pow_right (by decide) (by omega))) (Nat.pow_lt_pow_right (by decide) (by omega))
    · exact Nat.lt_of_lt_of_le h1 (Nat.pow_le_pow_right (by decide) (by omega))

theorem pow5 {j : Nat} (h : j ≤ 5) : 2 ^ j ≤ 32 := Nat.pow_le_pow_right (by decide) h
set_option maxRecDepth 100000 in
theorem idx5 (x0 x1 x2 x3 x4 : Int) (i : Nat) (hi : i < 5) (w : World) :
    (Instr.index 81 (.agg #[.int .i64 x0, .int .i64 x1, .int .i64 x2, .int .i64 x3, .int .i64 x4]) (.int .i64 (i : Int))).run Tryd.prog w = .ok (.int .i64 ([x0, x1, x2, x3, x4][i]?.getD 0)) w := by
  obtain rfl | rfl | rfl | rfl | rfl : i = 0 ∨ i = 1 ∨ i = 2 ∨ i = 3 ∨ i = 4 := by omega
  all_goals kernel_rfl

set_option maxRecDepth 100000 in
set_option maxHeartbeats 1600000 in
theorem atLeast_any (xs : List Int) (hl : xs.length = 5) (k : Int) (w : World) :
    Calls Tryd.prog 70 #[.agg (iv xs), .int .i64 k] w fun e w' => e = .returned (.int .i64 ((atL xs k 5 : Nat) : Int)) ∧ Below w.heap.size w w' := by
  obtain ⟨x0, x1, x2, x3, x4, rfl⟩ := five hl
  have HB := Lib.hid (below1 w (.cells #[Value.int .i64 x0, .int .i64 x1, .int .i64 x2, .int .i64 x3, .int .i64 x4] 81))
  rw [show iv [x0, x1, x2, x3, x4] = #[Value.int .i64 x0, .int .i64 x1, .int .i64 x2, .int .i64 x3, .int .i64 x4] from rfl]
  have HX := Lib.hid (idx5 x0 x1 x2 x3 x4)
  clear hl
  go_enter Tryd.func70, Tryd.ntmps70
  go_wp2
  go_loop [5, 6, 7, 9] (fun s _ _ i => ∃ j : Nat, j ≤ 5 ∧ i = .int .i64 (j : Int) ∧ s = .int .i64 ((atL [x0, x1, x2, x3, x4] k j : Nat) : Int)) (fun _ _ _ i => 5 - (intOf i).toNat)
  case atStart => exact ⟨0, by omega, rfl, rfl⟩
  case round =>
    obtain ⟨j, hj, rfl, rfl⟩ := hrel
    obtain ⟨s, hs⟩ : ∃ s, s = atL [x0, x1, x2, x3, x4] k j := ⟨_, rfl⟩
    have hs32 : s < 32 := by have h1 := atL_lt [x0, x1, x2, x3, x4] k j hj; have h2 := pow5 hj; omega
    rw [← hs]
    by_cases hlt : j < 5
    · obtain ⟨z, hz⟩ : ∃ z, z = [x0, x1, x2, x3, x4][j]?.getD 0 := ⟨_, rfl⟩
      have hix := HX.out j hlt
      rw [← hz] at hix
      have hj5 : (j : Int) < 5 := by omega
      by_cases hge : k ≤ z
      · have HS2 : Hid (atL [x0, x1, x2, x3, x4] k (j + 1) = s ||| 2 ^ j) := Lib.hid (by rw [atL_succ, ← hz, if_pos hge, hs])
        clear hs hz
        go_wp2_with (go_at_call 106; refine (with_any s j (by omega) (by omega) _).mono ?_; rintro e w' ⟨rfl, rfl⟩)
        go_round
        case rel => exact ⟨j + 1, by omega, by go_num, by rw [HS2.out]⟩
        case measure => simp [intOf]; omega
      · have HS2 : Hid (atL [x0, x1, x2, x3, x4] k (j + 1) = s) := Lib.hid (by rw [atL_succ, ← hz, if_neg hge, hs])
        clear hs hz
        have hge' : z < k := by omega
        go_wp2
        go_round
        case rel => exact ⟨j + 1, by omega, by go_num, by rw [HS2.out]⟩
        case measure => simp [intOf]; omega
    · obtain rfl : j = 5 := by omega
      have HS := Lib.hid hs
      clear hs
      go_wp2
      go_ret
      exact ⟨by rw [← HS.out]; rfl, HB.out⟩

end Go.Proofs.YtbiggilheicfjaaDoor
