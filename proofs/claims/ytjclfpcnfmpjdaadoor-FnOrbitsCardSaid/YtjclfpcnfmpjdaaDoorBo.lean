/- It is proved what compare of clubList returns; conditions: those of each statement. -/
import Derived.Deep.RegionHeld3
import Derived.RowKit
import Derived.Laws.CopyRow
import Derived.Lib.SlBuf
import Derived.RangeFuncNested
import Derived.RangeFuncBound
import Derived.RangeFuncCalls
import Derived.RangeFuncLeaves
import Derived.RangeFuncBox
import Derived.RangeFuncWrites
import Derived.Test.YtjclfpcnfmpjdaaDoorRows
import Derived.WalkKit
import Derived.WalkSpells
import Derived.ProofKit
import Derived.OpenShut
import Derived.ShutString
import Derived.ChangeOld
import Derived.Below
import Derived.Deep.QuietTactic
import Derived.BigQuiet
import Derived.Lib.Hide
import Derived.Lib.SmallJoins
import Derived.Outline
import Derived.Laws.MakeOwn
import Derived.Laws.OwnMore
import Derived.IntWalk
import Derived.Lib.AppendZeros
import Derived.Maps.AppendAt
import Derived.Deep.AppendLies
import Derived.OwnWalk
import Derived.Shelf.Abstract
import Derived.Shelf.RegionOpen
import Derived.OwnWalkIn
import Derived.TacticsInMore
import Derived.LoopNIn
import Derived.LoopIn
import Derived.Shelf.Spec.TrailingZeros
import Derived.Test.YtjclfpcnfmpjdaaDoorMra
import Derived.Test.YtjclfpcnfmpjdaaDoorBn
namespace Go.Proofs.YtjclfpcnfmpjdaaDoor
open Go.RowKit Go.Shelf

theorem eight {xs : List Int} (h : xs.length = 8) : ∃ x0 x1 x2 x3 x4 x5 x6 x7 : Int, xs = [x0, x1, x2, x3, x4, x5, x6, x7] := by
  match xs, h with
  | [x0, x1, x2, x3, x4, x5, x6, x7], _ => exact ⟨_, _, _, _, _, _, _, _, rfl⟩

theorem ints_blk {W : World} {b : Nat} {t : TypeId} {xs : List Int} (h : HasBlk W b (iv xs) t) (B : Nat) (hb : b < B) : Ints W B (some ⟨b, 0, none⟩) xs :=
  .inr ⟨b, 0, rfl, hb, fun j hj => by rw [Nat.zero_add]; exact (blk_cell h j).trans (iv_at xs j hj)⟩

set_option maxRecDepth 100000 in
set_option maxHeartbeats 2000000 in
theorem cmpList_any (xs ys : List Int) (hx : xs.length = 8) (hy : ys.length = 8) (w : World) :
    Calls Tryd.prog 80 #[.agg (iv xs), .agg (iv ys)] w fun e w' => e = .returned (.int .i64 (cmpZ xs ys)) ∧ Below w.heap.size w w' := by
  have hb1 := below2 w (.cells (iv xs) 57) (.cells (iv ys) 57)
  have q0 := alloc2_0 w (.cells (iv xs) 57) (.cells (iv ys) 57)
  have q1 := alloc2_1 w (.cells (iv xs) 57) (.cells (iv ys) 57)
  have hs1 : ((w.alloc (.cells (iv xs) 57)).alloc (.cells (iv ys) 57)).heap.size = w.heap.size + 1 + 1 := by simp
  obtain ⟨w1, hw1⟩ : ∃ w1, (w.alloc (.cells (iv xs) 57)).alloc (.cells (iv ys) 57) = w1 := ⟨_, rfl⟩
  rw [hw1] at hb1 q0 q1 hs1
  have hd : HasBlk w1.drew w.heap.size (iv xs) 57 := q0
  have hd1 : HasBlk w1.drew (w.heap.size + 1) (iv ys) 57 := q1
  have hc := compareS_any (some ⟨w.heap.size, 0, none⟩) (some ⟨w.heap.size + 1, 0, none⟩) 8 8 8 xs ys w1.drew hx hy (by decide) (ints_blk hd _ (show w.heap.size < w1.heap.size by omega)) (ints_blk hd1 _ (show w.heap.size + 1 < w1.heap.size by omega))
  have HB1 := Lib.hid hb1
  obtain ⟨z, hz⟩ : ∃ z, z = cmpZ xs ys := ⟨_, rfl⟩
  rw [← hz] at hc ⊢
  obtain ⟨x0, x1, x2, x3, x4, x5, x6, x7, rfl⟩ := eight hx
  obtain ⟨y0, y1, y2, y3, y4, y5, y6, y7, rfl⟩ := eight hy
  rw [show iv [x0, x1, x2, x3, x4, x5, x6, x7] = #[.int .i64 x0, .int .i64 x1, .int .i64 x2, .int .i64 x3, .int .i64 x4, .int .i64 x5, .int .i64 x6, .int .i64 x7] from rfl, show iv [y0, y1, y2, y3, y4, y5, y6, y7] = #[.int .i64 y0, .int .i64 y1, .int .i64 y2, .int .i64 y3, .int .i64 y4, .int .i64 y5, .int .i64 y6, .int .i64 y7] from rfl] at hw1 ⊢
  clear hb1 q0 q1 hd hd1 hx hy hz
  go_enter Tryd.func80, Tryd.ntmps80
  go_wp2
  go_region_held3 (fun w' => w' = w1.drew) (exact rfl) (first
    | (go_at_call 98; refine hc.mono ?_; rintro e w2 ⟨rfl, rfl⟩))
  rename_i hHeld
  clear hHeld
  go_wp2
  go_ret
  exact ⟨rfl, HB1.out.drew⟩

end Go.Proofs.YtjclfpcnfmpjdaaDoor
