/- It is proved what listed returns, and AlikeLeast of the program; conditions: those of each statement. -/
import Derived.RowKit
import Derived.Laws.CopyRow
import Derived.Lib.SlBuf
import Derived.Deep.QuietTactic
import Derived.RangeFuncNested
import Derived.RangeFuncBound
import Derived.RangeFuncCalls
import Derived.RangeFuncLeaves
import Derived.RangeFuncBox
import Derived.RangeFuncWrites
import Derived.StillTailTactics
import Derived.Maps.OwnIn
import Derived.Maps.Ext
import Derived.DeepKeys4
import Derived.MapKept
import Derived.Test.YtjclfpcnfmpjdaaDoorRows
import Derived.WalkKit
import Derived.WalkSpells
import Derived.ProofKit
import Derived.OpenShut
import Derived.ShutString
import Derived.ChangeOld
import Derived.Below
import Derived.Deep.RegionHeld3
import Derived.BigQuiet
import Derived.Lib.Hide
import Derived.Lib.SmallJoins
import Derived.Outline
import Derived.Laws.MakeOwn
import Derived.Laws.OwnMore
import Derived.IntWalk
import Derived.Maps.AppendAt
import Derived.Sort.MapsRangeIn
import Derived.Lib.AppendZeros
import Derived.Deep.AppendLies
import Derived.OwnWalk
import Derived.Lib.SlicesCompact
import Derived.Lib.OwnBridge
import Derived.OrdersIn
import Derived.TacticsIn
import Derived.Shelf.Sort.Plain
import Derived.Shelf.Slices.In.SortNone
import Derived.Shelf.Slices.CompactI
import Derived.Ground.Names2Prog
import Derived.Shelf.Abstract
import Derived.Shelf.RegionOpen
import Derived.OwnWalkIn
import Derived.TacticsInMore
import Derived.LoopNIn
import Derived.LoopIn
import Derived.StillTail
import Derived.StillTactics
import Derived.Shelf.Spec.TrailingZeros
import Derived.Test.YtjclfpcnfmpjdaaDoorMsa
import Derived.Test.YtjclfpcnfmpjdaaDoorMsb
import Derived.Test.YtjclfpcnfmpjdaaDoorBx
namespace Go.Proofs.YtjclfpcnfmpjdaaDoor
open Go.RowKit Go.Shelf Go.Maps

set_option maxRecDepth 100000 in
set_option maxHeartbeats 4000000 in
theorem listed_any (k n : Nat) (hn : n ≤ 8) (a : Option Addr) (c : Nat) (K : List Int) (hK : K.length = 8) (w : World) :
    Calls Tryd.prog 58 #[.agg #[.int .i64 (k : Int), .slice a n c], .agg (iv K)] w fun e w' => ∃ a' c', e = .returned (.agg #[.int .i64 (k : Int), .slice a' n c']) ∧ OwnN w' w.heap.size a' n c' (K.take n) ∧ Below w.heap.size w w' := by
  have hb1 := below3 w (.cells #[.int .i64 (k : Int), .slice a n c] 25) (.cells (iv K) 57) (.cells #[.int .i64 0, .slice none 0 0] 25)
  have q0 := alloc3_0 w (.cells #[.int .i64 (k : Int), .slice a n c] 25) (.cells (iv K) 57) (.cells #[.int .i64 0, .slice none 0 0] 25)
  have q1 := alloc3_1 w (.cells #[.int .i64 (k : Int), .slice a n c] 25) (.cells (iv K) 57) (.cells #[.int .i64 0, .slice none 0 0] 25)
  have q2 := alloc3_2 w (.cells #[.int .i64 (k : Int), .slice a n c] 25) (.cells (iv K) 57) (.cells #[.int .i64 0, .slice none 0 0] 25)
  have hs1 : (((w.alloc (.cells #[.int .i64 (k : Int), .slice a n c] 25)).alloc (.cells (iv K) 57)).alloc (.cells #[.int .i64 0, .slice none 0 0] 25)).heap.size = w.heap.size + 1 + 1 + 1 := by simp
  obtain ⟨w1, hw1⟩ : ∃ w1, ((w.alloc (.cells #[.int .i64 (k : Int), .slice a n c] 25)).alloc (.cells (iv K) 57)).alloc (.cells #[.int .i64 0, .slice none 0 0] 25) = w1 := ⟨_, rfl⟩
  rw [hw1] at hb1 q0 q1 q2 hs1
  have q1d : HasBlk w1.drew (w.heap.size + 1) (iv K) 57 := q1
  have hin : Ints w1.drew w1.drew.heap.size (some ⟨w.heap.size + 1, 0, none⟩) (K.take n) := .inr ⟨w.heap.size + 1, 0, rfl, (by show w.heap.size + 1 < w1.heap.size; omega), fun j hj => by
    have hjn : j < n := by rw [List.length_take] at hj; omega
    rw [Nat.zero_add, blk_cell q1d j, iv_at K j (by omega), List.getElem?_take, if_pos hjn]⟩
  have hcl := clone_any (w.heap.size + 1) 0 8 n (K.take n) (by rw [List.length_take]; omega) (by omega) w1.drew hin
  obtain ⟨v0, v1, v2, v3, v4, v5, v6, v7, hv⟩ := eight hK
  have x0 := (blk_cell q0 0).trans (cell2_0 _ _)
  have x1 := (blk_cell q0 1).trans (cell2_1 _ _)
  have HQ2 := Lib.hid q2
  have hDr : Below w1.heap.size w1 w1.drew := (Below.refl _ w1).drew
  have HB1 := Lib.hid hb1
  have HS1 := Lib.hid hs1
  rw [hv, show iv [v0, v1, v2, v3, v4, v5, v6, v7] = #[.int .i64 v0, .int .i64 v1, .int .i64 v2, .int .i64 v3, .int .i64 v4, .int .i64 v5, .int .i64 v6, .int .i64 v7] from rfl] at hw1
  rw [hv, show iv [v0, v1, v2, v3, v4, v5, v6, v7] = #[.int .i64 v0, .int .i64 v1, .int .i64 v2, .int .i64 v3, .int .i64 v4, .int .i64 v5, .int .i64 v6, .int .i64 v7] from rfl]
  rw [hv] at hcl
  have hn8 : (n : Int) ≤ 8 := by omega
  clear hb1 q0 q1 q2 q1d hin hK hv
  go_enter Tryd.func58, Tryd.ntmps58
  go_wp2
  go_region_with (go_at_call 61; refine hcl.mono ?_; rintro e w2 ⟨ca, cc, rfl, ho, hb2⟩; have hbd : Below w1.heap.size w1 w2 := hDr.trans hb2; have b2 : HasBlk w2 (w.heap.size + 1 + 1) #[.int .i64 0, .slice none 0 0] 25 := (hbd.block _ (by omega)).trans HQ2.out; have d0 := blk_cell b2 0; have d1 := blk_cell b2 1; have f0 := blk_frozen b2 0; have f1 := blk_frozen b2 1; simp only [cell2_0, cell2_1] at d0 d1; have x0' := (hbd.cell (p := ⟨w.heap.size, 0, none⟩) (show w.heap.size < w1.heap.size by omega)).trans x0)
  all_goals
    go_wp2
    refine bodyPost_ret (v := .agg #[.int .i64 (k : Int), .slice ca n cc]) (by simp [results, Tryd.results58, go_sem, d0, d1]) rfl ?_
    have HB2 := HB1.out.trans (hbd.mono (by omega))
    have HSZ := hbd.size
    refine ⟨ca, cc, rfl, ?_, ?_⟩
    · exact OwnN.base (B := w1.heap.size) (ownsRow_setCell_below (ownsRow_setCell_below ho (by have := HS1.out; simp; omega) _) (by have := HS1.out; simp; omega) _) (by have := HS1.out; omega)
    · exact (HB2.setCell (p := ⟨w.heap.size + 1 + 1, 0, none⟩) (by simp; omega) _).setCell (p := ⟨w.heap.size + 1 + 1, 1, none⟩) (by simp; omega) _

end Go.Proofs.YtjclfpcnfmpjdaaDoor
