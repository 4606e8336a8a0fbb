/- It is proved what AlikeIn of the model returns; conditions: those of each statement. -/
import Derived.RowKit
import Derived.Laws.CopyRow
import Derived.Lib.SlBuf
import Derived.Deep.QuietTactic
import Derived.RangeFuncNested
import Derived.RangeFuncBound
import Derived.RangeFuncCalls
import Derived.RangeFuncLeaves
import Derived.RangeFuncBox
import Derived.RangeFuncWrites
import Derived.StillTailTactics
import Derived.Maps.OwnIn
import Derived.Maps.Ext
import Derived.DeepKeys4
import Derived.MapKept
import Derived.Test.YtgpgocijacgkhaaDoorRows
import Derived.WalkKit
import Derived.WalkSpells
import Derived.ProofKit
import Derived.OpenShut
import Derived.ShutString
import Derived.ChangeOld
import Derived.Below
import Derived.Deep.RegionHeld3
import Derived.BigQuiet
import Derived.Lib.Hide
import Derived.Lib.SmallJoins
import Derived.Outline
import Derived.Laws.MakeOwn
import Derived.Laws.OwnMore
import Derived.IntWalk
import Derived.Maps.AppendAt
import Derived.Sort.MapsRangeIn
import Derived.Deep.RegionLaw
import Derived.Deep.AppendLies
import Derived.Lib.AppendZeros
import Derived.OwnWalk
import Derived.Lib.SlicesCompact
import Derived.Lib.OwnBridge
import Derived.OrdersIn
import Derived.TacticsIn
import Derived.Shelf.Sort.Plain
import Derived.Shelf.Slices.In.SortNone
import Derived.Shelf.Slices.CompactI
import Derived.Ground.Names2Prog
import Derived.Shelf.Abstract
import Derived.Shelf.RegionOpen
import Derived.OwnWalkIn
import Derived.TacticsInMore
import Derived.LoopNIn
import Derived.LoopIn
import Derived.StillTail
import Derived.StillTactics
import Derived.Shelf.Spec.TrailingZeros
import Derived.Test.YtgpgocijacgkhaaDoorRabdxFnAlik
import Derived.Test.YtgpgocijacgkhaaDoorRaaa
import Derived.Test.YtgpgocijacgkhaaDoorRabixFnAlik
import Derived.Test.YtgpgocijacgkhaaDoorRabmxFnAlik
import Derived.Test.YtgpgocijacgkhaaDoorRabnxFnAlik
import Derived.Test.YtgpgocijacgkhaaDoorRaab
import Derived.Test.YtgpgocijacgkhaaDoorRaai
import Derived.Test.YtgpgocijacgkhaaDoorRaah
import Derived.Test.YtgpgocijacgkhaaDoorRaac
import Derived.Test.YtgpgocijacgkhaaDoorRaar
namespace Go.Proofs.YtgpgocijacgkhaaDoor
open Go.RowKit Go.Shelf Go.Maps

set_option maxRecDepth 100000 in
set_option maxHeartbeats 4000000 in
theorem specAIn_no1 (m k : Int) (a b : Option Addr) (c d : Nat) (zs ys : List Int) (w : World) (ha : Ints w w.heap.size a zs) (hb : Ints w w.heap.size b ys) (hx : zs.length ≤ 1048576) (hy : ys.length ≤ 1048576) (hf : famIn m zs = false) :
    Calls Tryd.prog 29 #[.agg #[.int .i64 m, .slice a zs.length c], .agg #[.int .i64 k, .slice b ys.length d]] w fun e w' => e = .returned (.bool false) ∧ Below w.heap.size w w' := by
  have HB := Lib.hid (below2 w (.cells #[.int .i64 m, .slice a zs.length c] 25) (.cells #[.int .i64 k, .slice b ys.length d] 25))
  have HI := Lib.hid ((ha.below HB.out).mono (B' := ((w.alloc (.cells #[.int .i64 m, .slice a zs.length c] 25)).alloc (.cells #[.int .i64 k, .slice b ys.length d] 25)).heap.size) (by simp; omega))
  have HJ := Lib.hid ((hb.below HB.out).mono (B' := ((w.alloc (.cells #[.int .i64 m, .slice a zs.length c] 25)).alloc (.cells #[.int .i64 k, .slice b ys.length d] 25)).heap.size) (by simp; omega))
  have HF := Lib.hid hf
  clear hf ha hb
  go_enter Tryd.func29, Tryd.ntmps29
  go_wp2_with fail
  refine (specFamilyIn_any _ _ _ zs _ HI.out hx).mono ?_
  rintro e w1 ⟨rfl, hb1⟩
  rw [HF.out]
  have HD := Lib.hid (HB.out.trans (hb1.mono (by simp; omega)))
  clear hb1
  go_wp2
  go_ret
  exact ⟨rfl, HD.out⟩

set_option maxRecDepth 100000 in
set_option maxHeartbeats 4000000 in
theorem specAIn_no2 (m k : Int) (a b : Option Addr) (c d : Nat) (zs ys : List Int) (w : World) (ha : Ints w w.heap.size a zs) (hb : Ints w w.heap.size b ys) (hx : zs.length ≤ 1048576) (hy : ys.length ≤ 1048576) (hf : famIn m zs = true) (hg : famIn k ys = false) :
    Calls Tryd.prog 29 #[.agg #[.int .i64 m, .slice a zs.length c], .agg #[.int .i64 k, .slice b ys.length d]] w fun e w' => e = .returned (.bool false) ∧ Below w.heap.size w w' := by
  have HB := Lib.hid (below2 w (.cells #[.int .i64 m, .slice a zs.length c] 25) (.cells #[.int .i64 k, .slice b ys.length d] 25))
  have HI := Lib.hid ((ha.below HB.out).mono (B' := ((w.alloc (.cells #[.int .i64 m, .slice a zs.length c] 25)).alloc (.cells #[.int .i64 k, .slice b ys.length d] 25)).heap.size) (by simp; omega))
  have HJ := Lib.hid ((hb.below HB.out).mono (B' := ((w.alloc (.cells #[.int .i64 m, .slice a zs.length c] 25)).alloc (.cells #[.int .i64 k, .slice b ys.length d] 25)).heap.size) (by simp; omega))
  have HF := Lib.hid hf
  have HG := Lib.hid hg
  clear hf hg ha hb
  go_enter Tryd.func29, Tryd.ntmps29
  go_wp2_with fail
  refine (specFamilyIn_any _ _ _ zs _ HI.out hx).mono ?_
  rintro e w1 ⟨rfl, hb1⟩
  rw [HF.out]
  have HB1 := Lib.hid (HB.out.trans (hb1.mono (by simp; omega)))
  have HJ1 := Lib.hid ((HJ.out.below hb1).mono hb1.size)
  have HI1 := Lib.hid ((HI.out.below hb1).mono hb1.size)
  have b0 : HasBlk w1 w.heap.size #[.int .i64 m, .slice a zs.length c] 25 := (hb1.block _ (by simp; omega)).trans (alloc2_0 w _ _)
  have b1 : HasBlk w1 (w.heap.size + 1) #[.int .i64 k, .slice b ys.length d] 25 := (hb1.block _ (by simp)).trans (alloc2_1 w _ _)
  have x0 := (blk_cell b0 0).trans (cell2_0 _ _)
  have x1 := (blk_cell b0 1).trans (cell2_1 _ _)
  have y0 := (blk_cell b1 0).trans (cell2_0 _ _)
  have y1 := (blk_cell b1 1).trans (cell2_1 _ _)
  have HQ0 := Lib.hid b0
  have HQ1 := Lib.hid b1
  have hs1 : w.heap.size + 1 + 1 ≤ w1.heap.size := by have := hb1.size; simpa using this
  clear hb1 b0 b1
  go_wp2_with fail
  refine (specFamilyIn_any _ _ _ ys _ HJ1.out hy).mono ?_
  rintro e w2 ⟨rfl, hb2⟩
  rw [HG.out]
  have HD := Lib.hid (HB1.out.trans (hb2.mono (by omega)))
  clear hb2
  go_wp2
  go_ret
  exact ⟨rfl, HD.out⟩

set_option maxRecDepth 100000 in
set_option maxHeartbeats 4000000 in
theorem specAIn_no3 (m k : Int) (a b : Option Addr) (c d : Nat) (zs ys : List Int) (w : World) (ha : Ints w w.heap.size a zs) (hb : Ints w w.heap.size b ys) (hx : zs.length ≤ 1048576) (hy : ys.length ≤ 1048576) (hf : famIn m zs = true) (hg : famIn k ys = true) (hmk : m ≠ k) :
    Calls Tryd.prog 29 #[.agg #[.int .i64 m, .slice a zs.length c], .agg #[.int .i64 k, .slice b ys.length d]] w fun e w' => e = .returned (.bool false) ∧ Below w.heap.size w w' := by
  have HB := Lib.hid (below2 w (.cells #[.int .i64 m, .slice a zs.length c] 25) (.cells #[.int .i64 k, .slice b ys.length d] 25))
  have HI := Lib.hid ((ha.below HB.out).mono (B' := ((w.alloc (.cells #[.int .i64 m, .slice a zs.length c] 25)).alloc (.cells #[.int .i64 k, .slice b ys.length d] 25)).heap.size) (by simp; omega))
  have HJ := Lib.hid ((hb.below HB.out).mono (B' := ((w.alloc (.cells #[.int .i64 m, .slice a zs.length c] 25)).alloc (.cells #[.int .i64 k, .slice b ys.length d] 25)).heap.size) (by simp; omega))
  have HF := Lib.hid hf
  have HG := Lib.hid hg
  have hbe : (m != k) = true := by rw [bne_iff_ne]; exact hmk
  clear hf hg ha hb hmk
  go_enter Tryd.func29, Tryd.ntmps29
  go_wp2_with fail
  refine (specFamilyIn_any _ _ _ zs _ HI.out hx).mono ?_
  rintro e w1 ⟨rfl, hb1⟩
  rw [HF.out]
  have HB1 := Lib.hid (HB.out.trans (hb1.mono (by simp; omega)))
  have HJ1 := Lib.hid ((HJ.out.below hb1).mono hb1.size)
  have HI1 := Lib.hid ((HI.out.below hb1).mono hb1.size)
  have b0 : HasBlk w1 w.heap.size #[.int .i64 m, .slice a zs.length c] 25 := (hb1.block _ (by simp; omega)).trans (alloc2_0 w _ _)
  have b1 : HasBlk w1 (w.heap.size + 1) #[.int .i64 k, .slice b ys.length d] 25 := (hb1.block _ (by simp)).trans (alloc2_1 w _ _)
  have x0 := (blk_cell b0 0).trans (cell2_0 _ _)
  have x1 := (blk_cell b0 1).trans (cell2_1 _ _)
  have y0 := (blk_cell b1 0).trans (cell2_0 _ _)
  have y1 := (blk_cell b1 1).trans (cell2_1 _ _)
  have HQ0 := Lib.hid b0
  have HQ1 := Lib.hid b1
  have hs1 : w.heap.size + 1 + 1 ≤ w1.heap.size := by have := hb1.size; simpa using this
  clear hb1 b0 b1
  go_wp2_with fail
  refine (specFamilyIn_any _ _ _ ys _ HJ1.out hy).mono ?_
  rintro e w2 ⟨rfl, hb2⟩
  rw [HG.out]
  have HB2 := Lib.hid (HB1.out.trans (hb2.mono (by omega)))
  have x0' := (hb2.cell (p := ⟨w.heap.size, 0, none⟩) (by show w.heap.size < w1.heap.size; omega)).trans x0
  have x1' := (hb2.cell (p := ⟨w.heap.size, 1, none⟩) (by show w.heap.size < w1.heap.size; omega)).trans x1
  have y0' := (hb2.cell (p := ⟨w.heap.size + 1, 0, none⟩) (by show w.heap.size + 1 < w1.heap.size; omega)).trans y0
  have y1' := (hb2.cell (p := ⟨w.heap.size + 1, 1, none⟩) (by show w.heap.size + 1 < w1.heap.size; omega)).trans y1
  have HI2 := Lib.hid ((HI1.out.below hb2).mono hb2.size)
  have HJ2 := Lib.hid ((HJ1.out.below hb2).mono hb2.size)
  have hs2 := hb2.size
  clear x0 x1 y0 y1 hb2
  go_wp2
  go_ret
  exact ⟨rfl, HB2.out⟩

set_option maxRecDepth 100000 in
set_option maxHeartbeats 4000000 in
theorem specAIn_no4 (m k : Int) (a b : Option Addr) (c d : Nat) (zs ys : List Int) (w : World) (ha : Ints w w.heap.size a zs) (hb : Ints w w.heap.size b ys) (hx : zs.length ≤ 1048576) (hy : ys.length ≤ 1048576) (hf : famIn m zs = true) (hg : famIn k ys = true) (hmk : m = k) (hl : zs.length ≠ ys.length) :
    Calls Tryd.prog 29 #[.agg #[.int .i64 m, .slice a zs.length c], .agg #[.int .i64 k, .slice b ys.length d]] w fun e w' => e = .returned (.bool false) ∧ Below w.heap.size w w' := by
  have HB := Lib.hid (below2 w (.cells #[.int .i64 m, .slice a zs.length c] 25) (.cells #[.int .i64 k, .slice b ys.length d] 25))
  have HI := Lib.hid ((ha.below HB.out).mono (B' := ((w.alloc (.cells #[.int .i64 m, .slice a zs.length c] 25)).alloc (.cells #[.int .i64 k, .slice b ys.length d] 25)).heap.size) (by simp; omega))
  have HJ := Lib.hid ((hb.below HB.out).mono (B' := ((w.alloc (.cells #[.int .i64 m, .slice a zs.length c] 25)).alloc (.cells #[.int .i64 k, .slice b ys.length d] 25)).heap.size) (by simp; omega))
  have HF := Lib.hid hf
  have HG := Lib.hid hg
  subst hmk
  have hbn : (m != m) = false := by simp
  have hbe : ((zs.length : Int) != (ys.length : Int)) = true := by rw [bne_iff_ne]; omega
  clear hf hg ha hb hl
  go_enter Tryd.func29, Tryd.ntmps29
  go_wp2_with fail
  refine (specFamilyIn_any _ _ _ zs _ HI.out hx).mono ?_
  rintro e w1 ⟨rfl, hb1⟩
  rw [HF.out]
  have HB1 := Lib.hid (HB.out.trans (hb1.mono (by simp; omega)))
  have HJ1 := Lib.hid ((HJ.out.below hb1).mono hb1.size)
  have HI1 := Lib.hid ((HI.out.below hb1).mono hb1.size)
  have b0 : HasBlk w1 w.heap.size #[.int .i64 m, .slice a zs.length c] 25 := (hb1.block _ (by simp; omega)).trans (alloc2_0 w _ _)
  have b1 : HasBlk w1 (w.heap.size + 1) #[.int .i64 m, .slice b ys.length d] 25 := (hb1.block _ (by simp)).trans (alloc2_1 w _ _)
  have x0 := (blk_cell b0 0).trans (cell2_0 _ _)
  have x1 := (blk_cell b0 1).trans (cell2_1 _ _)
  have y0 := (blk_cell b1 0).trans (cell2_0 _ _)
  have y1 := (blk_cell b1 1).trans (cell2_1 _ _)
  have HQ0 := Lib.hid b0
  have HQ1 := Lib.hid b1
  have hs1 : w.heap.size + 1 + 1 ≤ w1.heap.size := by have := hb1.size; simpa using this
  clear hb1 b0 b1
  go_wp2_with fail
  refine (specFamilyIn_any _ _ _ ys _ HJ1.out hy).mono ?_
  rintro e w2 ⟨rfl, hb2⟩
  rw [HG.out]
  have HB2 := Lib.hid (HB1.out.trans (hb2.mono (by omega)))
  have x0' := (hb2.cell (p := ⟨w.heap.size, 0, none⟩) (by show w.heap.size < w1.heap.size; omega)).trans x0
  have x1' := (hb2.cell (p := ⟨w.heap.size, 1, none⟩) (by show w.heap.size < w1.heap.size; omega)).trans x1
  have y0' := (hb2.cell (p := ⟨w.heap.size + 1, 0, none⟩) (by show w.heap.size + 1 < w1.heap.size; omega)).trans y0
  have y1' := (hb2.cell (p := ⟨w.heap.size + 1, 1, none⟩) (by show w.heap.size + 1 < w1.heap.size; omega)).trans y1
  have HI2 := Lib.hid ((HI1.out.below hb2).mono hb2.size)
  have HJ2 := Lib.hid ((HJ1.out.below hb2).mono hb2.size)
  have hs2 := hb2.size
  clear x0 x1 y0 y1 hb2
  go_wp2
  go_ret
  exact ⟨rfl, HB2.out⟩

theorem specAIn_no (m k : Int) (a b : Option Addr) (c d : Nat) (zs ys : List Int) (w : World) (ha : Ints w w.heap.size a zs) (hb : Ints w w.heap.size b ys) (hx : zs.length ≤ 1048576) (hy : ys.length ≤ 1048576) (h : sizesB m zs k ys = false) :
    Calls Tryd.prog 29 #[.agg #[.int .i64 m, .slice a zs.length c], .agg #[.int .i64 k, .slice b ys.length d]] w fun e w' => e = .returned (.bool false) ∧ Below w.heap.size w w' := by
  cases hf : famIn m zs
  · exact specAIn_no1 m k a b c d zs ys w ha hb hx hy hf
  · cases hg : famIn k ys
    · exact specAIn_no2 m k a b c d zs ys w ha hb hx hy hf hg
    · by_cases hmk : m = k
      · by_cases hl : zs.length = ys.length
        · rw [sizesB, hf, hg, decide_eq_true hmk, decide_eq_true hl] at h
          simp at h
        · exact specAIn_no4 m k a b c d zs ys w ha hb hx hy hf hg hmk hl
      · exact specAIn_no3 m k a b c d zs ys w ha hb hx hy hf hg hmk

set_option maxRecDepth 100000 in
set_option maxHeartbeats 4000000 in
theorem specAIn_yes (k : Nat) (hk6 : k ≤ 6) (a b : Option Addr) (c d : Nat) (zs ys : List Int) (w : World) (ha : Ints w w.heap.size a zs) (hb : Ints w w.heap.size b ys) (hx : zs.length ≤ 1048576) (hy : ys.length ≤ 1048576) (hf : famIn (k : Int) zs = true) (hg : famIn (k : Int) ys = true) (hl : zs.length = ys.length) :
    Calls Tryd.prog 29 #[.agg #[.int .i64 (k : Int), .slice a zs.length c], .agg #[.int .i64 (k : Int), .slice b ys.length d]] w fun e w' => e = .returned (.bool (decide (lstP zs (firstN k zs) = lstP ys (firstN k ys)))) ∧ Below w.heap.size w w' := by
  have HB := Lib.hid (below2 w (.cells #[.int .i64 (k : Int), .slice a zs.length c] 25) (.cells #[.int .i64 (k : Int), .slice b ys.length d] 25))
  have HI := Lib.hid ((ha.below HB.out).mono (B' := ((w.alloc (.cells #[.int .i64 (k : Int), .slice a zs.length c] 25)).alloc (.cells #[.int .i64 (k : Int), .slice b ys.length d] 25)).heap.size) (by simp; omega))
  have HJ := Lib.hid ((hb.below HB.out).mono (B' := ((w.alloc (.cells #[.int .i64 (k : Int), .slice a zs.length c] 25)).alloc (.cells #[.int .i64 (k : Int), .slice b ys.length d] 25)).heap.size) (by simp; omega))
  have HF := Lib.hid hf
  have HG := Lib.hid hg
  have hbe : ((zs.length : Int) != (ys.length : Int)) = false := by simp [hl]
  have HG1 : Hid ((bestG zs (lvlL k k) ((lvlL k k).length - 1)).1 = lstP zs (firstN k zs)) := Lib.hid (bestG_of zs (lvlL k k) _)
  have HG2 : Hid ((bestG ys (lvlL k k) ((lvlL k k).length - 1)).1 = lstP ys (firstN k ys)) := Lib.hid (bestG_of ys (lvlL k k) _)
  clear hf hg ha hb hl
  go_enter Tryd.func29, Tryd.ntmps29
  go_wp2_with fail
  refine (specFamilyIn_any _ _ _ zs _ HI.out hx).mono ?_
  rintro e w1 ⟨rfl, hb1⟩
  rw [HF.out]
  have HB1 := Lib.hid (HB.out.trans (hb1.mono (by simp; omega)))
  have HJ1 := Lib.hid ((HJ.out.below hb1).mono hb1.size)
  have HI1 := Lib.hid ((HI.out.below hb1).mono hb1.size)
  have b0 : HasBlk w1 w.heap.size #[.int .i64 (k : Int), .slice a zs.length c] 25 := (hb1.block _ (by simp; omega)).trans (alloc2_0 w _ _)
  have b1 : HasBlk w1 (w.heap.size + 1) #[.int .i64 (k : Int), .slice b ys.length d] 25 := (hb1.block _ (by simp)).trans (alloc2_1 w _ _)
  have x0 := (blk_cell b0 0).trans (cell2_0 _ _)
  have x1 := (blk_cell b0 1).trans (cell2_1 _ _)
  have y0 := (blk_cell b1 0).trans (cell2_0 _ _)
  have y1 := (blk_cell b1 1).trans (cell2_1 _ _)
  have HQ0 := Lib.hid b0
  have HQ1 := Lib.hid b1
  have hs1 : w.heap.size + 1 + 1 ≤ w1.heap.size := by have := hb1.size; simpa using this
  clear hb1 b0 b1
  go_wp2_with fail
  refine (specFamilyIn_any _ _ _ ys _ HJ1.out hy).mono ?_
  rintro e w2 ⟨rfl, hb2⟩
  rw [HG.out]
  have HB2 := Lib.hid (HB1.out.trans (hb2.mono (by omega)))
  have x0' := (hb2.cell (p := ⟨w.heap.size, 0, none⟩) (by show w.heap.size < w1.heap.size; omega)).trans x0
  have x1' := (hb2.cell (p := ⟨w.heap.size, 1, none⟩) (by show w.heap.size < w1.heap.size; omega)).trans x1
  have y0' := (hb2.cell (p := ⟨w.heap.size + 1, 0, none⟩) (by show w.heap.size + 1 < w1.heap.size; omega)).trans y0
  have y1' := (hb2.cell (p := ⟨w.heap.size + 1, 1, none⟩) (by show w.heap.size + 1 < w1.heap.size; omega)).trans y1
  have HI2 := Lib.hid ((HI1.out.below hb2).mono hb2.size)
  have HJ2 := Lib.hid ((HJ1.out.below hb2).mono hb2.size)
  have hs2 := hb2.size
  clear x0 x1 y0 y1 hb2
  go_wp2_with fail
  refine (specBest_any k hk6 a c zs w2 HI2.out HF.out).mono ?_
  rintro e w3 ⟨ba, bc, na, nc, rfl, ho3, -, hb3⟩
  rw [HG1.out] at ho3
  have z0 := (hb3.cell (p := ⟨w.heap.size + 1, 0, none⟩) (by show w.heap.size + 1 < w2.heap.size; omega)).trans y0'
  have z1 := (hb3.cell (p := ⟨w.heap.size + 1, 1, none⟩) (by show w.heap.size + 1 < w2.heap.size; omega)).trans y1'
  have HB3 := Lib.hid (HB2.out.trans (hb3.mono (by omega)))
  have HJ3 := Lib.hid ((HJ2.out.below hb3).mono hb3.size)
  have HO3 := Lib.hid ho3
  have hs3 := hb3.size
  clear x0' x1' y0' y1' hb3 ho3
  go_wp2_with fail
  refine (specBest_any k hk6 b d ys w3 HJ3.out HG.out).mono ?_
  rintro e w4 ⟨ca, cc, oa, oc, rfl, ho4, -, hb4⟩
  rw [HG2.out] at ho4
  have HE := equal_any ba ca bc cc (lstP zs (firstN k zs)) (lstP ys (firstN k ys)) w4 (HO3.out.below hb4).ints ho4.ints (by rw [lstP_len]; exact hx) (by rw [lstP_len]; exact hy)
  rw [lstP_len, lstP_len] at HE
  have HB4 := Lib.hid (HB3.out.trans (hb4.mono (by omega)))
  have hs4 := hb4.size
  clear hb4 ho4 z0 z1
  go_wp2_with fail
  refine HE.mono ?_
  rintro e w5 ⟨rfl, hb5⟩
  have HB5 := Lib.hid (HB4.out.trans (hb5.mono (by omega)))
  clear HE hb5
  go_wp2
  go_ret
  exact ⟨rfl, HB5.out⟩

theorem specAIn_any (m k : Int) (a b : Option Addr) (c d : Nat) (zs ys : List Int) (w : World) (ha : Ints w w.heap.size a zs) (hb : Ints w w.heap.size b ys) (hx : zs.length ≤ 1048576) (hy : ys.length ≤ 1048576) :
    Calls Tryd.prog 29 #[.agg #[.int .i64 m, .slice a zs.length c], .agg #[.int .i64 k, .slice b ys.length d]] w fun e w' => e = .returned (.bool (alikeB m zs k ys)) ∧ Below w.heap.size w w' := by
  cases h : sizesB m zs k ys
  · rw [alike_no h]
    exact specAIn_no m k a b c d zs ys w ha hb hx hy h
  · obtain ⟨h1, h2, rfl, h4, h5⟩ := alike_yes h
    obtain ⟨hm1, hm6, -, -⟩ := famIn_out h1
    obtain ⟨q, rfl⟩ : ∃ q : Nat, m = (q : Int) := ⟨m.toNat, by omega⟩
    rw [h5]
    exact specAIn_yes q (by omega) a b c d zs ys w ha hb hx hy h1 h2 h4

end Go.Proofs.YtgpgocijacgkhaaDoor

/- It is proved that a region that draws its order may be walked one operation at a time where a relation of what has come is kept; conditions: those of each statement. -/
namespace Go
section
variable {F : Fence} {n : Nat} {P : Program} {ops : Array Oper} {Q : Exit → Act → World → Prop} {md : Region.Mode}

theorem wpAnyIn_rel {R : Array Bool → Act → World → Prop} (hends : Region.endsB md ops = true)
    (hstep : ∀ listed a w i, listed.size = ops.size → i ∈ Region.ready md ops listed → R listed a w → wpOpIn F n P ops Q i (fun a' w' => R (listed.setIfInBounds i true) a' w') a w)
    (hend : ∀ listed a w, listed.size = ops.size → (listed.toList.all id) = true → R listed a w → Q .normal a w) :
    ∀ fuel listed a w, listed.size = ops.size → listed.toList.count false ≤ fuel → R listed a w → wpAnyIn F n P md ops Q fuel listed a w
  | 0, listed, a, w, hs, hc, hS => by
    have hall : listed.toList.all id = true := by
      rw [List.all_eq_true]
      intro x hx
      cases x
      · have := List.count_pos_iff.2 hx; omega
      · rfl
    refine ⟨?_, hend listed a w hs hall hS⟩
    unfold Region.ready
    rw [List.filter_eq_nil_iff]
    intro i hi
    rw [List.mem_range] at hi
    have hi' : i < listed.size := by omega
    have : listed.getD i true = true := by
      have h1 := List.all_eq_true.1 hall listed[i] (by simp)
      simp only [id] at h1
      simp [Array.getD, hi', h1]
    simp [this]
  | fuel + 1, listed, a, w, hs, hc, hS => by
    refine ⟨fun h0 => hend listed a w hs ?_ hS, fun i hi => ?_⟩
    · have h1 := List.all_eq_true.1 hends listed.toList (by have := mem_masks listed.toList; rwa [Array.length_toList, hs] at this)
      simpa [h0] using h1
    · refine wpOpIn_mono ?_ (hstep listed a w i hs hi hS)
      intro a' w' hS'
      refine wpAnyIn_rel hends hstep hend fuel _ a' w' (by simpa using hs) ?_ hS'
      have hu : listed.toList[i]? = some false := by
        unfold Region.ready at hi
        rw [List.mem_filter, Bool.and_eq_true, List.mem_range] at hi
        have hi' : i < listed.size := by omega
        have := hi.2.1
        simp [Array.getD, hi'] at this
        simp [hi', this]
      have := count_set listed.toList i hu
      simp only [Array.toList_setIfInBounds]
      omega

theorem wpIn_region_rel {R : Array Bool → Act → World → Prop} {id' : Nat} {a : Act} {w : World} (hm : P.follows .mixedOrders = true) (hends : Region.endsB .any ops = true)
    (hS : R (Array.replicate ops.size false) a { w with drawn := w.drawn + 1 })
    (hstep : ∀ listed a w i, listed.size = ops.size → i ∈ Region.ready .any ops listed → R listed a w → wpOpIn F n P ops Q i (fun a' w' => R (listed.setIfInBounds i true) a' w') a w)
    (hend : ∀ listed a w, listed.size = ops.size → (listed.toList.all id) = true → R listed a w → Q .normal a w) : (Code.region id' ops true).wpIn F n P Q a w :=
  wpIn_region_any hm (wpAnyIn_rel hends hstep hend ops.size _ _ _ (by simp) (by simp) hS)

end
end Go
namespace Go.Proofs.YtgpgocijacgkhaaDoor
end Go.Proofs.YtgpgocijacgkhaaDoor
