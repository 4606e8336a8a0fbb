/- It is proved what AlikeIn of the program returns where it need not compare; conditions: those of each statement. -/
import Derived.RowKit
import Derived.Laws.CopyRow
import Derived.Lib.SlBuf
import Derived.Deep.QuietTactic
import Derived.RangeFuncNested
import Derived.RangeFuncBound
import Derived.RangeFuncCalls
import Derived.RangeFuncLeaves
import Derived.RangeFuncBox
import Derived.RangeFuncWrites
import Derived.StillTailTactics
import Derived.Maps.OwnIn
import Derived.Maps.Ext
import Derived.DeepKeys4
import Derived.MapKept
import Derived.Test.YtgpgocijacgkhaaDoorRows
import Derived.WalkKit
import Derived.WalkSpells
import Derived.ProofKit
import Derived.OpenShut
import Derived.ShutString
import Derived.ChangeOld
import Derived.Below
import Derived.Deep.RegionHeld3
import Derived.BigQuiet
import Derived.Lib.Hide
import Derived.Lib.SmallJoins
import Derived.Outline
import Derived.Laws.MakeOwn
import Derived.Laws.OwnMore
import Derived.IntWalk
import Derived.Maps.AppendAt
import Derived.Sort.MapsRangeIn
import Derived.Deep.RegionLaw
import Derived.Deep.AppendLies
import Derived.Lib.AppendZeros
import Derived.OwnWalk
import Derived.Lib.SlicesCompact
import Derived.Lib.OwnBridge
import Derived.OrdersIn
import Derived.TacticsIn
import Derived.Shelf.Sort.Plain
import Derived.Shelf.Slices.In.SortNone
import Derived.Shelf.Slices.CompactI
import Derived.Ground.Names2Prog
import Derived.Shelf.Abstract
import Derived.Shelf.RegionOpen
import Derived.OwnWalkIn
import Derived.TacticsInMore
import Derived.LoopNIn
import Derived.LoopIn
import Derived.StillTail
import Derived.StillTactics
import Derived.Shelf.Spec.TrailingZeros
import Derived.Test.YtgpgocijacgkhaaDoorRabdxFnAlik
import Derived.Test.YtgpgocijacgkhaaDoorRabexFnAlik
import Derived.Test.YtgpgocijacgkhaaDoorRabgxFnAlik
import Derived.Test.YtgpgocijacgkhaaDoorRabjxFnAlik
import Derived.Test.YtgpgocijacgkhaaDoorRablxFnAlik
import Derived.Test.YtgpgocijacgkhaaDoorRaaa
import Derived.Test.YtgpgocijacgkhaaDoorRabixFnAlik
import Derived.Test.YtgpgocijacgkhaaDoorRabnxFnAlik
import Derived.Test.YtgpgocijacgkhaaDoorRaab
import Derived.Test.YtgpgocijacgkhaaDoorRaah
import Derived.Test.YtgpgocijacgkhaaDoorRaar
import Derived.Test.YtgpgocijacgkhaaDoorRaboxFnAlik
import Derived.Test.YtgpgocijacgkhaaDoorRaac
namespace Go.Proofs.YtgpgocijacgkhaaDoor
open Go.RowKit Go.Shelf Go.Maps

set_option maxRecDepth 100000 in
set_option maxHeartbeats 4000000 in
theorem implAIn_no1 (m k : Int) (a b : Option Addr) (c d : Nat) (zs ys : List Int) (w : World) (ha : Ints w w.heap.size a zs) (hb : Ints w w.heap.size b ys) (hx : zs.length ≤ 1048576) (hy : ys.length ≤ 1048576) (hf : famIn m zs = false) :
    Calls Tryd.prog 28 #[.agg #[.int .i64 m, .slice a zs.length c], .agg #[.int .i64 k, .slice b ys.length d]] w fun e w' => e = .returned (.bool false) ∧ Below w.heap.size w w' := by
  have HB := Lib.hid (below2 w (.cells #[.int .i64 m, .slice a zs.length c] 25) (.cells #[.int .i64 k, .slice b ys.length d] 25))
  have HI := Lib.hid ((ha.below HB.out).mono (B' := ((w.alloc (.cells #[.int .i64 m, .slice a zs.length c] 25)).alloc (.cells #[.int .i64 k, .slice b ys.length d] 25)).heap.size) (by simp; omega))
  have HJ := Lib.hid ((hb.below HB.out).mono (B' := ((w.alloc (.cells #[.int .i64 m, .slice a zs.length c] 25)).alloc (.cells #[.int .i64 k, .slice b ys.length d] 25)).heap.size) (by simp; omega))
  have HF := Lib.hid hf
  clear hf ha hb
  go_enter Tryd.func28, Tryd.ntmps28
  go_wp2_with fail
  refine (implFamilyIn_any _ _ _ zs _ HI.out hx).mono ?_
  rintro e w1 ⟨rfl, hb1⟩
  rw [HF.out]
  have HD := Lib.hid (HB.out.trans (hb1.mono (by simp; omega)))
  clear hb1
  go_wp2
  go_ret
  exact ⟨rfl, HD.out⟩

set_option maxRecDepth 100000 in
set_option maxHeartbeats 4000000 in
theorem implAIn_no2 (m k : Int) (a b : Option Addr) (c d : Nat) (zs ys : List Int) (w : World) (ha : Ints w w.heap.size a zs) (hb : Ints w w.heap.size b ys) (hx : zs.length ≤ 1048576) (hy : ys.length ≤ 1048576) (hf : famIn m zs = true) (hg : famIn k ys = false) :
    Calls Tryd.prog 28 #[.agg #[.int .i64 m, .slice a zs.length c], .agg #[.int .i64 k, .slice b ys.length d]] w fun e w' => e = .returned (.bool false) ∧ Below w.heap.size w w' := by
  have HB := Lib.hid (below2 w (.cells #[.int .i64 m, .slice a zs.length c] 25) (.cells #[.int .i64 k, .slice b ys.length d] 25))
  have HI := Lib.hid ((ha.below HB.out).mono (B' := ((w.alloc (.cells #[.int .i64 m, .slice a zs.length c] 25)).alloc (.cells #[.int .i64 k, .slice b ys.length d] 25)).heap.size) (by simp; omega))
  have HJ := Lib.hid ((hb.below HB.out).mono (B' := ((w.alloc (.cells #[.int .i64 m, .slice a zs.length c] 25)).alloc (.cells #[.int .i64 k, .slice b ys.length d] 25)).heap.size) (by simp; omega))
  have HF := Lib.hid hf
  have HG := Lib.hid hg
  clear hf hg ha hb
  go_enter Tryd.func28, Tryd.ntmps28
  go_wp2_with fail
  refine (implFamilyIn_any _ _ _ zs _ HI.out hx).mono ?_
  rintro e w1 ⟨rfl, hb1⟩
  rw [HF.out]
  have HB1 := Lib.hid (HB.out.trans (hb1.mono (by simp; omega)))
  have HJ1 := Lib.hid ((HJ.out.below hb1).mono hb1.size)
  have HI1 := Lib.hid ((HI.out.below hb1).mono hb1.size)
  have b0 : HasBlk w1 w.heap.size #[.int .i64 m, .slice a zs.length c] 25 := (hb1.block _ (by simp; omega)).trans (alloc2_0 w _ _)
  have b1 : HasBlk w1 (w.heap.size + 1) #[.int .i64 k, .slice b ys.length d] 25 := (hb1.block _ (by simp)).trans (alloc2_1 w _ _)
  have x0 := (blk_cell b0 0).trans (cell2_0 _ _)
  have x1 := (blk_cell b0 1).trans (cell2_1 _ _)
  have y0 := (blk_cell b1 0).trans (cell2_0 _ _)
  have y1 := (blk_cell b1 1).trans (cell2_1 _ _)
  have HQ0 := Lib.hid b0
  have HQ1 := Lib.hid b1
  have hs1 : w.heap.size + 1 + 1 ≤ w1.heap.size := by have := hb1.size; simpa using this
  clear hb1 b0 b1
  go_wp2_with fail
  refine (implFamilyIn_any _ _ _ ys _ HJ1.out hy).mono ?_
  rintro e w2 ⟨rfl, hb2⟩
  rw [HG.out]
  have HD := Lib.hid (HB1.out.trans (hb2.mono (by omega)))
  clear hb2
  go_wp2
  go_ret
  exact ⟨rfl, HD.out⟩

set_option maxRecDepth 100000 in
set_option maxHeartbeats 4000000 in
theorem implAIn_no3 (m k : Int) (a b : Option Addr) (c d : Nat) (zs ys : List Int) (w : World) (ha : Ints w w.heap.size a zs) (hb : Ints w w.heap.size b ys) (hx : zs.length ≤ 1048576) (hy : ys.length ≤ 1048576) (hf : famIn m zs = true) (hg : famIn k ys = true) (hmk : m ≠ k) :
    Calls Tryd.prog 28 #[.agg #[.int .i64 m, .slice a zs.length c], .agg #[.int .i64 k, .slice b ys.length d]] w fun e w' => e = .returned (.bool false) ∧ Below w.heap.size w w' := by
  have HB := Lib.hid (below2 w (.cells #[.int .i64 m, .slice a zs.length c] 25) (.cells #[.int .i64 k, .slice b ys.length d] 25))
  have HI := Lib.hid ((ha.below HB.out).mono (B' := ((w.alloc (.cells #[.int .i64 m, .slice a zs.length c] 25)).alloc (.cells #[.int .i64 k, .slice b ys.length d] 25)).heap.size) (by simp; omega))
  have HJ := Lib.hid ((hb.below HB.out).mono (B' := ((w.alloc (.cells #[.int .i64 m, .slice a zs.length c] 25)).alloc (.cells #[.int .i64 k, .slice b ys.length d] 25)).heap.size) (by simp; omega))
  have HF := Lib.hid hf
  have HG := Lib.hid hg
  have hbe : (m != k) = true := by rw [bne_iff_ne]; exact hmk
  clear hf hg ha hb hmk
  go_enter Tryd.func28, Tryd.ntmps28
  go_wp2_with fail
  refine (implFamilyIn_any _ _ _ zs _ HI.out hx).mono ?_
  rintro e w1 ⟨rfl, hb1⟩
  rw [HF.out]
  have HB1 := Lib.hid (HB.out.trans (hb1.mono (by simp; omega)))
  have HJ1 := Lib.hid ((HJ.out.below hb1).mono hb1.size)
  have HI1 := Lib.hid ((HI.out.below hb1).mono hb1.size)
  have b0 : HasBlk w1 w.heap.size #[.int .i64 m, .slice a zs.length c] 25 := (hb1.block _ (by simp; omega)).trans (alloc2_0 w _ _)
  have b1 : HasBlk w1 (w.heap.size + 1) #[.int .i64 k, .slice b ys.length d] 25 := (hb1.block _ (by simp)).trans (alloc2_1 w _ _)
  have x0 := (blk_cell b0 0).trans (cell2_0 _ _)
  have x1 := (blk_cell b0 1).trans (cell2_1 _ _)
  have y0 := (blk_cell b1 0).trans (cell2_0 _ _)
  have y1 := (blk_cell b1 1).trans (cell2_1 _ _)
  have HQ0 := Lib.hid b0
  have HQ1 := Lib.hid b1
  have hs1 : w.heap.size + 1 + 1 ≤ w1.heap.size := by have := hb1.size; simpa using this
  clear hb1 b0 b1
  go_wp2_with fail
  refine (implFamilyIn_any _ _ _ ys _ HJ1.out hy).mono ?_
  rintro e w2 ⟨rfl, hb2⟩
  rw [HG.out]
  have HB2 := Lib.hid (HB1.out.trans (hb2.mono (by omega)))
  have x0' := (hb2.cell (p := ⟨w.heap.size, 0, none⟩) (by show w.heap.size < w1.heap.size; omega)).trans x0
  have x1' := (hb2.cell (p := ⟨w.heap.size, 1, none⟩) (by show w.heap.size < w1.heap.size; omega)).trans x1
  have y0' := (hb2.cell (p := ⟨w.heap.size + 1, 0, none⟩) (by show w.heap.size + 1 < w1.heap.size; omega)).trans y0
  have y1' := (hb2.cell (p := ⟨w.heap.size + 1, 1, none⟩) (by show w.heap.size + 1 < w1.heap.size; omega)).trans y1
  have HI2 := Lib.hid ((HI1.out.below hb2).mono hb2.size)
  have HJ2 := Lib.hid ((HJ1.out.below hb2).mono hb2.size)
  have hs2 := hb2.size
  clear x0 x1 y0 y1 hb2
  go_wp2
  go_ret
  exact ⟨rfl, HB2.out⟩

set_option maxRecDepth 100000 in
set_option maxHeartbeats 4000000 in
theorem implAIn_no4 (m k : Int) (a b : Option Addr) (c d : Nat) (zs ys : List Int) (w : World) (ha : Ints w w.heap.size a zs) (hb : Ints w w.heap.size b ys) (hx : zs.length ≤ 1048576) (hy : ys.length ≤ 1048576) (hf : famIn m zs = true) (hg : famIn k ys = true) (hmk : m = k) (hl : zs.length ≠ ys.length) :
    Calls Tryd.prog 28 #[.agg #[.int .i64 m, .slice a zs.length c], .agg #[.int .i64 k, .slice b ys.length d]] w fun e w' => e = .returned (.bool false) ∧ Below w.heap.size w w' := by
  have HB := Lib.hid (below2 w (.cells #[.int .i64 m, .slice a zs.length c] 25) (.cells #[.int .i64 k, .slice b ys.length d] 25))
  have HI := Lib.hid ((ha.below HB.out).mono (B' := ((w.alloc (.cells #[.int .i64 m, .slice a zs.length c] 25)).alloc (.cells #[.int .i64 k, .slice b ys.length d] 25)).heap.size) (by simp; omega))
  have HJ := Lib.hid ((hb.below HB.out).mono (B' := ((w.alloc (.cells #[.int .i64 m, .slice a zs.length c] 25)).alloc (.cells #[.int .i64 k, .slice b ys.length d] 25)).heap.size) (by simp; omega))
  have HF := Lib.hid hf
  have HG := Lib.hid hg
  subst hmk
  have hbn : (m != m) = false := by simp
  have hbe : ((zs.length : Int) != (ys.length : Int)) = true := by rw [bne_iff_ne]; omega
  clear hf hg ha hb hl
  go_enter Tryd.func28, Tryd.ntmps28
  go_wp2_with fail
  refine (implFamilyIn_any _ _ _ zs _ HI.out hx).mono ?_
  rintro e w1 ⟨rfl, hb1⟩
  rw [HF.out]
  have HB1 := Lib.hid (HB.out.trans (hb1.mono (by simp; omega)))
  have HJ1 := Lib.hid ((HJ.out.below hb1).mono hb1.size)
  have HI1 := Lib.hid ((HI.out.below hb1).mono hb1.size)
  have b0 : HasBlk w1 w.heap.size #[.int .i64 m, .slice a zs.length c] 25 := (hb1.block _ (by simp; omega)).trans (alloc2_0 w _ _)
  have b1 : HasBlk w1 (w.heap.size + 1) #[.int .i64 m, .slice b ys.length d] 25 := (hb1.block _ (by simp)).trans (alloc2_1 w _ _)
  have x0 := (blk_cell b0 0).trans (cell2_0 _ _)
  have x1 := (blk_cell b0 1).trans (cell2_1 _ _)
  have y0 := (blk_cell b1 0).trans (cell2_0 _ _)
  have y1 := (blk_cell b1 1).trans (cell2_1 _ _)
  have HQ0 := Lib.hid b0
  have HQ1 := Lib.hid b1
  have hs1 : w.heap.size + 1 + 1 ≤ w1.heap.size := by have := hb1.size; simpa using this
  clear hb1 b0 b1
  go_wp2_with fail
  refine (implFamilyIn_any _ _ _ ys _ HJ1.out hy).mono ?_
  rintro e w2 ⟨rfl, hb2⟩
  rw [HG.out]
  have HB2 := Lib.hid (HB1.out.trans (hb2.mono (by omega)))
  have x0' := (hb2.cell (p := ⟨w.heap.size, 0, none⟩) (by show w.heap.size < w1.heap.size; omega)).trans x0
  have x1' := (hb2.cell (p := ⟨w.heap.size, 1, none⟩) (by show w.heap.size < w1.heap.size; omega)).trans x1
  have y0' := (hb2.cell (p := ⟨w.heap.size + 1, 0, none⟩) (by show w.heap.size + 1 < w1.heap.size; omega)).trans y0
  have y1' := (hb2.cell (p := ⟨w.heap.size + 1, 1, none⟩) (by show w.heap.size + 1 < w1.heap.size; omega)).trans y1
  have HI2 := Lib.hid ((HI1.out.below hb2).mono hb2.size)
  have HJ2 := Lib.hid ((HJ1.out.below hb2).mono hb2.size)
  have hs2 := hb2.size
  clear x0 x1 y0 y1 hb2
  go_wp2
  go_ret
  exact ⟨rfl, HB2.out⟩

theorem implAIn_no (m k : Int) (a b : Option Addr) (c d : Nat) (zs ys : List Int) (w : World) (ha : Ints w w.heap.size a zs) (hb : Ints w w.heap.size b ys) (hx : zs.length ≤ 1048576) (hy : ys.length ≤ 1048576) (h : sizesB m zs k ys = false) :
    Calls Tryd.prog 28 #[.agg #[.int .i64 m, .slice a zs.length c], .agg #[.int .i64 k, .slice b ys.length d]] w fun e w' => e = .returned (.bool false) ∧ Below w.heap.size w w' := by
  cases hf : famIn m zs
  · exact implAIn_no1 m k a b c d zs ys w ha hb hx hy hf
  · cases hg : famIn k ys
    · exact implAIn_no2 m k a b c d zs ys w ha hb hx hy hf hg
    · by_cases hmk : m = k
      · by_cases hl : zs.length = ys.length
        · rw [sizesB, hf, hg, decide_eq_true hmk, decide_eq_true hl] at h
          simp at h
        · exact implAIn_no4 m k a b c d zs ys w ha hb hx hy hf hg hmk hl
      · exact implAIn_no3 m k a b c d zs ys w ha hb hx hy hf hg hmk

/-- How far the last region of AlikeIn has come. -/
def StA (w2 wm : World) (ls : Array Bool) (w' : World) : Prop :=
  ((ls.getD 2 false = true → ls.getD 0 false = true ∧ ls.getD 1 false = true) ∧ (ls.getD 5 false = true → ls.getD 2 false = true ∧ ls.getD 3 false = true ∧ ls.getD 4 false = true) ∧ (ls.getD 6 false = true → ls.getD 5 false = true) ∧ (ls.getD 7 false = true → ls.getD 6 false = true)) ∧
  (bif ls.getD 5 false then Below w2.heap.size w2 w' else bif ls.getD 2 false then (Below w2.heap.size w2 w' ∧ ∃ n D, OwnT w' w2.heap.size n D) else w' = wm.drew)

set_option maxRecDepth 100000 in
set_option maxHeartbeats 8000000 in
theorem implAIn_yes (k : Nat) (hk0 : 1 ≤ k) (hk6 : k ≤ 6) (a b : Option Addr) (c d : Nat) (zs ys : List Int) (w : World) (ha : Ints w w.heap.size a zs) (hb : Ints w w.heap.size b ys) (hT : Tab w) (hx : zs.length ≤ 1048576) (hy : ys.length ≤ 1048576) (hf : famIn (k : Int) zs = true) (hg : famIn (k : Int) ys = true) (hl : zs.length = ys.length) :
    Calls Tryd.prog 28 #[.agg #[.int .i64 (k : Int), .slice a zs.length c], .agg #[.int .i64 (k : Int), .slice b ys.length d]] w fun e w' => e = .returned (.bool (decide (lstP zs (firstN k zs) = lstP ys (firstN k ys)))) ∧ Below w.heap.size w w' := by
  obtain ⟨-, -, hzl8, hz4⟩ := famIn_out hf
  obtain ⟨-, -, hyl8, hy4⟩ := famIn_out hg
  have hT1 := hT.lt
  have HTB := Lib.hid hT
  have HA0 := Lib.hid ha
  have HB0 := Lib.hid hb
  obtain ⟨K, hK⟩ : ∃ K, K = keyL zs (nI (firstN k zs)) := ⟨_, rfl⟩
  obtain ⟨L, hL⟩ : ∃ L, L = keyL ys (nI (firstN k ys)) := ⟨_, rfl⟩
  have hKw : WfK K := by rw [hK]; exact wfK_first hk6 hf
  have hLw : WfK L := by rw [hL]; exact wfK_first hk6 hg
  have HDE : Hid (decide (K = L) = decide (lstP zs (firstN k zs) = lstP ys (firstN k ys))) := Lib.hid (by rw [hK, hL]; exact decide_eq_decide.2 (lst_eq hl))
  have HEQ : Hid (∀ W, (binOp BinOp.eql 77 (.agg (iv K)) (.agg (iv L))).run Tryd.prog W = .ok (.bool (decide (K = L))) W) := Lib.hid (eq_key hKw hLw)
  have HK := Lib.hid hK
  have HL := Lib.hid hL
  have hmx : Tryd.prog.follows .mixedOrders = true := by kernel_rfl
  have hmm := @run_makeMap Tryd.prog
  have HB := Lib.hid (below2 w (.cells #[.int .i64 (k : Int), .slice a zs.length c] 25) (.cells #[.int .i64 (k : Int), .slice b ys.length d] 25))
  have HI := Lib.hid ((ha.below HB.out).mono (B' := ((w.alloc (.cells #[.int .i64 (k : Int), .slice a zs.length c] 25)).alloc (.cells #[.int .i64 (k : Int), .slice b ys.length d] 25)).heap.size) (by simp; omega))
  have HJ := Lib.hid ((hb.below HB.out).mono (B' := ((w.alloc (.cells #[.int .i64 (k : Int), .slice a zs.length c] 25)).alloc (.cells #[.int .i64 (k : Int), .slice b ys.length d] 25)).heap.size) (by simp; omega))
  have HF := Lib.hid hf
  have HG := Lib.hid hg
  have hbe : ((zs.length : Int) != (ys.length : Int)) = false := by simp [hl]
  clear hf hg ha hb hl hT hK hL
  refine (callsIn_wide (n := 6)).1 ?_
  refine callsIn_of_wp Tryd.func28 rfl trivial ?_ rfl
  simp only [Tryd.ntmps28, List.size_toArray, List.length_cons, List.length_nil, Nat.reduceAdd, Nat.reduceSub, Array.replicate_succ, Array.replicate_zero, List.push_toArray, List.append_toArray, List.nil_append, List.cons_append]
  gi_wp2_with fail
  refine ⟨trivial, (callsIn_wide.2 (implFamilyIn_any _ _ _ zs _ HI.out hx)).mono ?_⟩
  rintro e w1 ⟨rfl, hb1⟩
  rw [HF.out]
  have HB1 := Lib.hid (HB.out.trans (hb1.mono (by simp; omega)))
  have HJ1 := Lib.hid ((HJ.out.below hb1).mono hb1.size)
  have HI1 := Lib.hid ((HI.out.below hb1).mono hb1.size)
  have b0 : HasBlk w1 w.heap.size #[.int .i64 (k : Int), .slice a zs.length c] 25 := (hb1.block _ (by simp; omega)).trans (alloc2_0 w _ _)
  have b1 : HasBlk w1 (w.heap.size + 1) #[.int .i64 (k : Int), .slice b ys.length d] 25 := (hb1.block _ (by simp)).trans (alloc2_1 w _ _)
  have x0 := (blk_cell b0 0).trans (cell2_0 _ _)
  have x1 := (blk_cell b0 1).trans (cell2_1 _ _)
  have y0 := (blk_cell b1 0).trans (cell2_0 _ _)
  have y1 := (blk_cell b1 1).trans (cell2_1 _ _)
  have HQ0 := Lib.hid b0
  have HQ1 := Lib.hid b1
  have hs1 : w.heap.size + 1 + 1 ≤ w1.heap.size := by have := hb1.size; simpa using this
  clear hb1 b0 b1
  gi_wp2_with fail
  refine ⟨trivial, (callsIn_wide.2 (implFamilyIn_any _ _ _ ys _ HJ1.out hy)).mono ?_⟩
  rintro e w2 ⟨rfl, hb2⟩
  rw [HG.out]
  have HB2 := Lib.hid (HB1.out.trans (hb2.mono (by omega)))
  have x0' := (hb2.cell (p := ⟨w.heap.size, 0, none⟩) (by show w.heap.size < w1.heap.size; omega)).trans x0
  have x1' := (hb2.cell (p := ⟨w.heap.size, 1, none⟩) (by show w.heap.size < w1.heap.size; omega)).trans x1
  have y0' := (hb2.cell (p := ⟨w.heap.size + 1, 0, none⟩) (by show w.heap.size + 1 < w1.heap.size; omega)).trans y0
  have y1' := (hb2.cell (p := ⟨w.heap.size + 1, 1, none⟩) (by show w.heap.size + 1 < w1.heap.size; omega)).trans y1
  have HI2 := Lib.hid ((HI1.out.below hb2).mono hb2.size)
  have HJ2 := Lib.hid ((HJ1.out.below hb2).mono hb2.size)
  have hs2 := hb2.size
  clear x0 x1 y0 y1 hb2
  gi_wp2
  obtain ⟨wm, hwm⟩ : ∃ wm, w2.alloc (.map #[] 0) = wm := ⟨_, rfl⟩
  have hbm : Below w2.heap.size w2 wm.drew := by rw [← hwm]; exact ((Below.refl _ w2).alloc (Nat.le_refl _) _).drew
  have hsm : w2.heap.size < wm.drew.heap.size := by rw [← hwm]; show w2.heap.size < (w2.alloc (.map #[] 0)).heap.size; simp
  have hown : OwnT wm.drew w2.heap.size 0 (.map []) := by rw [← hwm]; exact World.ownsMap_made w2 _ _ _
  rw [hwm]
  have HBM := Lib.hid hbm
  have HSM := Lib.hid hsm
  have HOM := Lib.hid hown
  have HT2 : Hid (Tab w2) := Lib.hid (HTB.out.below HB2.out hT1)
  have HX0 := Lib.hid x0'
  have HX1 := Lib.hid x1'
  have HY0 := Lib.hid y0'
  have HY1 := Lib.hid y1'
  have h2 : w.heap.size + 1 < w2.heap.size := by omega
  clear hwm hbm hsm hown x0' x1' y0' y1'
  refine wpIn_region_rel (R := fun ls a' w' => a' = { tmps := #[.agg #[.int .i64 (k : Int), .slice a zs.length c], .agg #[.int .i64 (k : Int), .slice b ys.length d], .pointer (some ⟨w.heap.size, 0, none⟩), .pointer (some ⟨w.heap.size + 1, 0, none⟩), bif ls.getD 7 false then .bool (decide (K = L)) else .bool false, .map (some w2.heap.size),
      .agg #[.int .i64 (k : Int), .slice a zs.length c], .bool true, .bool false, .bool false, .agg #[.int .i64 (k : Int), .slice b ys.length d], .bool true, .bool false, .bool false, .bool false, .pointer (some ⟨w.heap.size, 0, none⟩), .int .i64 (k : Int), .pointer (some ⟨w.heap.size + 1, 0, none⟩), .int .i64 (k : Int), .bool false, .bool false, .bool false,
      .pointer (some ⟨w.heap.size, 1, none⟩), .slice a zs.length c, .int .i64 (zs.length : Int), .pointer (some ⟨w.heap.size + 1, 1, none⟩), .slice b ys.length d, .int .i64 (ys.length : Int), .bool false, .bool false, .map (some w2.heap.size),
      bif ls.getD 0 false then .map (some w2.heap.size) else undef, bif ls.getD 1 false then .agg #[.int .i64 (k : Int), .slice a zs.length c] else undef, bif ls.getD 2 false then .agg (iv K) else undef, bif ls.getD 3 false then .map (some w2.heap.size) else undef, bif ls.getD 4 false then .agg #[.int .i64 (k : Int), .slice b ys.length d] else undef,
      bif ls.getD 5 false then .agg (iv L) else undef, bif ls.getD 6 false then .bool (decide (K = L)) else undef], defers := [] } ∧ StA w2 wm ls w') hmx (by kernel_rfl) ⟨rfl, ⟨(by simp), (by simp), (by simp), (by simp)⟩, rfl⟩ ?step ?fin
  case step =>
    rintro listed a' W' i hsz hi ⟨rfl, hdep, hS⟩
    obtain ⟨l0, l1, l2, l3, l4, l5, l6, l7, rfl⟩ := arr8 listed hsz
    obtain ⟨hi1, hi2⟩ := List.mem_filter.1 hi
    have hi8 : i < 8 := by simpa using hi1
    have hcase : i = 0 ∨ i = 1 ∨ i = 2 ∨ i = 3 ∨ i = 4 ∨ i = 5 ∨ i = 6 ∨ i = 7 := by omega
    simp at hdep
    obtain ⟨hd2, hd5, hd6, hd7⟩ := hdep
    rcases hcase with rfl | rfl | rfl | rfl | rfl | rfl | rfl | rfl
    · simp [Region.binds] at hi2
      subst hi2
      have h2 : l2 = false := by
        cases l2 with
        | false => rfl
        | true => exact absurd (hd2 rfl).1 (by simp)
      subst h2
      have h5 : l5 = false := by
        cases l5 with
        | false => rfl
        | true => exact absurd (hd5 rfl).1 (by simp)
      subst h5
      have h6 : l6 = false := by
        cases l6 with
        | false => rfl
        | true => exact absurd (hd6 rfl) (by simp)
      subst h6
      have h7 : l7 = false := by
        cases l7 with
        | false => rfl
        | true => exact absurd (hd7 rfl) (by simp)
      subst h7
      refine wpOpIn_of_list rfl ?_
      gi_wp2
      first | exact ⟨rfl, ⟨(fun h => by cases h), (fun h => by cases h), (fun h => by cases h), (fun h => by cases h)⟩, hS⟩ | exact ⟨⟨(fun h => by cases h), (fun h => by cases h), (fun h => by cases h), (fun h => by cases h)⟩, hS⟩
    · simp [Region.binds] at hi2
      subst hi2
      have h2 : l2 = false := by
        cases l2 with
        | false => rfl
        | true => exact absurd (hd2 rfl).2 (by simp)
      subst h2
      have h5 : l5 = false := by
        cases l5 with
        | false => rfl
        | true => exact absurd (hd5 rfl).1 (by simp)
      subst h5
      have h6 : l6 = false := by
        cases l6 with
        | false => rfl
        | true => exact absurd (hd6 rfl) (by simp)
      subst h6
      have h7 : l7 = false := by
        cases l7 with
        | false => rfl
        | true => exact absurd (hd7 rfl) (by simp)
      subst h7
      have hB : Below w2.heap.size w2 W' := by
        simp at hS
        all_goals first | exact hS.1 | (rw [hS]; exact HBM.out)
      have y0 := (hB.cell (p := ⟨w.heap.size, 0, none⟩) (show w.heap.size < w2.heap.size by omega)).trans HX0.out
      have y1 := (hB.cell (p := ⟨w.heap.size, 1, none⟩) (show w.heap.size < w2.heap.size by omega)).trans HX1.out
      refine wpOpIn_of_list rfl ?_
      gi_wp2
      first | exact ⟨rfl, ⟨(fun h => by cases h), (fun h => by cases h), (fun h => by cases h), (fun h => by cases h)⟩, hS⟩ | exact ⟨⟨(fun h => by cases h), (fun h => by cases h), (fun h => by cases h), (fun h => by cases h)⟩, hS⟩
    · simp [Region.binds] at hi2
      obtain ⟨rfl, rfl, rfl⟩ := hi2
      have h5 : l5 = false := by
        cases l5 with
        | false => rfl
        | true => exact absurd (hd5 rfl).1 (by simp)
      subst h5
      have h6 : l6 = false := by
        cases l6 with
        | false => rfl
        | true => exact absurd (hd6 rfl) (by simp)
      subst h6
      have h7 : l7 = false := by
        cases l7 with
        | false => rfl
        | true => exact absurd (hd7 rfl) (by simp)
      subst h7
      have hW : W' = wm.drew := hS
      subst hW
      have hLO := leastOf_any k hk0 hk6 a c zs wm.drew ((HI2.out.below HBM.out).mono (by have := HSM.out; omega)) (HT2.out.below HBM.out (by omega)) HF.out w2.heap.size 0 (.map []) (by omega) HOM.out
      rw [← HK.out] at hLO
      refine wpOpIn_of_list rfl ?_
      gi_wp2_with (refine ⟨trivial, ?_⟩; gi_at_call 65; refine (callsIn_wide.2 hLO).mono ?_; rintro e w3 ⟨rfl, ⟨n3, D3, ho3, -⟩, hb3⟩)
      have hB3 : Below w2.heap.size w2 w3 := HBM.out.trans (hb3.below (B := w2.heap.size) (by have := HSM.out; omega) (fun i e => by omega))
      first | exact ⟨rfl, ⟨(fun _ => ⟨rfl, rfl⟩), (fun h => by cases h), (fun h => by cases h), (fun h => by cases h)⟩, hB3, n3, D3, ho3⟩ | exact ⟨⟨(fun _ => ⟨rfl, rfl⟩), (fun h => by cases h), (fun h => by cases h), (fun h => by cases h)⟩, hB3, n3, D3, ho3⟩
    · simp [Region.binds] at hi2
      subst hi2
      have h5 : l5 = false := by
        cases l5 with
        | false => rfl
        | true => exact absurd (hd5 rfl).2.1 (by simp)
      subst h5
      have h6 : l6 = false := by
        cases l6 with
        | false => rfl
        | true => exact absurd (hd6 rfl) (by simp)
      subst h6
      have h7 : l7 = false := by
        cases l7 with
        | false => rfl
        | true => exact absurd (hd7 rfl) (by simp)
      subst h7
      refine wpOpIn_of_list rfl ?_
      gi_wp2
      first | exact ⟨rfl, ⟨hd2, (fun h => by cases h), (fun h => by cases h), (fun h => by cases h)⟩, hS⟩ | exact ⟨⟨hd2, (fun h => by cases h), (fun h => by cases h), (fun h => by cases h)⟩, hS⟩
    · simp [Region.binds] at hi2
      subst hi2
      have h5 : l5 = false := by
        cases l5 with
        | false => rfl
        | true => exact absurd (hd5 rfl).2.2 (by simp)
      subst h5
      have h6 : l6 = false := by
        cases l6 with
        | false => rfl
        | true => exact absurd (hd6 rfl) (by simp)
      subst h6
      have h7 : l7 = false := by
        cases l7 with
        | false => rfl
        | true => exact absurd (hd7 rfl) (by simp)
      subst h7
      have hB : Below w2.heap.size w2 W' := by
        cases l2 <;> simp at hS
        all_goals first | exact hS.1 | (rw [hS]; exact HBM.out)
      have y0 := (hB.cell (p := ⟨w.heap.size + 1, 0, none⟩) h2).trans HY0.out
      have y1 := (hB.cell (p := ⟨w.heap.size + 1, 1, none⟩) h2).trans HY1.out
      refine wpOpIn_of_list rfl ?_
      gi_wp2
      first | exact ⟨rfl, ⟨hd2, (fun h => by cases h), (fun h => by cases h), (fun h => by cases h)⟩, hS⟩ | exact ⟨⟨hd2, (fun h => by cases h), (fun h => by cases h), (fun h => by cases h)⟩, hS⟩
    · simp [Region.binds] at hi2
      obtain ⟨rfl, rfl, rfl, rfl⟩ := hi2
      have h6 : l6 = false := by
        cases l6 with
        | false => rfl
        | true => exact absurd (hd6 rfl) (by simp)
      subst h6
      have h7 : l7 = false := by
        cases l7 with
        | false => rfl
        | true => exact absurd (hd7 rfl) (by simp)
      subst h7
      obtain ⟨rfl, rfl⟩ := hd2 rfl
      obtain ⟨hB, n3, D3, ho3⟩ : Below w2.heap.size w2 W' ∧ ∃ n D, OwnT W' w2.heap.size n D := hS
      have hLO := leastOf_any k hk0 hk6 b d ys W' ((HJ2.out.below hB).mono hB.size) (HT2.out.below hB (by omega)) HG.out w2.heap.size n3 D3 (by omega) ho3
      rw [← HL.out] at hLO
      refine wpOpIn_of_list rfl ?_
      gi_wp2_with (refine ⟨trivial, ?_⟩; gi_at_call 65; refine (callsIn_wide.2 hLO).mono ?_; rintro e w4 ⟨rfl, -, hb4⟩)
      have hB4 : Below w2.heap.size w2 w4 := hB.trans (hb4.below (B := w2.heap.size) hB.size (fun i e => by omega))
      first | exact ⟨rfl, ⟨(fun _ => ⟨rfl, rfl⟩), (fun _ => ⟨rfl, rfl, rfl⟩), (fun h => by cases h), (fun h => by cases h)⟩, hB4⟩ | exact ⟨⟨(fun _ => ⟨rfl, rfl⟩), (fun _ => ⟨rfl, rfl, rfl⟩), (fun h => by cases h), (fun h => by cases h)⟩, hB4⟩
    · simp [Region.binds] at hi2
      obtain ⟨rfl, rfl, rfl⟩ := hi2
      have h7 : l7 = false := by
        cases l7 with
        | false => rfl
        | true => exact absurd (hd7 rfl) (by simp)
      subst h7
      obtain ⟨-, rfl, rfl⟩ := hd5 rfl
      obtain ⟨rfl, rfl⟩ := hd2 rfl
      have hB : Below w2.heap.size w2 W' := hS
      have heq := HEQ.out
      refine wpOpIn_of_list rfl ?_
      gi_wp2
      first | exact ⟨rfl, ⟨(fun _ => ⟨rfl, rfl⟩), (fun _ => ⟨rfl, rfl, rfl⟩), (fun _ => rfl), (fun h => by cases h)⟩, hB⟩ | exact ⟨⟨(fun _ => ⟨rfl, rfl⟩), (fun _ => ⟨rfl, rfl, rfl⟩), (fun _ => rfl), (fun h => by cases h)⟩, hB⟩
    · simp [Region.binds] at hi2
      obtain ⟨rfl, rfl, rfl, rfl, rfl, rfl, rfl, rfl, -⟩ := hi2
      have hB : Below w2.heap.size w2 W' := hS
      refine wpOpIn_of_list rfl ?_
      gi_wp2
      first | exact ⟨rfl, ⟨(fun _ => ⟨rfl, rfl⟩), (fun _ => ⟨rfl, rfl, rfl⟩), (fun _ => rfl), (fun _ => rfl)⟩, hB⟩ | exact ⟨⟨(fun _ => ⟨rfl, rfl⟩), (fun _ => ⟨rfl, rfl, rfl⟩), (fun _ => rfl), (fun _ => rfl)⟩, hB⟩
  case fin =>
    rintro listed a' W' hsz hal ⟨rfl, hdep, hS⟩
    obtain ⟨l0, l1, l2, l3, l4, l5, l6, l7, rfl⟩ := arr8 listed hsz
    simp at hal
    obtain ⟨rfl, rfl, rfl, rfl, rfl, rfl, rfl, rfl⟩ := hal
    have hB : Below w2.heap.size w2 W' := hS
    have HD := Lib.hid (HB2.out.trans (hB.mono (by omega)))
    clear hB hS hdep
    gi_wp2
    go_ret
    exact ⟨by rw [← HDE.out]; rfl, HD.out⟩

end Go.Proofs.YtgpgocijacgkhaaDoor

/- It is proved what AlikeIn of the program returns, and that the call of the law FnExactAlikeIn returns true, given what the two functions return; conditions: those of each statement. -/
namespace Go.Proofs.YtgpgocijacgkhaaDoor
open Go.RowKit Go.Shelf Go.Maps

theorem implAIn_any (m k : Int) (a b : Option Addr) (c d : Nat) (zs ys : List Int) (w : World) (ha : Ints w w.heap.size a zs) (hb : Ints w w.heap.size b ys) (hT : Tab w) (hx : zs.length ≤ 1048576) (hy : ys.length ≤ 1048576) :
    Calls Tryd.prog 28 #[.agg #[.int .i64 m, .slice a zs.length c], .agg #[.int .i64 k, .slice b ys.length d]] w fun e w' => e = .returned (.bool (alikeB m zs k ys)) ∧ Below w.heap.size w w' := by
  cases h : sizesB m zs k ys
  · rw [alike_no h]
    exact implAIn_no m k a b c d zs ys w ha hb hx hy h
  · obtain ⟨h1, h2, rfl, h4, h5⟩ := alike_yes h
    obtain ⟨hm1, hm6, -, -⟩ := famIn_out h1
    obtain ⟨q, rfl⟩ : ∃ q : Nat, m = (q : Int) := ⟨m.toNat, by omega⟩
    rw [h5]
    exact implAIn_yes q (by omega) (by omega) a b c d zs ys w ha hb hT hx hy h1 h2 h4

end Go.Proofs.YtgpgocijacgkhaaDoor

/- It is proved what sameInts and sameFamily return; conditions: those of each statement. -/
namespace Go.Proofs.YtgpgocijacgkhaaDoor
open Go.RowKit

set_option maxRecDepth 100000 in
set_option maxHeartbeats 400000 in
theorem sameInts_any (a b : Option Addr) (ca cb : Nat) (xs ys : List Int) (w : World) (ha : Ints w w.heap.size a xs) (hb : Ints w w.heap.size b ys) (hx : xs.length ≤ 1048576) (hy : ys.length ≤ 1048576) :
    Calls Tryd.prog 18 #[.slice a xs.length ca, .slice b ys.length cb] w fun e w' => e = .returned (.bool (sameB xs ys)) ∧ Below w.heap.size w w' := by
  by_cases hl : xs.length = ys.length
  · obtain ⟨n, hn⟩ : ∃ n, n = xs.length := ⟨_, rfl⟩
    have HN : Hid (n = xs.length) := Lib.hid hn
    have HM : Hid (n = ys.length) := Lib.hid (hn.trans hl)
    rw [← hl, ← hn]
    rw [← hn] at hx
    clear hl hn hy
    go_enter Tryd.func18, Tryd.ntmps18
    go_wp2
    go_loopw [5] (fun i wr => ∃ k : Nat, k ≤ n ∧ i = .int .i64 k ∧ (∀ j, j < k → xs[j]?.getD 0 = ys[j]?.getD 0) ∧ Below w.heap.size w wr) (fun i _ => n - (intOf i).toNat)
    case atStart => exact ⟨0, Nat.zero_le _, rfl, fun j hj => by omega, Below.refl _ _⟩
    case round =>
      obtain ⟨k, hk, rfl, he, hB⟩ := hrel
      by_cases hlt : k < n
      · obtain ⟨b1, o1, rfl, hb1, hc1⟩ := ha.at_ (k := k) (by rw [← HN.out]; exact hlt)
        obtain ⟨b2, o2, rfl, hb2, hc2⟩ := hb.at_ (k := k) (by rw [← HM.out]; exact hlt)
        have hk0 : (0 : Int) ≤ (k : Int) := by omega
        have hk1 : (k : Int) < (n : Int) := by omega
        have c1 := (hB.cell (p := ⟨b1, o1 + k, none⟩) hb1).trans hc1
        have c2 := (hB.cell (p := ⟨b2, o2 + k, none⟩) hb2).trans hc2
        have HB := Lib.hid hB
        have HE := Lib.hid he
        clear hc1 hc2 hB he
        by_cases hq : xs[k]?.getD 0 = ys[k]?.getD 0
        · have hbn : (xs[k]?.getD 0 != ys[k]?.getD 0) = false := by rw [hq]; simp
          have HQ := Lib.hid hq
          clear hq
          go_wp2
          go_quiet (fail)
          go_wp2
          go_roundw
          case rel => exact ⟨k + 1, by omega, by go_num, fun j hj => by
            rcases Nat.lt_succ_iff_lt_or_eq.1 hj with h | rfl
            · exact HE.out j h
            · exact HQ.out, below_drewN HB.out _⟩
          case measure => simp [intOf]; omega
        · have hbn : (xs[k]?.getD 0 != ys[k]?.getD 0) = true := by rw [bne_iff_ne]; exact hq
          have HQ : Hid (sameB xs ys = false) := Lib.hid (by unfold sameB; exact eqs_false (by rw [← HN.out]; exact hlt) (by rw [← HM.out]; exact hlt) hq)
          clear hq
          go_wp2
          go_quiet (fail)
          go_wp2
          go_ret
          exact ⟨by rw [HQ.out]; rfl, below_drewN HB.out _⟩
      · obtain rfl : k = n := by omega
        have HQ : Hid (sameB xs ys = true) := Lib.hid (by unfold sameB; exact eqs_true (by rw [← HN.out, ← HM.out]) (by rw [← HN.out]; exact he))
        have HB := Lib.hid hB
        clear he hB
        go_wp2
        go_ret
        exact ⟨by rw [HQ.out]; rfl, HB.out⟩
  · have hd : sameB xs ys = false := by unfold sameB; simp only [decide_eq_false_iff_not]; rintro rfl; exact hl rfl
    have hne : ((xs.length : Int) == (ys.length : Int)) = false := by simp; omega
    have hne' : ((xs.length : Int) != (ys.length : Int)) = true := by simp; omega
    rw [hd]
    go_enter Tryd.func18, Tryd.ntmps18
    go_wp2
    go_ret
    exact ⟨rfl, Below.refl _ _⟩

set_option maxRecDepth 100000 in
set_option maxHeartbeats 400000 in
theorem sameFamily_any (m k : Int) (a b : Option Addr) (ca cb : Nat) (xs ys : List Int) (w : World) (ha : Ints w w.heap.size a xs) (hb : Ints w w.heap.size b ys) (hx : xs.length ≤ 1048576) (hy : ys.length ≤ 1048576) :
    Calls Tryd.prog 23 #[.agg #[.int .i64 m, .slice a xs.length ca], .agg #[.int .i64 k, .slice b ys.length cb]] w fun e w' => e = .returned (.bool (sameF m xs k ys)) ∧ Below w.heap.size w w' := by
  have HB := Lib.hid (below2 w (.cells #[.int .i64 m, .slice a xs.length ca] 25) (.cells #[.int .i64 k, .slice b ys.length cb] 25))
  by_cases h : m = k
  · subst h
    have H1 : Hid (sameF m xs m ys = sameB xs ys) := Lib.hid (by simp [sameF])
    cases hs : sameB xs ys
    all_goals
      have HS := Lib.hid hs
      clear hs
      go_enter Tryd.func23, Tryd.ntmps23
      go_wp2_with (go_at_call 18; refine (sameInts_any _ _ _ _ xs ys _ ((ha.below HB.out).mono (by simp; omega)) ((hb.below HB.out).mono (by simp; omega)) hx hy).mono ?_; rintro e w1 ⟨rfl, hb1⟩; rw [HS.out])
      go_ret
      exact ⟨by rw [H1.out, HS.out]; rfl, HB.out.trans (hb1.mono (by simp; omega))⟩
  · have H1 : Hid (sameF m xs k ys = false) := Lib.hid (by simp [sameF, h])
    have hn : (m == k) = false := by rw [beq_eq_false_iff_ne]; exact h
    clear h
    go_enter Tryd.func23, Tryd.ntmps23
    go_wp2
    go_ret
    exact ⟨by rw [H1.out]; rfl, HB.out⟩

end Go.Proofs.YtgpgocijacgkhaaDoor
