/- It is proved what CoverClubs of the program returns; conditions: those of each statement. -/
import Derived.RowKit
import Derived.Laws.CopyRow
import Derived.Lib.SlBuf
import Derived.Deep.QuietTactic
import Derived.RangeFuncNested
import Derived.RangeFuncBound
import Derived.RangeFuncCalls
import Derived.RangeFuncLeaves
import Derived.RangeFuncBox
import Derived.RangeFuncWrites
import Derived.StillTailTactics
import Derived.Maps.OwnIn
import Derived.Maps.Ext
import Derived.DeepKeys4
import Derived.MapKept
import Derived.Test.YtcmpjegfikdofaaDoorRows
import Derived.WalkKit
import Derived.WalkSpells
import Derived.ProofKit
import Derived.OpenShut
import Derived.ShutString
import Derived.ChangeOld
import Derived.Below
import Derived.Deep.RegionHeld3
import Derived.BigQuiet
import Derived.Lib.Hide
import Derived.Lib.SmallJoins
import Derived.Outline
import Derived.Laws.MakeOwn
import Derived.Laws.OwnMore
import Derived.IntWalk
import Derived.Maps.AppendAt
import Derived.Lib.AppendZeros
import Derived.Deep.AppendLies
import Derived.OwnWalk
import Derived.Lib.SlicesCompact
import Derived.Lib.OwnBridge
import Derived.OrdersIn
import Derived.TacticsIn
import Derived.Shelf.Sort.Plain
import Derived.Shelf.Slices.In.SortNone
import Derived.Shelf.Slices.CompactI
import Derived.Ground.Names2Prog
import Derived.Lib.SliceRun
import Derived.Shelf.Abstract
import Derived.Shelf.RegionOpen
import Derived.OwnWalkIn
import Derived.TacticsInMore
import Derived.LoopNIn
import Derived.LoopIn
import Derived.StillTail
import Derived.StillTactics
import Derived.Shelf.Spec.TrailingZeros
import Derived.Test.YtcmpjegfikdofaaDoorMrar
import Derived.Test.YtcmpjegfikdofaaDoorMraa
import Derived.Test.YtcmpjegfikdofaaDoorMraf
import Derived.Test.YtcmpjegfikdofaaDoorMrag
import Derived.Test.YtcmpjegfikdofaaDoorMrak
import Derived.Test.YtcmpjegfikdofaaDoorMrao
import Derived.Test.YtcmpjegfikdofaaDoorKa
import Derived.Test.YtcmpjegfikdofaaDoorKc
import Derived.Test.YtcmpjegfikdofaaDoorKh
import Derived.Test.YtcmpjegfikdofaaDoorLi
import Derived.Test.YtcmpjegfikdofaaDoorLj
import Derived.Test.YtcmpjegfikdofaaDoorMraj
import Derived.Test.YtcmpjegfikdofaaDoorMrac
import Derived.Test.YtcmpjegfikdofaaDoorMrat
import Derived.Test.YtcmpjegfikdofaaDoorMrab
import Derived.Test.YtcmpjegfikdofaaDoorMrap
namespace Go.Proofs.YtcmpjegfikdofaaDoor
open Go.RowKit Go.Shelf

attribute [local go_sem] Oper.semAt_some

theorem KeepsOthers.of_below {W W' : World} (h : Below W.heap.size W W') : KeepsOthers W W' := ⟨h.size, fun k _ hk _ => (h.block k (lt_of_some hk)).trans hk⟩
set_option maxRecDepth 100000 in
set_option maxHeartbeats 8000000 in
theorem grownCovers_any (m : Nat) (hm1 : 1 ≤ m) (hm : m ≤ 6) (a : Option Addr) (c : Nat) (zs : List Int) (w : World) (ha : Ints w w.heap.size a zs) (hx : zs.length ≤ 10000) (hz : Sets m zs) (hT : Tab w) :
    Calls Tryd.prog 93 #[.agg #[.int .i64 (m : Int), .slice a zs.length c]] w (RetFam w (m : Int) (lcL m zs)) := by
  have h16 : 1 ≤ 6 := by omega
  have HT := Lib.hid hT
  clear hT
  obtain ⟨W2, hW2, q0, q2, hs2, hb2⟩ : ∃ W2, (w.alloc (.cells #[.int .i64 (m : Int), .slice a zs.length c] 25)).alloc (.cells #[.int .i64 0, .slice none 0 0] 25) = W2 ∧ HasBlk W2 w.heap.size #[.int .i64 (m : Int), .slice a zs.length c] 25 ∧ HasBlk W2 (w.heap.size + 1) #[.int .i64 0, .slice none 0 0] 25 ∧ W2.heap.size = w.heap.size + 1 + 1 ∧ Below w.heap.size w W2 :=
    ⟨_, rfl, alloc2_0 w _ _, alloc2_1 w _ _, by simp, below2 w _ _⟩
  obtain ⟨W3, hW3, o3, hs3, hb3⟩ : ∃ W3, W2.alloc (.cells #[.int .i64 0] 3) = W3 ∧ W3.ownsRow w.heap.size 3 1 (.slice (some ⟨W2.heap.size, 0, none⟩) 1 1) 1 ((lcL m []).map (Value.int .i64)) ∧ W3.heap.size = W2.heap.size + 1 ∧ Below W2.heap.size W2 W3 :=
    ⟨_, rfl, by rw [lcL_nil m hm]; exact ⟨by simp, .inr ⟨_, _, _, rfl, by omega, alloc_new W2 _, by decide, by simp only [maxLen]; omega, rfl, rfl⟩⟩, by simp, below1 W2 _⟩
  obtain ⟨W4, hW4, r4, hs4, hb4⟩ : ∃ W4, W3.alloc (.cells #[.int .i64 (m : Int), .slice (some ⟨W2.heap.size, 0, none⟩) 1 1] 25) = W4 ∧ FamBox W3.heap.size w.heap.size (m : Int) (lcL m []) W4 ∧ W4.heap.size = W3.heap.size + 1 ∧ Below W3.heap.size W3 W4 :=
    ⟨_, rfl, ⟨_, alloc_new W3 _, by rw [lcL_nil m hm]; rw [lcL_nil m hm] at o3; exact World.ownsRow.alloc o3 _⟩, by simp, below1 W3 _⟩
  obtain ⟨W5, hW5, r5, hs5, hb5⟩ : ∃ W5, W4.alloc (.cells #[.int .i64 (m : Int), .slice a zs.length c] 25) = W5 ∧ HasBlk W5 W4.heap.size #[.int .i64 (m : Int), .slice a zs.length c] 25 ∧ W5.heap.size = W4.heap.size + 1 ∧ Below W4.heap.size W4 W5 :=
    ⟨_, rfl, alloc_new W4 _, by simp, below1 W4 _⟩
  have r4 : FamBox W3.heap.size w.heap.size (m : Int) (lcL m []) W5 := by rw [← hW5]; exact r4.alloc _
  have hb24 : Below W2.heap.size W2 W4 := hb3.trans (hb4.mono (by omega))
  have hb25 := hb24.trans (hb5.mono (show W2.heap.size ≤ W4.heap.size by omega))
  have hbw3 := hb2.trans (hb3.mono (by omega))
  have x0 := (blk_cell q0 0).trans (cell2_0 _ _)
  have x1 := (blk_cell q0 1).trans (cell2_1 _ _)
  have y0 := (blk_cell (show HasBlk W4 w.heap.size _ 25 from (hb24.block _ (by omega)).trans q0) 0).trans (cell2_0 _ _)
  have y1 := (blk_cell (show HasBlk W4 w.heap.size _ 25 from (hb24.block _ (by omega)).trans q0) 1).trans (cell2_1 _ _)
  have v0 := (blk_cell (show HasBlk W3 w.heap.size _ 25 from (hb3.block _ (by omega)).trans q0) 0).trans (cell2_0 _ _)
  have HB5 := Lib.hid (hb2.trans (hb25.mono (by omega)))
  have Q2 : Hid (HasBlk W5 (w.heap.size + 1) #[.int .i64 0, .slice none 0 0] 25) := Lib.hid ((hb25.block _ (by omega)).trans q2)
  have HR4 := Lib.hid r4
  have HS5 := Lib.hid hs5
  have HS3 := Lib.hid hs3
  have HS2 := Lib.hid hs2
  rw [hs4] at r5
  have hst := clubsP_stops (IsSet m) (6 - 1) (by omega) (W3.heap.size + 1) w.heap.size a c zs (by omega) hz.at_ W5 (by omega) (by omega) ((blk_cell r5 1).trans (cell2_1 _ _)) (ha.below HB5.out)
  have HST := Lib.hid hst
  have HW5 := Lib.hid hW5
  have HS4 := Lib.hid hs4
  have HW4 := Lib.hid hW4
  rw [← hW4] at y0 y1
  clear ha q0 q2 hb3 r4 r5 hs5 hb5 hst hW5 hb24 hb25 hbw3 hb2 hb4 o3 hs2 hs3 hs4 hW4
  refine (callsIn_wide (n := 6)).1 ?_
  refine callsIn_of_wp_marks Tryd.func93 rfl trivial ?_ rfl
  simp only [Tryd.ntmps93, List.size_toArray, List.length_cons, List.length_nil, Nat.reduceAdd, Nat.reduceSub, Array.replicate_succ, Array.replicate_zero, List.push_toArray, List.append_toArray, List.nil_append, List.cons_append]
  gi_wp2_with (refine ⟨trivial, ?_⟩; gi_at_call 57; refine (callsIn_wide.2 (clubs_any _ _ _ _ _)).mono ?_; rintro e w' ⟨rfl, rfl⟩)
  rw [HW4.out, HW5.out]
  clear hW2 hW3
  refine wpIn_rangeFunc_ownG rfl h16 (gf := 84) (lb := #[.pointer (some ⟨W3.heap.size + 1, 0, none⟩)]) rfl trivial (enters_of Tryd.func84 (by kernel_rfl) rfl)
    HST.out belowK_t (belowK_b (by have := HS5.out; have := HS4.out; have := HS3.out; have := HS2.out; omega)) (Below.refl _ _) (fun _ => rfl)
    (fun pre W => (FamBox W3.heap.size w.heap.size (m : Int) (lcL m (sndL pre)) W ∧ HasBlk W (w.heap.size + 1) #[.int .i64 0, .slice none 0 0] 25) ∧ Below w.heap.size w W)
    (fun _ _ _ => False)
    (OwnFrom.and (OwnFrom.and (Own.from (FamBox.own _ _ _ (fun pre : List { p // IsSet m p } => lcL m (sndL pre))) _) (Own.from (hasBlk_own _ _ _) _)) (ownFrom_below (Nat.le_refl _) (by have := HS5.out; have := HS4.out; have := HS3.out; have := HS2.out; omega)))
    (fun _ _ _ _ _ hs _ _ => hs)
    ⟨⟨HR4.out, Q2.out⟩, HB5.out⟩
    (fun x => { tmps := #[.agg #[.int .i64 (m : Int), .slice a zs.length c], .pointer (some ⟨w.heap.size, 0, none⟩), .pointer (some ⟨w.heap.size + 1, 0, none⟩), .pointer (some ⟨W3.heap.size, 0, none⟩), undef, .int .i64 x.1.2, .pointer (some ⟨w.heap.size, 0, none⟩), .int .i64 (m : Int), .slice (some ⟨W2.heap.size, 0, none⟩) 1 1, .agg #[.int .i64 (m : Int), .slice (some ⟨W2.heap.size, 0, none⟩) 1 1], .agg #[.int .i64 (m : Int), .slice a zs.length c], .func (.func 84) #[] #[.pointer (some ⟨W3.heap.size + 1, 0, none⟩)], .int .i64 (x.1.1 : Int), .int .i64 x.1.2, undef, undef, undef, undef, undef], defers := [] }) ?assign ?body ?done ?stop
  case assign =>
    intro l x W K hK
    gi_wp2
    exact hK
  case body =>
    rintro l pre ⟨⟨xi, xz⟩, hx0, hx1⟩ W ⟨⟨⟨v, hv, hrow⟩, q2⟩, hB⟩ hlt
    dsimp only at hx0 hx1
    obtain ⟨z, rfl⟩ : ∃ z : Nat, xz = (z : Int) := ⟨xz.toNat, by omega⟩
    have hz2 : z < 2 ^ m := by rw [Int.toNat_natCast] at hx1; exact hx1
    obtain ⟨x, hxx⟩ : ∃ x : { p // IsSet m p }, x = ⟨(xi, (z : Int)), hx0, hx1⟩ := ⟨_, rfl⟩
    have hxz : x.1.2 = (z : Int) := by rw [hxx]
    have HG : Hid (unbeaten leG (growL (lcL m (sndL pre)) (z : Int)) = lcL m (sndL (pre ++ [x]))) := Lib.hid (by rw [sndL_snoc, hxz]; exact grow_least hm _ _ (by rw [Int.toNat_natCast]; exact hz2))
    have hL := lcL_len hm (sndL pre)
    have hgl := growL_len (z : Int) m hm (by rw [Int.toNat_natCast]; exact hz2) (lcL m (sndL pre))
    have hset : Sets m (lcL m (sndL pre)) := fun y hy => by
      obtain ⟨t, rfl, ht, -⟩ := lcL_mem.1 hy
      exact ⟨by omega, by rw [Int.toNat_natCast]; exact ht⟩
    obtain ⟨ga, gc, rfl⟩ := slice_form hrow
    have hI : Ints W W.heap.size ga (lcL m (sndL pre)) := own_ints hrow
    have HC := Lib.hid (grownBy_any m hm ga gc (lcL m (sndL pre)) z hz2 W (HT.out.below hB HT.out.lt) hI (by omega) hset)
    have d0 := (blk_cell hv 0).trans (cell2_0 _ _)
    have d1 := (blk_cell hv 1).trans (cell2_1 _ _)
    have hDW : W3.heap.size < W.heap.size := lt_of_some hv
    have hRW : w.heap.size + 1 < W.heap.size := lt_of_some q2
    have HV := Lib.hid hv
    have HB := Lib.hid hB
    have HQ2 := Lib.hid q2
    have hWs := hB.size
    dsimp only
    rw [← hxx]
    clear hv hrow hB q2 hI hset
    gi_wp2_with (refine ⟨trivial, ?_⟩; gi_at_call 103; refine (CallsIn.inRound l (callsIn_wide.2 HC.out)).mono ?_; rintro e w6 ⟨a6, c6, rfl, ho6, hb6⟩)
    have HL := Lib.hid (leastFam_any (m : Int) a6 c6 _ w6 (own_ints (own_mono ho6 (Nat.zero_le _))) (by omega))
    have HB6 := Lib.hid hb6
    clear ho6 hb6
    gi_wp2_with (refine ⟨trivial, ?_⟩; gi_at_call 51; refine (CallsIn.inRound l (callsIn_wide.2 HL.out)).mono ?_; rintro e w7 ⟨a7, c7, rfl, ho7, hb7⟩; have hb67 : Below W.heap.size W w7 := HB6.out.trans (hb7.mono HB6.out.size); have v7 := (hb67.block _ hDW).trans HV.out; have q7 := (hb67.block _ hRW).trans HQ2.out; have d0 := (blk_cell v7 0).trans (cell2_0 _ _); have d1 := (blk_cell v7 1).trans (cell2_1 _ _); have f0 := blk_frozen v7 0; have f1 := blk_frozen v7 1; have HO7 := Lib.hid ho7; have HB67 := Lib.hid hb67; have V7 := Lib.hid v7; have Q7 := Lib.hid q7; clear ho7 hb7 hb67 v7 q7)
    have hDlo : w.heap.size ≤ W3.heap.size := by have := HS3.out; have := HS2.out; omega
    have hRne : w.heap.size + 1 ≠ W3.heap.size := by have := HS3.out; have := HS2.out; omega
    have hown := HO7.out
    rw [HG.out] at hown
    rw [HG.out]
    have hrow7 : w7.ownsRow w.heap.size 3 1 (.slice a7 (lcL m (sndL (pre ++ [x]))).length c7) (lcL m (sndL (pre ++ [x]))).length ((lcL m (sndL (pre ++ [x]))).map (Value.int .i64)) := own_mono hown (Nat.le_trans hWs HB6.out.size)
    have hbk : HasBlk ((w7.setCell ⟨W3.heap.size, 0, none⟩ (.int .i64 (m : Int))).setCell ⟨W3.heap.size, 1, none⟩ (.slice a7 (lcL m (sndL (pre ++ [x]))).length c7)) W3.heap.size #[.int .i64 (m : Int), .slice a7 (lcL m (sndL (pre ++ [x]))).length c7] 25 := HasBlk.set2 V7.out _ _
    have hnr := (hasBlk_not_row V7.out fam_ne hrow7).symm
    have hr1 := ownsRow_setCell_ne hrow7 (p := ⟨W3.heap.size, 0, none⟩) hnr (.int .i64 (m : Int))
    have hr2 := ownsRow_setCell_ne hr1 (p := ⟨W3.heap.size, 1, none⟩) hnr (.slice a7 (lcL m (sndL (pre ++ [x]))).length c7)
    have hq2 := HasBlk.far (p := ⟨W3.heap.size, 1, none⟩) (HasBlk.far (p := ⟨W3.heap.size, 0, none⟩) Q7.out hRne (.int .i64 (m : Int))) hRne (.slice a7 (lcL m (sndL (pre ++ [x]))).length c7)
    have hbf : Below w.heap.size W ((w7.setCell ⟨W3.heap.size, 0, none⟩ (.int .i64 (m : Int))).setCell ⟨W3.heap.size, 1, none⟩ (.slice a7 (lcL m (sndL (pre ++ [x]))).length c7)) := ((HB67.out.mono hWs).setCell (p := ⟨W3.heap.size, 0, none⟩) hDlo _).setCell (p := ⟨W3.heap.size, 1, none⟩) hDlo _
    exact ⟨(((KeepsOthers.of_below HB67.out).trans (KeepsOthers.setCell _ _ _)).trans (KeepsOthers.setCell _ _ _)).from _, hbf, ⟨⟨_, hbk, hr2⟩, hq2⟩, HB.out.trans hbf⟩
  case done =>
    rintro E ys W hE hys ⟨⟨⟨v, hv, hrow⟩, q2⟩, hB⟩ hK
    rw [sndL_all hys] at hrow
    obtain ⟨ga, gc, rfl⟩ := slice_form hrow
    have d0 := (blk_cell hv 0).trans (cell2_0 _ _)
    have d1 := (blk_cell hv 1).trans (cell2_1 _ _)
    have e0 := (blk_cell q2 0).trans (cell2_0 _ _)
    have e1 := (blk_cell q2 1).trans (cell2_1 _ _)
    have f0 := blk_frozen q2 0
    have f1 := blk_frozen q2 1
    have HR := Lib.hid hrow
    have HB := Lib.hid hB
    have HEs : Hid (w.heap.size ≤ E) := Lib.hid (by have := HS5.out; have := HS4.out; have := HS3.out; have := HS2.out; omega)
    have hb2 : HasBlk ((W.setCell ⟨w.heap.size + 1, 0, none⟩ (.int .i64 (m : Int))).setCell ⟨w.heap.size + 1, 1, none⟩ (.slice ga (lcL m zs).length gc)) (w.heap.size + 1) #[.int .i64 (m : Int), .slice ga (lcL m zs).length gc] 25 := HasBlk.set2 q2 _ _
    have hK2 := (KeepsOthers.setCell (W.setCell ⟨w.heap.size + 1, 0, none⟩ (.int .i64 (m : Int))) ⟨w.heap.size + 1, 1, none⟩ (.slice ga (lcL m zs).length gc)).same E _ ((KeepsOthers.setCell W ⟨w.heap.size + 1, 0, none⟩ (.int .i64 (m : Int))).same E _ hK rfl) rfl
    have hne : w.heap.size + 1 ≠ E := fun e => by subst e; rw [show W.heap[w.heap.size + 1]? = _ from q2] at hK; cases hK
    have HB2 : Hid (HasBlk (((W.setCell ⟨w.heap.size + 1, 0, none⟩ (.int .i64 (m : Int))).setCell ⟨w.heap.size + 1, 1, none⟩ (.slice ga (lcL m zs).length gc)).putObj E (.deferred none)) (w.heap.size + 1) #[.int .i64 (m : Int), .slice ga (lcL m zs).length gc] 25) := Lib.hid ((World.putObj_heap_other (by first | exact hne | exact Ne.symm hne)).trans hb2)
    have g0 := (blk_cell HB2.out 0).trans (cell2_0 _ _)
    have g1 := (blk_cell HB2.out 1).trans (cell2_1 _ _)
    have HK2 := Lib.hid hK2
    have HQ2 := Lib.hid q2
    have HV := Lib.hid hv
    clear hv hrow hB q2 hb2 hK2 hK
    gi_wp2
    refine ⟨by simp, .inl ⟨_, _, rfl, run_takeDeferred HK2.out, ?_⟩⟩
    refine ⟨.agg #[.int .i64 (m : Int), .slice ga (lcL m zs).length gc], by simp [results, Tryd.f93, go_sem, g0, g1], ga, gc, rfl, ?_, ?_⟩
    · have h1 := ownsRow_setCell_ne HR.out (p := ⟨w.heap.size + 1, 0, none⟩) (hasBlk_not_row HQ2.out fam_ne HR.out).symm (.int .i64 (m : Int))
      have h2 := ownsRow_setCell_ne h1 (p := ⟨w.heap.size + 1, 1, none⟩) (hasBlk_not_row HQ2.out fam_ne HR.out).symm (.slice ga (lcL m zs).length gc)
      exact ownsRow_putObj h2 _ HK2.out rfl
    · exact ((HB.out.setCell (p := ⟨w.heap.size + 1, 0, none⟩) (Nat.le_succ _) _).setCell (p := ⟨w.heap.size + 1, 1, none⟩) (Nat.le_succ _) _).trans (belowK_b (w := w) (Nat.le_refl _) _ E _ _ HEs.out HK2.out rfl rfl)
  case stop =>
    rintro D c pre W _ _ h _
    exact h.elim

end Go.Proofs.YtcmpjegfikdofaaDoor
