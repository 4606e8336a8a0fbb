/- It is proved what closed and MeetClose of the program return; conditions: those of each statement. -/
import Derived.RowKit
import Derived.Laws.CopyRow
import Derived.Lib.SlBuf
import Derived.Deep.QuietTactic
import Derived.RangeFuncNested
import Derived.RangeFuncBound
import Derived.RangeFuncCalls
import Derived.RangeFuncLeaves
import Derived.RangeFuncBox
import Derived.RangeFuncWrites
import Derived.StillTailTactics
import Derived.Maps.OwnIn
import Derived.Maps.Ext
import Derived.DeepKeys4
import Derived.MapKept
import Derived.Test.YtckbhhaigpajpaaRows
import Derived.WalkKit
import Derived.WalkSpells
import Derived.ProofKit
import Derived.OpenShut
import Derived.ShutString
import Derived.ChangeOld
import Derived.Below
import Derived.Deep.RegionHeld3
import Derived.BigQuiet
import Derived.Lib.Hide
import Derived.Lib.SmallJoins
import Derived.Outline
import Derived.Laws.MakeOwn
import Derived.Laws.OwnMore
import Derived.IntWalk
import Derived.Maps.AppendAt
import Derived.Deep.RegionLaw
import Derived.Deep.AppendLies
import Derived.Lib.AppendZeros
import Derived.OwnWalk
import Derived.Lib.SlicesCompact
import Derived.Lib.OwnBridge
import Derived.OrdersIn
import Derived.TacticsIn
import Derived.Orders
import Derived.Tactics
import Derived.Shelf.Sort.Plain
import Derived.Shelf.Slices.In.SortNone
import Derived.Shelf.Slices.CompactI
import Derived.Ground.Names2Prog
import Derived.Lib.SliceRun
import Derived.Laws.BitsAllLaws
import Derived.Shelf.RegionOpen
import Derived.Shelf.Abstract
import Derived.OwnWalkIn
import Derived.TacticsInMore
import Derived.LoopNIn
import Derived.LoopIn
import Derived.StillTail
import Derived.StillTactics
import Derived.Shelf.Spec.TrailingZeros
import Derived.Deep.LoopGhost
import Derived.Test.YtckbhhaigpajpaaRaal
import Derived.Test.YtckbhhaigpajpaaRaaa
import Derived.Test.YtckbhhaigpajpaaRaab
import Derived.Test.YtckbhhaigpajpaaRaad
import Derived.Test.YtckbhhaigpajpaaRaae
import Derived.Test.YtckbhhaigpajpaaRaah
import Derived.Test.YtckbhhaigpajpaaRaaj
import Derived.Test.YtckbhhaigpajpaaRaam
import Derived.Test.YtckbhhaigpajpaaRaai
import Derived.Test.YtckbhhaigpajpaaRaac
import Derived.Test.YtckbhhaigpajpaaXm
import Derived.Test.YtckbhhaigpajpaaXo
namespace Go.Proofs.Ytckbhhaigpajpaa
open Go.RowKit Go.Shelf

attribute [local go_sem] Oper.semAt_some

/-- Clubs closed one by one. -/
def clF (l : List Int) : List Int := l.foldl (fun L c => clP c L) []

theorem clF_snoc (l : List Int) (x : Int) : clF (l ++ [x]) = clP x (clF l) := by simp [clF]
theorem clF_is (zs : List Int) : clTo zs zs.length = clF zs := by unfold clTo clF; rw [List.take_length]
theorem clF_len (l : List Int) : (clF l).length + 1 ≤ 2 ^ l.length := by
  have key : ∀ k (l : List Int), l.length = k → (clF l).length + 1 ≤ 2 ^ k := by
    intro k
    induction k with
    | zero => intro l h; rw [List.eq_nil_of_length_eq_zero h]; simp [clF]
    | succ k ih =>
      intro l h
      rcases List.eq_nil_or_concat l with rfl | ⟨l', x, rfl⟩
      · simp at h
      · have hl : l'.length = k := by simpa using h
        rw [List.concat_eq_append, clF_snoc]
        have h1 := ih l' hl
        have h2 := simpZ_le (clF l' ++ (clF l').map (fun z => bits .and .i64 z x) ++ [x])
        unfold clP
        rw [List.length_append, List.length_append, List.length_map, List.length_singleton] at h2
        rw [Nat.pow_succ]
        omega
  exact key _ l rfl

/-- A closed family in a captured variable, its clubs in memory of the call's own. -/
def CloBox (D lo : Nat) (m : Int) (zs : List Int) (W : World) : Prop := ∃ v, HasBlk W D #[.int .i64 m, v] 43 ∧ W.ownsRow lo 3 1 v zs.length (zs.map (Value.int .i64))

theorem clo_ne : (43 : TypeId) ≠ 3 := by decide
theorem CloBox.own {β : Type} (D lo : Nat) (m : Int) (f : β → List Int) : Own (fun s W => CloBox D lo m (f s) W) := by
  rintro s X Y row ⟨v, hv, hr⟩ hg hrow
  refine ⟨v, hv.kept hg (fun e' => ?_), hr.kept hg ?_⟩
  · obtain ⟨o, ho, hc⟩ := hrow D e'
    rw [show X.heap[D]? = _ from hv] at ho; cases ho; cases hc
  · rcases hr.2 with ⟨rfl, _⟩ | ⟨g, cap, cur, rfl, _, hgb, _⟩
    · exact .inl rfl
    · refine .inr fun e' => ?_
      obtain ⟨o, ho, hc⟩ := hrow g (by simpa [Value.ownBlock] using e'.symm)
      rw [hgb] at ho; cases ho; cases hc

theorem CloBox.alloc {W : World} {D lo : Nat} {m : Int} {zs : List Int} (h : CloBox D lo m zs W) (o : Obj) : CloBox D lo m zs (W.alloc o) := by
  obtain ⟨v, h1, h2⟩ := h
  exact ⟨v, h1.alloc o, h2.alloc o⟩

set_option maxRecDepth 100000 in
set_option maxHeartbeats 8000000 in
theorem closed_any (m : Nat) (a : Option Addr) (c : Nat) (zs : List Int) (w : World) (ha : Ints w w.heap.size a zs) (hx : zs.length ≤ 8) (hz : Sets m zs) :
    Calls Try.prog 19 #[.agg #[.int .i64 (m : Int), .slice a zs.length c]] w (RetFam w (m : Int) (clF zs)) := by
  have h16 : 1 ≤ 6 := by omega
  obtain ⟨W2, hW2, q0, q2, hs2, hb2⟩ : ∃ W2, (w.alloc (.cells #[.int .i64 (m : Int), .slice a zs.length c] 25)).alloc (.cells #[.int .i64 0, .slice none 0 0] 43) = W2 ∧ HasBlk W2 w.heap.size #[.int .i64 (m : Int), .slice a zs.length c] 25 ∧ HasBlk W2 (w.heap.size + 1) #[.int .i64 0, .slice none 0 0] 43 ∧ W2.heap.size = w.heap.size + 1 + 1 ∧ Below w.heap.size w W2 :=
    ⟨_, rfl, alloc2_0 w _ _, alloc2_1 w _ _, by simp, below2 w _ _⟩
  obtain ⟨W4, hW4, r4, hs4, hb4⟩ : ∃ W4, W2.alloc (.cells #[.int .i64 (m : Int), .slice none 0 0] 43) = W4 ∧ CloBox W2.heap.size w.heap.size (m : Int) (clF []) W4 ∧ W4.heap.size = W2.heap.size + 1 ∧ Below W2.heap.size W2 W4 :=
    ⟨_, rfl, ⟨_, alloc_new W2 _, World.ownsRow_nil _ _ _ _⟩, by simp, below1 W2 _⟩
  obtain ⟨W5, hW5, r5, hs5, hb5⟩ : ∃ W5, W4.alloc (.cells #[.int .i64 (m : Int), .slice a zs.length c] 25) = W5 ∧ HasBlk W5 W4.heap.size #[.int .i64 (m : Int), .slice a zs.length c] 25 ∧ W5.heap.size = W4.heap.size + 1 ∧ Below W4.heap.size W4 W5 :=
    ⟨_, rfl, alloc_new W4 _, by simp, below1 W4 _⟩
  have r4 : CloBox W2.heap.size w.heap.size (m : Int) (clF []) W5 := by rw [← hW5]; exact r4.alloc _
  have hb24 : Below W2.heap.size W2 W4 := hb4
  have hb25 := hb24.trans (hb5.mono (show W2.heap.size ≤ W4.heap.size by omega))
  have x0 := (blk_cell q0 0).trans (cell2_0 _ _)
  have x1 := (blk_cell q0 1).trans (cell2_1 _ _)
  have y0 := (blk_cell (show HasBlk W4 w.heap.size _ 25 from (hb24.block _ (by omega)).trans q0) 0).trans (cell2_0 _ _)
  have y1 := (blk_cell (show HasBlk W4 w.heap.size _ 25 from (hb24.block _ (by omega)).trans q0) 1).trans (cell2_1 _ _)
  have HB5 := Lib.hid (hb2.trans (hb25.mono (by omega)))
  have Q2 : Hid (HasBlk W5 (w.heap.size + 1) #[.int .i64 0, .slice none 0 0] 43) := Lib.hid ((hb25.block _ (by omega)).trans q2)
  have HR4 := Lib.hid r4
  have HS5 := Lib.hid hs5
  have HS2 := Lib.hid hs2
  rw [hs4] at r5
  have hst := clubsP_stops (IsSet m) (6 - 1) (by omega) (W2.heap.size + 1) w.heap.size a c zs (by omega) hz.at_ W5 (by omega) (by omega) ((blk_cell r5 1).trans (cell2_1 _ _)) (ha.below HB5.out)
  have HST := Lib.hid hst
  have HW5 := Lib.hid hW5
  have HS4 := Lib.hid hs4
  have HW4 := Lib.hid hW4
  rw [← hW4] at y0 y1
  clear ha q0 q2 r4 r5 hs5 hb5 hst hW5 hb24 hb25 hb2 hb4 hs2 hs4 hW4
  refine (callsIn_wide (n := 6)).1 ?_
  refine callsIn_of_wp_marks Try.func19 rfl trivial ?_ rfl
  simp only [Try.ntmps19, List.size_toArray, List.length_cons, List.length_nil, Nat.reduceAdd, Nat.reduceSub, Array.replicate_succ, Array.replicate_zero, List.push_toArray, List.append_toArray, List.nil_append, List.cons_append]
  gi_wp2_with (refine ⟨trivial, ?_⟩; gi_at_call 28; refine (callsIn_wide.2 (clubs_any _ _ _ _ _)).mono ?_; rintro e w' ⟨rfl, rfl⟩)
  rw [HW4.out, HW5.out]
  clear hW2
  refine wpIn_rangeFunc_ownG rfl h16 (gf := 44) (lb := #[.pointer (some ⟨W2.heap.size + 1, 0, none⟩)]) rfl trivial (enters_of Try.func44 (by kernel_rfl) rfl)
    HST.out belowK_t (belowK_b (by have := HS5.out; have := HS4.out; have := HS2.out; omega)) (Below.refl _ _) (fun _ => rfl)
    (fun pre W => (CloBox W2.heap.size w.heap.size (m : Int) (clF (sndL pre)) W ∧ HasBlk W (w.heap.size + 1) #[.int .i64 0, .slice none 0 0] 43) ∧ Below w.heap.size w W)
    (fun _ _ _ => False)
    (OwnFrom.and (OwnFrom.and (Own.from (CloBox.own _ _ _ (fun pre : List { p // IsSet m p } => clF (sndL pre))) _) (Own.from (hasBlk_own _ _ _) _)) (ownFrom_below (Nat.le_refl _) (by have := HS5.out; have := HS4.out; have := HS2.out; omega)))
    (fun _ _ _ _ _ hs _ _ => hs)
    ⟨⟨HR4.out, Q2.out⟩, HB5.out⟩
    (fun x => { tmps := #[.agg #[.int .i64 (m : Int), .slice a zs.length c], .pointer (some ⟨w.heap.size, 0, none⟩), .pointer (some ⟨w.heap.size + 1, 0, none⟩), .pointer (some ⟨W2.heap.size, 0, none⟩), undef, .int .i64 x.1.2, .pointer (some ⟨w.heap.size, 0, none⟩), .int .i64 (m : Int), .agg #[.int .i64 (m : Int), .slice none 0 0], .agg #[.int .i64 (m : Int), .slice none 0 0], .agg #[.int .i64 (m : Int), .slice a zs.length c], .func (.func 44) #[] #[.pointer (some ⟨W2.heap.size + 1, 0, none⟩)], .int .i64 (x.1.1 : Int), .int .i64 x.1.2, undef, undef, undef, undef], defers := [] }) ?assign ?body ?done ?stop
  case assign =>
    intro l x W K hK
    gi_wp2
    exact hK
  case body =>
    rintro l pre ⟨⟨xi, xz⟩, hx0, hx1⟩ W ⟨⟨⟨v, hv, hrow⟩, q2⟩, hB⟩ hlt
    dsimp only at hx0 hx1
    obtain ⟨z, rfl⟩ : ∃ z : Nat, xz = (z : Int) := ⟨xz.toNat, by omega⟩
    have hz2 : z < 2 ^ m := by rw [Int.toNat_natCast] at hx1; exact hx1
    obtain ⟨x, hxx⟩ : ∃ x : { p // IsSet m p }, x = ⟨(xi, (z : Int)), hx0, hx1⟩ := ⟨_, rfl⟩
    have hxz : x.1.2 = (z : Int) := by rw [hxx]
    have HG : Hid (clP (z : Int) (clF (sndL pre)) = clF (sndL (pre ++ [x]))) := Lib.hid (by rw [sndL_snoc, hxz]; exact (clF_snoc _ _).symm)
    have hL : (clF (sndL pre)).length ≤ 300 := by
      have h1 := clF_len (sndL pre)
      have h2 : (sndL pre).length = pre.length := by simp [sndL]
      have h3 := Nat.pow_le_pow_right (n := 2) (by decide) (show (sndL pre).length ≤ 8 by omega)
      omega
    obtain ⟨ga, gc, rfl⟩ := slice_form hrow
    have hI : Ints W W.heap.size ga (clF (sndL pre)) := own_ints hrow
    have HC := Lib.hid (closedWith_any (m : Int) (z : Int) ga gc (clF (sndL pre)) W hI hL)
    have d0 := (blk_cell hv 0).trans (cell2_0 _ _)
    have d1 := (blk_cell hv 1).trans (cell2_1 _ _)
    have hDW : W2.heap.size < W.heap.size := lt_of_some hv
    have hRW : w.heap.size + 1 < W.heap.size := lt_of_some q2
    have HV := Lib.hid hv
    have HB := Lib.hid hB
    have HQ2 := Lib.hid q2
    have hWs := hB.size
    dsimp only
    rw [← hxx]
    clear hv hrow hB q2 hI hL
    gi_wp2_with (refine ⟨trivial, ?_⟩; gi_at_call 37; refine (CallsIn.inRound l (callsIn_wide.2 HC.out)).mono ?_; rintro e w7 ⟨a7, c7, rfl, ho7, hb67⟩; have v7 := (hb67.block _ hDW).trans HV.out; have q7 := (hb67.block _ hRW).trans HQ2.out; have d0 := (blk_cell v7 0).trans (cell2_0 _ _); have d1 := (blk_cell v7 1).trans (cell2_1 _ _); have f0 := blk_frozen v7 0; have f1 := blk_frozen v7 1; have HO7 := Lib.hid ho7; have HB67 := Lib.hid hb67; have V7 := Lib.hid v7; have Q7 := Lib.hid q7; clear ho7 hb67 v7 q7)
    have hDlo : w.heap.size ≤ W2.heap.size := by have := HS2.out; omega
    have hRne : w.heap.size + 1 ≠ W2.heap.size := by have := HS2.out; omega
    have hown := HO7.out
    rw [HG.out] at hown
    rw [HG.out]
    have hrow7 : w7.ownsRow w.heap.size 3 1 (.slice a7 (clF (sndL (pre ++ [x]))).length c7) (clF (sndL (pre ++ [x]))).length ((clF (sndL (pre ++ [x]))).map (Value.int .i64)) := own_mono hown hWs
    have hbk : HasBlk ((w7.setCell ⟨W2.heap.size, 0, none⟩ (.int .i64 (m : Int))).setCell ⟨W2.heap.size, 1, none⟩ (.slice a7 (clF (sndL (pre ++ [x]))).length c7)) W2.heap.size #[.int .i64 (m : Int), .slice a7 (clF (sndL (pre ++ [x]))).length c7] 43 := HasBlk.set2 V7.out _ _
    have hnr := (hasBlk_not_row V7.out clo_ne hrow7).symm
    have hr1 := ownsRow_setCell_ne hrow7 (p := ⟨W2.heap.size, 0, none⟩) hnr (.int .i64 (m : Int))
    have hr2 := ownsRow_setCell_ne hr1 (p := ⟨W2.heap.size, 1, none⟩) hnr (.slice a7 (clF (sndL (pre ++ [x]))).length c7)
    have hq2 := HasBlk.far (p := ⟨W2.heap.size, 1, none⟩) (HasBlk.far (p := ⟨W2.heap.size, 0, none⟩) Q7.out hRne (.int .i64 (m : Int))) hRne (.slice a7 (clF (sndL (pre ++ [x]))).length c7)
    have hbf : Below w.heap.size W ((w7.setCell ⟨W2.heap.size, 0, none⟩ (.int .i64 (m : Int))).setCell ⟨W2.heap.size, 1, none⟩ (.slice a7 (clF (sndL (pre ++ [x]))).length c7)) := ((HB67.out.mono hWs).setCell (p := ⟨W2.heap.size, 0, none⟩) hDlo _).setCell (p := ⟨W2.heap.size, 1, none⟩) hDlo _
    exact ⟨(((KeepsOthers.of_below HB67.out).trans (KeepsOthers.setCell _ _ _)).trans (KeepsOthers.setCell _ _ _)).from _, hbf, ⟨⟨_, hbk, hr2⟩, hq2⟩, HB.out.trans hbf⟩
  case done =>
    rintro E ys W hE hys ⟨⟨⟨v, hv, hrow⟩, q2⟩, hB⟩ hK
    rw [sndL_all hys] at hrow
    obtain ⟨ga, gc, rfl⟩ := slice_form hrow
    have d0 := (blk_cell hv 0).trans (cell2_0 _ _)
    have d1 := (blk_cell hv 1).trans (cell2_1 _ _)
    have e0 := (blk_cell q2 0).trans (cell2_0 _ _)
    have e1 := (blk_cell q2 1).trans (cell2_1 _ _)
    have f0 := blk_frozen q2 0
    have f1 := blk_frozen q2 1
    have HR := Lib.hid hrow
    have HB := Lib.hid hB
    have HEs : Hid (w.heap.size ≤ E) := Lib.hid (by have := HS5.out; have := HS4.out; have := HS2.out; omega)
    have hb2 : HasBlk ((W.setCell ⟨w.heap.size + 1, 0, none⟩ (.int .i64 (m : Int))).setCell ⟨w.heap.size + 1, 1, none⟩ (.slice ga (clF zs).length gc)) (w.heap.size + 1) #[.int .i64 (m : Int), .slice ga (clF zs).length gc] 43 := HasBlk.set2 q2 _ _
    have hK2 := (KeepsOthers.setCell (W.setCell ⟨w.heap.size + 1, 0, none⟩ (.int .i64 (m : Int))) ⟨w.heap.size + 1, 1, none⟩ (.slice ga (clF zs).length gc)).same E _ ((KeepsOthers.setCell W ⟨w.heap.size + 1, 0, none⟩ (.int .i64 (m : Int))).same E _ hK rfl) rfl
    have hne : w.heap.size + 1 ≠ E := fun e => by subst e; rw [show W.heap[w.heap.size + 1]? = _ from q2] at hK; cases hK
    have HB2 : Hid (HasBlk (((W.setCell ⟨w.heap.size + 1, 0, none⟩ (.int .i64 (m : Int))).setCell ⟨w.heap.size + 1, 1, none⟩ (.slice ga (clF zs).length gc)).putObj E (.deferred none)) (w.heap.size + 1) #[.int .i64 (m : Int), .slice ga (clF zs).length gc] 43) := Lib.hid ((World.putObj_heap_other (by first | exact hne | exact Ne.symm hne)).trans hb2)
    have g0 := (blk_cell HB2.out 0).trans (cell2_0 _ _)
    have g1 := (blk_cell HB2.out 1).trans (cell2_1 _ _)
    have HK2 := Lib.hid hK2
    have HQ2 := Lib.hid q2
    have HV := Lib.hid hv
    clear hv hrow hB q2 hb2 hK2 hK
    gi_wp2
    refine ⟨by simp, .inl ⟨_, _, rfl, run_takeDeferred HK2.out, ?_⟩⟩
    refine ⟨.agg #[.int .i64 (m : Int), .slice ga (clF zs).length gc], by simp [results, Try.f19, go_sem, g0, g1], ga, gc, rfl, ?_, ?_⟩
    · have h1 := ownsRow_setCell_ne HR.out (p := ⟨w.heap.size + 1, 0, none⟩) (hasBlk_not_row HQ2.out clo_ne HR.out).symm (.int .i64 (m : Int))
      have h2 := ownsRow_setCell_ne h1 (p := ⟨w.heap.size + 1, 1, none⟩) (hasBlk_not_row HQ2.out clo_ne HR.out).symm (.slice ga (clF zs).length gc)
      exact ownsRow_putObj h2 _ HK2.out rfl
    · exact ((HB.out.setCell (p := ⟨w.heap.size + 1, 0, none⟩) (Nat.le_succ _) _).setCell (p := ⟨w.heap.size + 1, 1, none⟩) (Nat.le_succ _) _).trans (belowK_b (w := w) (Nat.le_refl _) _ E _ _ HEs.out HK2.out rfl rfl)
  case stop =>
    rintro D c pre W _ _ h _
    exact h.elim

theorem cloZ_len (m : Int) (zs : List Int) : (cloZ m zs).length ≤ 1048576 := by
  unfold cloZ
  split
  · rename_i h
    unfold cloB at h
    rw [Bool.and_eq_true, decide_eq_true_eq] at h
    omega
  · simp

set_option maxRecDepth 100000 in
set_option maxHeartbeats 4000000 in
theorem implMeetClose_any (m : Int) (a : Option Addr) (c : Nat) (zs : List Int) (w : World) (ha : Ints w w.heap.size a zs) (hx : zs.length ≤ 1048576) :
    Calls Try.prog 6 #[.agg #[.int .i64 m, .slice a zs.length c]] w (RetFB w (cloM m zs) (cloZ m zs) (cloB m zs)) := by
  have HB0 := Lib.hid (below2 w (.cells #[.int .i64 m, .slice a zs.length c] 25) (.cells #[.int .i64 0, .slice none 0 0] 25))
  have HA := Lib.hid (ha.below HB0.out)
  clear ha
  cases hf : famIn m zs
  · have HF := Lib.hid hf
    have HZ : Hid (cloB m zs = false) := Lib.hid (by unfold cloB; rw [hf]; rfl)
    clear hf
    go_enter Try.func6, Try.ntmps6
    go_wp2_with fail
    refine (implFamilyIn_any _ _ _ zs _ (HA.out.mono (by simp; omega)) hx).mono ?_
    rintro e w1 ⟨rfl, hb⟩
    rw [HF.out]
    have b2 : w1.heap[w.heap.size + 1]? = some (.cells #[.int .i64 0, .slice none 0 0] 25 (0, 0)) := (hb.block _ (by simp)).trans (alloc2_1 w _ _)
    have d0 := blk_cell b2 0
    have d1 := blk_cell b2 1
    have f0 := blk_frozen b2 0
    have f1 := blk_frozen b2 1
    simp only [cell2_0, cell2_1] at d0 d1
    have HB := Lib.hid (HB0.out.trans (hb.mono (by simp; omega)))
    clear hb b2
    go_wp2
    unfold cloM cloZ
    rw [HZ.out]
    refine bodyPost_ret (v := .tuple #[.agg #[.int .i64 0, .slice none 0 0], .bool false]) (by simp [results, Try.results6, go_sem, d0, d1]) rfl ?_
    exact ⟨none, 0, rfl, own_nil _ _, (HB.out.setCell (p := ⟨w.heap.size + 1, 0, none⟩) (by simp) _).setCell (p := ⟨w.heap.size + 1, 1, none⟩) (by simp) _⟩
  · have HF := Lib.hid hf
    obtain ⟨k, rfl, hk1, hk6, hset, hl8⟩ := fam_nat2 hf
    have HCL : Hid (cloB (k : Int) zs = decide ((clF zs).length ≤ 8)) := Lib.hid (by unfold cloB; rw [hf, clF_is]; rfl)
    have HCO := Lib.hid (fun W (hi : Ints W W.heap.size a zs) => closed_any k a c zs W hi hl8 hset)
    have HZZ : Hid ((clF zs).length ≤ 8 → cloM (k : Int) zs = (k : Int) ∧ cloZ (k : Int) zs = clF zs) := Lib.hid (fun h => by
      have e : cloB (k : Int) zs = true := by rw [HCL.out, decide_eq_true h]
      unfold cloM cloZ
      rw [e, clF_is]
      exact ⟨rfl, rfl⟩)
    have HZN : Hid (¬ (clF zs).length ≤ 8 → cloM (k : Int) zs = 0 ∧ cloZ (k : Int) zs = []) := Lib.hid (fun h => by
      have e : cloB (k : Int) zs = false := by rw [HCL.out, decide_eq_false h]
      unfold cloM cloZ
      rw [e]
      exact ⟨rfl, rfl⟩)
    clear hf hset
    go_enter Try.func6, Try.ntmps6
    go_wp2_with fail
    refine (implFamilyIn_any _ _ _ zs _ (HA.out.mono (by simp; omega)) hx).mono ?_
    rintro e w1 ⟨rfl, hb⟩
    rw [HF.out]
    have b0 : w1.heap[w.heap.size]? = some (.cells #[.int .i64 (k : Int), .slice a zs.length c] 25 (0, 0)) := (hb.block _ (by simp; omega)).trans (alloc2_0 w _ _)
    have b2 : w1.heap[w.heap.size + 1]? = some (.cells #[.int .i64 0, .slice none 0 0] 25 (0, 0)) := (hb.block _ (by simp)).trans (alloc2_1 w _ _)
    have x0 := blk_cell b0 0
    have x1 := blk_cell b0 1
    simp only [cell2_0, cell2_1] at x0 x1
    have HB := Lib.hid (HB0.out.trans (hb.mono (by simp; omega)))
    have z1 : w.heap.size + 1 < w1.heap.size := by have := hb.size; simp at this; omega
    have HA1 := Lib.hid ((HA.out.below (hb.mono (by simp; omega))).mono (B' := w1.heap.size) (by omega))
    have B2 := Lib.hid b2
    clear hb b0 b2
    go_wp2_with fail
    refine (HCO.out _ HA1.out).mono ?_
    rintro e w2 ⟨a2, c2, rfl, ho2, hb2⟩
    obtain ⟨L, hL⟩ : ∃ L, L = clF zs := ⟨_, rfl⟩
    rw [← hL] at ho2 HCL HZZ HZN
    have HLN : Hid (L = clF zs) := Lib.hid hL
    rw [← hL]
    clear hL
    obtain ⟨W3, hW3, q3, q1, hs3, hb3⟩ : ∃ W3, w2.alloc (.cells #[.int .i64 (k : Int), .slice a2 L.length c2] 43) = W3 ∧ HasBlk W3 w2.heap.size #[.int .i64 (k : Int), .slice a2 L.length c2] 43 ∧ HasBlk W3 (w.heap.size + 1) #[.int .i64 0, .slice none 0 0] 25 ∧ W3.heap.size = w2.heap.size + 1 ∧ Below w2.heap.size w2 W3 :=
      ⟨_, rfl, alloc_new w2 _, HasBlk.alloc (show HasBlk w2 (w.heap.size + 1) _ _ from (hb2.block _ z1).trans B2.out) _, by simp, below1 w2 _⟩
    have y0 := (blk_cell q3 0).trans (cell2_0 _ _)
    have y1 := (blk_cell q3 1).trans (cell2_1 _ _)
    have d0 := (blk_cell q1 0).trans (cell2_0 _ _)
    have d1 := (blk_cell q1 1).trans (cell2_1 _ _)
    have f0 := blk_frozen q1 0
    have f1 := blk_frozen q1 1
    rw [← hW3] at y0 y1 d0 d1 f0 f1
    have HO3 : Hid (OwnI W3 w1.heap.size (.slice a2 L.length c2) L) := Lib.hid (own_below ho2 hb3 (Nat.le_refl _))
    have HB3 := Lib.hid ((HB.out.trans (hb2.mono (by omega))).trans (hb3.mono (by have := hb2.size; omega)))
    have HW3 := Lib.hid hW3
    have HZ1 := Lib.hid z1
    clear ho2 hb2 q3 q1 hs3 hb3 hW3 z1
    by_cases h8 : L.length ≤ 8
    · obtain ⟨e1, e2⟩ := HZZ.out h8
      have HE1 := Lib.hid e1
      have HE2 := Lib.hid e2
      have h8I : (L.length : Int) ≤ 8 := by omega
      clear e1 e2 HZZ HZN
      go_wp2
      rw [HE1.out, HE2.out, HCL.out, decide_eq_true h8]
      rw [HW3.out] at d0 d1 f0 f1 ⊢
      refine bodyPost_ret (v := .tuple #[.agg #[.int .i64 (k : Int), .slice a2 L.length c2], .bool true]) (by simp [results, Try.results6, go_sem, d0, d1]) rfl ?_
      refine ⟨a2, c2, rfl, ?_, ?_⟩
      · exact own_mono (ownsRow_setCell_below (ownsRow_setCell_below HO3.out (a := ⟨w.heap.size + 1, 0, none⟩) HZ1.out _) (a := ⟨w.heap.size + 1, 1, none⟩) HZ1.out _) (by have := HZ1.out; omega)
      · exact (HB3.out.setCell (p := ⟨w.heap.size + 1, 0, none⟩) (by simp) _).setCell (p := ⟨w.heap.size + 1, 1, none⟩) (by simp) _
    · obtain ⟨e1, e2⟩ := HZN.out h8
      have HE1 := Lib.hid e1
      have HE2 := Lib.hid e2
      have h8I : (8 : Int) < (L.length : Int) := by omega
      clear e1 e2 HZZ HZN
      go_wp2
      rw [HE1.out, HE2.out, HCL.out, decide_eq_false h8]
      rw [HW3.out] at d0 d1 f0 f1 ⊢
      refine bodyPost_ret (v := .tuple #[.agg #[.int .i64 0, .slice none 0 0], .bool false]) (by simp [results, Try.results6, go_sem, d0, d1]) rfl ?_
      exact ⟨none, 0, rfl, own_nil _ _, (HB3.out.setCell (p := ⟨w.heap.size + 1, 0, none⟩) (by simp) _).setCell (p := ⟨w.heap.size + 1, 1, none⟩) (by simp) _⟩

end Go.Proofs.Ytckbhhaigpajpaa
