/- It is proved what RankSpread of the program returns; conditions: those of each statement. -/
import Derived.RowKit
import Derived.Laws.CopyRow
import Derived.Lib.SlBuf
import Derived.Deep.QuietTactic
import Derived.RangeFuncNested
import Derived.RangeFuncBound
import Derived.RangeFuncCalls
import Derived.RangeFuncLeaves
import Derived.RangeFuncBox
import Derived.RangeFuncWrites
import Derived.StillTailTactics
import Derived.Maps.OwnIn
import Derived.Maps.Ext
import Derived.DeepKeys4
import Derived.MapKept
import Derived.Test.YtlfbpaphjkbcmaaRows
import Derived.WalkKit
import Derived.WalkSpells
import Derived.ProofKit
import Derived.OpenShut
import Derived.ShutString
import Derived.ChangeOld
import Derived.Below
import Derived.Deep.RegionHeld3
import Derived.BigQuiet
import Derived.Lib.Hide
import Derived.Lib.SmallJoins
import Derived.Outline
import Derived.Laws.MakeOwn
import Derived.Laws.OwnMore
import Derived.IntWalk
import Derived.Maps.AppendAt
import Derived.Deep.RegionLaw
import Derived.Deep.AppendLies
import Derived.Lib.AppendZeros
import Derived.OwnWalk
import Derived.Lib.SlicesCompact
import Derived.Lib.OwnBridge
import Derived.OrdersIn
import Derived.TacticsIn
import Derived.Shelf.Sort.Plain
import Derived.Shelf.Slices.In.SortNone
import Derived.Shelf.Slices.CompactI
import Derived.Ground.Names2Prog
import Derived.Lib.SliceRun
import Derived.Laws.BitsAllLaws
import Derived.Shelf.RegionOpen
import Derived.Shelf.Abstract
import Derived.OwnWalkIn
import Derived.TacticsInMore
import Derived.LoopNIn
import Derived.LoopIn
import Derived.StillTail
import Derived.StillTactics
import Derived.Shelf.Spec.TrailingZeros
import Derived.Test.YtlfbpaphjkbcmaaAi
import Derived.Test.YtlfbpaphjkbcmaaB
import Derived.Test.YtlfbpaphjkbcmaaC
import Derived.Test.YtlfbpaphjkbcmaaD
import Derived.Test.YtlfbpaphjkbcmaaE
import Derived.Test.YtlfbpaphjkbcmaaF
import Derived.Test.YtlfbpaphjkbcmaaFb
import Derived.Test.YtlfbpaphjkbcmaaGa
import Derived.Test.YtlfbpaphjkbcmaaGb
import Derived.Test.YtlfbpaphjkbcmaaIa
import Derived.Test.YtlfbpaphjkbcmaaJp
import Derived.Test.YtlfbpaphjkbcmaaKc
import Derived.Test.YtlfbpaphjkbcmaaKd
import Derived.Test.YtlfbpaphjkbcmaaKh
import Derived.Test.YtlfbpaphjkbcmaaKi
import Derived.Test.YtlfbpaphjkbcmaaP
import Derived.Test.YtlfbpaphjkbcmaaSa
import Derived.Test.YtlfbpaphjkbcmaaTb
import Derived.Test.YtlfbpaphjkbcmaaWf
import Derived.Test.YtlfbpaphjkbcmaaWg
import Derived.Test.YtlfbpaphjkbcmaaZb
namespace Go.Proofs.Ytlfbpaphjkbcmaa
open Go.RowKit Go.Shelf

attribute [local go_sem] Oper.semAt_some

/-- The even ones among the first sets. -/
def spP (N : Nat) (zs : List Int) (ys : List (PrtF N)) : List Int := nI ((valsF ys).filter (spB zs))

theorem spP_yes {N : Nat} {zs : List Int} {ys : List (PrtF N)} {x : PrtF N} (h : spB zs x.1 = true) : spP N zs (ys ++ [x]) = spP N zs ys ++ [(x.1 : Int)] := by
  unfold spP
  rw [valsF_snoc, List.filter_append, List.filter_cons, if_pos h, List.filter_nil, nI_snoc']

theorem spP_no {N : Nat} {zs : List Int} {ys : List (PrtF N)} {x : PrtF N} (h : spB zs x.1 = false) : spP N zs (ys ++ [x]) = spP N zs ys := by
  unfold spP
  rw [valsF_snoc, List.filter_append, List.filter_cons, if_neg (by rw [h]; simp), List.filter_nil, List.append_nil]

theorem spP_all {m : Nat} {zs : List Int} {ys : List (PrtF (2 ^ m))} (h : valsF ys = List.range (2 ^ m)) : spP (2 ^ m) zs ys = spL m zs := by
  unfold spP spL spTo
  rw [h]
  rfl

theorem spP_len {N : Nat} (zs : List Int) (ys : List (PrtF N)) : (spP N zs ys).length ≤ ys.length := by
  unfold spP
  rw [nI_len']
  exact Nat.le_trans (List.length_filter_le _ _) (by simp [valsF])

theorem club_ne : (48 : TypeId) ≠ 3 := by decide
set_option maxRecDepth 100000 in
set_option maxHeartbeats 4000000 in
theorem implRankSpread_any (m : Int) (a : Option Addr) (c : Nat) (zs : List Int) (w : World) (ha : Ints w w.heap.size a zs) (hx : zs.length ≤ 1048576) :
    Calls Try.prog 23 #[.agg #[.int .i64 m, .slice a zs.length c]] w (RetSB w (spZ m zs) (famIn m zs)) := by
  obtain ⟨i0, hi, hz0, hz1, hz2⟩ := info_parts Try.info3
  unfold spZ
  have HB0 := Lib.hid (below1 w (.cells #[.int .i64 m, .slice a zs.length c] 28))
  have HA := Lib.hid (ha.below HB0.out)
  have HA0 := Lib.hid ha
  clear ha
  cases hf : famIn m zs
  · have HF := Lib.hid hf
    clear hf
    go_enter Try.func23, Try.ntmps23
    go_wp2_with fail
    refine (implFamilyIn_any _ _ _ zs _ (HA.out.mono (by simp)) hx).mono ?_
    rintro e w1 ⟨rfl, hb⟩
    rw [HF.out]
    have HB := Lib.hid (HB0.out.trans (hb.mono (by simp)))
    clear hb
    go_wp2
    go_ret2
    exact ⟨none, 0, rfl, World.ownsRow_nil _ _ _ _, HB.out⟩
  · have HF := Lib.hid hf
    obtain ⟨m, rfl, hm1, hm6, hset, hl8⟩ := fam_nat hf
    have hp64 : 2 ^ m ≤ 64 := Nat.pow_le_pow_right (n := 2) (by decide) hm6
    have HFI := Lib.hid (implFamilyIn_any (m : Int) a c zs _ (HA.out.mono (show w.heap.size ≤ (w.alloc (.cells #[.int .i64 (m : Int), .slice a zs.length c] 28)).heap.size by simp)) hx)
    have HZ6 : Hid (∀ z ∈ zs, 0 ≤ z ∧ z.toNat < 64) := Lib.hid (fun z h => ⟨(hset z h).1, by have := (hset z h).2; omega⟩)
    have h16 : 1 ≤ 6 := by omega
    clear hf hset
    refine (callsIn_wide (n := 6)).1 ?_
    refine callsIn_of_wp_marks Try.func23 rfl trivial ?_ rfl
    simp only [Try.ntmps23, List.size_toArray, List.length_cons, List.length_nil, Nat.reduceAdd, Nat.reduceSub, Array.replicate_succ, Array.replicate_zero, List.push_toArray, List.append_toArray, List.nil_append, List.cons_append]
    gi_wp2_with fail
    refine ⟨trivial, ?_⟩
    refine (callsIn_wide.2 HFI.out).mono ?_
    rintro e w1 ⟨rfl, hb⟩
    rw [HF.out]
    have b0 : HasBlk w1 w.heap.size #[.int .i64 (m : Int), .slice a zs.length c] 28 := (hb.block _ (by simp)).trans (alloc_new w _)
    obtain ⟨W2, hW2, q0, q1, hs2, hb2⟩ : ∃ W2, w1.alloc (.cells #[.slice none 0 0] 22) = W2 ∧ HasBlk W2 w.heap.size #[.int .i64 (m : Int), .slice a zs.length c] 28 ∧ IntBox w1.heap.size w.heap.size [] W2 ∧ W2.heap.size = w1.heap.size + 1 ∧ Below w1.heap.size w1 W2 :=
      ⟨_, rfl, HasBlk.alloc b0 _, IntBox.start w1 w.heap.size, by simp, below1 w1 _⟩
    obtain ⟨W3, hW3, r3, r2, r1, hs3, hb3⟩ : ∃ W3, (W2.alloc (.cells #[.int .i64 (m : Int), .slice a zs.length c] 28)).alloc (.cells #[.int .i64 ((2 ^ m - 1 : Nat) : Int)] 48) = W3 ∧ HasBlk W3 (w1.heap.size + 1 + 1) #[.int .i64 ((2 ^ m - 1 : Nat) : Int)] 48 ∧ HasBlk W3 w.heap.size #[.int .i64 (m : Int), .slice a zs.length c] 28 ∧ IntBox w1.heap.size w.heap.size [] W3 ∧ W3.heap.size = W2.heap.size + 1 + 1 ∧ Below W2.heap.size W2 W3 :=
      ⟨_, rfl, by have := alloc2_1 W2 (.cells #[.int .i64 (m : Int), .slice a zs.length c] 28) (.cells #[.int .i64 ((2 ^ m - 1 : Nat) : Int)] 48); rwa [hs2] at this, (HasBlk.alloc q0 _).alloc _, (q1.alloc _).alloc _, by simp, below2 W2 _ _⟩
    have y0 := (blk_cell q0 0).trans (cell2_0 _ _)
    have y1 := (blk_cell q0 1).trans (cell2_1 _ _)
    rw [← hW2] at y0 y1
    have hZ1 : w.heap.size < w1.heap.size := lt_of_some b0
    have hB1 : Below w.heap.size w w1 := HB0.out.trans (hb.mono (by simp))
    have hB3 : Below w.heap.size w W3 := (hB1.trans (hb2.mono (by omega))).trans (hb3.mono (by omega))
    have hst := partsF_stops (6 - 1) (by omega) (w1.heap.size + 1 + 1) m (by omega) ((2 ^ m - 1 : Nat) : Int) rfl W3 (by omega) ((blk_cell r3 0).trans (cell1_0 _))
    have HQ3 := Lib.hid r3
    have HST := Lib.hid hst
    have HW2 := Lib.hid hW2
    have HW3 := Lib.hid hW3
    have HR1 := Lib.hid r1
    have HR2 := Lib.hid r2
    have HB3 := Lib.hid hB3
    have HS2 := Lib.hid hs2
    have HS3 := Lib.hid hs3
    have HZ1 := Lib.hid hZ1
    clear hb b0 q0 q1 hb2 r3 r2 r1 hb3 hB1 hB3 hst hW2 hW3 hs2 hs3 hZ1
    gi_wp2_with (first
      | (refine ⟨trivial, ?_⟩; gi_at_call 36; refine (callsIn_wide.2 (full8_any _ _ _ _ _ (by omega))).mono ?_; rintro e w' ⟨rfl, rfl⟩)
      | (refine ⟨trivial, ?_⟩; gi_at_call 37; refine (callsIn_wide.2 (partsW_any _ _)).mono ?_; rintro e w' ⟨rfl, rfl⟩))
    rw [HW2.out, HW3.out]
    clear y0 y1
    refine wpIn_rangeFunc_ownG rfl h16 (gf := 48) (lb := #[.pointer (some ⟨w1.heap.size + 1 + 1, 0, none⟩)]) rfl trivial (enters_of Try.func48 (by kernel_rfl) rfl)
      HST.out (fun h k e => k (h e)) ?keepc (Below.refl _ _) (fun _ => rfl)
      (fun pre W => ((IntBox w1.heap.size w.heap.size (spP (2 ^ m) zs pre) W ∧ HasBlk W w.heap.size #[.int .i64 (m : Int), .slice a zs.length c] 28) ∧ HasBlk W (w1.heap.size + 1 + 1) #[.int .i64 ((2 ^ m - 1 : Nat) : Int)] 48) ∧ Below w.heap.size w W)
      (fun _ _ _ => False)
      (OwnFrom.and (OwnFrom.and (OwnFrom.and (Own.from (IntBox.own _ _ (fun pre : List (PrtF (2 ^ m)) => spP (2 ^ m) zs pre)) _) (Own.from (hasBlk_own _ _ _) _)) (Own.from (hasBlk_own _ _ _) _)) (ownFrom_below (Nat.le_refl _) (by have := HZ1.out; have := HS2.out; have := HS3.out; omega)))
      (fun _ _ _ _ _ hs _ _ => hs)
      ⟨⟨⟨HR1.out, HR2.out⟩, HQ3.out⟩, HB3.out⟩
      (fun x => { tmps := #[.agg #[.int .i64 (m : Int), .slice a zs.length c], .pointer (some ⟨w.heap.size, 0, none⟩), .slice none 0 0, .bool false, .pointer (some ⟨w1.heap.size, 0, none⟩), .int .i64 (x.1 : Int), .agg #[.int .i64 (m : Int), .slice a zs.length c], .bool true, .bool false, .agg #[.int .i64 (m : Int), .slice a zs.length c], .int .i64 ((2 ^ m - 1 : Nat) : Int), .func (.func 48) #[] #[.pointer (some ⟨w1.heap.size + 1 + 1, 0, none⟩)], .int .i64 (x.1 : Int), undef, undef, undef, undef, undef, undef, undef, undef], defers := [] }) ?assign ?body ?done ?stop
    case keepc =>
      intro W' l' o o' hl' ho hoc _ hc
      have hne : w1.heap.size + 1 + 1 ≠ l' := by have := HS3.out; have := HS2.out; omega
      rw [← hc]
      exact World.cell?_of_block (World.putObj_heap_other hne)
    case assign =>
      intro l x W K hK
      gi_wp2
      exact hK
    case body =>
      rintro l pre ⟨x, hxN⟩ W ⟨⟨⟨hbox, q1⟩, q3⟩, hB⟩ hlt
      obtain ⟨xx, hxx⟩ : ∃ xx : PrtF (2 ^ m), xx = ⟨x, hxN⟩ := ⟨_, rfl⟩
      have hx64 : x < 64 := by omega
      have hs := hB.size
      have hzl := HZ1.out
      have x0 := (blk_cell q1 0).trans (cell2_0 _ _)
      have x1 := (blk_cell q1 1).trans (cell2_1 _ _)
      have HEV := Lib.hid (evenWith_any (m : Int) a c zs x hx64 HZ6.out hx W ((HA0.out.below hB).mono hs))
      have hlen : (spP (2 ^ m) zs pre).length ≤ 100000 := Nat.le_trans (spP_len zs pre) (by omega)
      have HYES : Hid (spB zs x = true → spP (2 ^ m) zs (pre ++ [xx]) = spP (2 ^ m) zs pre ++ [(x : Int)]) := Lib.hid (fun h => by rw [hxx]; exact spP_yes (x := ⟨x, hxN⟩) h)
      have HNO : Hid (spB zs x = false → spP (2 ^ m) zs (pre ++ [xx]) = spP (2 ^ m) zs pre) := Lib.hid (fun h => by rw [hxx]; exact spP_no (x := ⟨x, hxN⟩) h)
      obtain ⟨L, hL⟩ : ∃ L, L = spP (2 ^ m) zs pre := ⟨_, rfl⟩
      rw [← hL] at hbox hlen HYES HNO
      have HBX := Lib.hid hbox
      have HB := Lib.hid hB
      have HQ1 := Lib.hid q1
      have HQ4 := Lib.hid q3
      dsimp only
      rw [← hxx]
      clear hbox hB q1 q3 hL hxN hxx
      cases hcu : spB zs x
      · have HCU := Lib.hid hcu
        rw [show evnB (shrZ zs (x : Int)) = false from hcu] at HEV
        clear hcu
        gi_wp2_with (refine ⟨trivial, ?_⟩; gi_at_call 38; refine (CallsIn.inRound l (callsIn_wide.2 HEV.out)).mono ?_; rintro e w3 ⟨rfl, hb3⟩; have HBW := Lib.hid hb3; clear hb3)
        have hks : KeepsFrom W3.heap.size W w3 := ⟨HBW.out.size, fun k o _ hk _ => (HBW.out.block k (lt_of_some hk)).trans hk⟩
        have h3' := (HBW.out.block _ (lt_of_some HQ4.out)).trans HQ4.out
        exact ⟨hks, fun _ => (blk_cell h3' 0).trans (cell1_0 _), ⟨⟨by rw [HNO.out HCU.out]; exact HBX.out.below HBW.out, (HBW.out.block _ (lt_of_some HQ1.out)).trans HQ1.out⟩, h3'⟩, HB.out.trans (HBW.out.mono HB.out.size)⟩
      · have HCU := Lib.hid hcu
        rw [show evnB (shrZ zs (x : Int)) = true from hcu] at HEV
        clear hcu
        gi_wp2_with (first
          | (refine ⟨trivial, ?_⟩; gi_at_call 38; refine (CallsIn.inRound l (callsIn_wide.2 HEV.out)).mono ?_; rintro e w3 ⟨rfl, hb3⟩; have HBW := Lib.hid hb3; clear hb3; obtain ⟨v, hv, hrow⟩ := HBX.out.below HBW.out; have d0 := (blk_cell hv 0).trans (cell1_0 _); have g0 := blk_frozen hv 0; have HV := Lib.hid hv; have HR := Lib.hid hrow; have HS3' : Hid (w.heap.size ≤ w3.heap.size) := Lib.hid (by have := HBW.out.size; omega); have HQ3' : Hid (HasBlk w3 w.heap.size #[.int .i64 (m : Int), .slice a zs.length c] 28) := Lib.hid ((HBW.out.block _ (lt_of_some HQ1.out)).trans HQ1.out); have HQ4' : Hid (HasBlk w3 (w1.heap.size + 1 + 1) #[.int .i64 ((2 ^ m - 1 : Nat) : Int)] 48) := Lib.hid ((HBW.out.block _ (lt_of_some HQ4.out)).trans HQ4.out); clear hv hrow)
          | (gi_at_builtin; refine wpListIn_append_own _ rfl _ _ 22 rfl w.heap.size 3 i0 (.int .i64 0) 1 8 Try.underlying22 hi hz0 hz1 hz2 rfl (by decide) _ _ _ rfl (HR.out.alloc _) ⟨w3.heap.size, 0, none⟩ 1 1 [.int .i64 (x : Int)] rfl rfl (cell_one_new _ _ _) (by simp [Value.oneCell']) (by simp only [maxLen]; omega) (by omega) (by have := HS3'.out; simp; omega) ?_; intro v' w5 hown' hgrow _; obtain ⟨g', cap', rfl⟩ := ownsRow_succ hown'; obtain ⟨hv1, hv2, hk2, hb4⟩ := IntBox.appended HV.out HR.out HS3'.out (by omega) hown' hgrow; have hc1 := (blk_cell hv1 0).trans (cell1_0 _); have hf1 := blk_frozen hv1 0))
        have hks : KeepsFrom W3.heap.size W w3 := ⟨HBW.out.size, fun k o _ hk _ => (HBW.out.block k (lt_of_some hk)).trans hk⟩
        have hq1 := HasBlk.far (p := ⟨w1.heap.size, 0, none⟩) ((HasBlk.alloc HQ3'.out (.cells #[.int .i64 (x : Int)] 3)).kept hgrow (hasBlk_not_row HQ3'.out fam_ne HR.out).symm) (show w.heap.size ≠ w1.heap.size by omega) (.slice (some ⟨g', 0, none⟩) (L.length + 1) cap')
        have hq4 := HasBlk.far (p := ⟨w1.heap.size, 0, none⟩) ((HasBlk.alloc HQ4'.out (.cells #[.int .i64 (x : Int)] 3)).kept hgrow (hasBlk_not_row HQ4'.out club_ne HR.out).symm) (show w1.heap.size + 1 + 1 ≠ w1.heap.size by omega) (.slice (some ⟨g', 0, none⟩) (L.length + 1) cap')
        exact ⟨hks.trans (hk2.from _), fun _ => (blk_cell hq4 0).trans (cell1_0 _), ⟨⟨by rw [HYES.out HCU.out]; exact hv2, hq1⟩, hq4⟩, HB.out.trans ((HBW.out.mono HB.out.size).trans hb4)⟩
    case done =>
      rintro E ys W hE hys ⟨⟨⟨hbox, q1⟩, q3⟩, hB⟩ hK
      rw [spP_all hys] at hbox
      obtain ⟨ga, gc, hv, hrow⟩ := hbox.ints
      have d0 := (blk_cell hv 0).trans (cell1_0 _)
      have hE2 : w.heap.size ≤ E := by have := HS2.out; have := HS3.out; have := HZ1.out; omega
      have HR : Hid ((W.putObj E (.deferred none)).ownsRow w.heap.size 3 1 (.slice ga (spL m zs).length gc) (spL m zs).length ((spL m zs).map (Value.int .i64))) := Lib.hid (ownsRow_putObj hrow _ hK rfl)
      have HBF : Hid (Below w.heap.size w (W.putObj E (.deferred none))) := Lib.hid (hB.trans ((Below.refl w.heap.size _).grown (grownBy_putObj' _ E _) hB.size (fun k e => by cases e; exact hE2)))
      have K1 := Lib.hid hK
      clear hbox q1 q3 hB hK hv hrow hys
      gi_wp2
      refine ⟨by simp, .inl ⟨_, _, rfl, run_takeDeferred K1.out, ?_⟩⟩
      exact ⟨.tuple #[.slice ga (spL m zs).length gc, .bool true], by simp [results, Try.f23, go_sem], ga, gc, rfl, HR.out, HBF.out⟩
    case stop =>
      rintro E c' pre W hE hp h hK
      exact h.elim

end Go.Proofs.Ytlfbpaphjkbcmaa
