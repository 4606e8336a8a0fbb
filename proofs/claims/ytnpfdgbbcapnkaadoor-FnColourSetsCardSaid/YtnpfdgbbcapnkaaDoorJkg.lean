/- It is proved what ColourSets of the program returns; conditions: those of each statement. -/
import Derived.RowKit
import Derived.Laws.CopyRow
import Derived.Lib.SlBuf
import Derived.Deep.QuietTactic
import Derived.RangeFuncNested
import Derived.RangeFuncBound
import Derived.RangeFuncCalls
import Derived.RangeFuncLeaves
import Derived.RangeFuncBox
import Derived.RangeFuncWrites
import Derived.StillTailTactics
import Derived.Maps.OwnIn
import Derived.Maps.Ext
import Derived.DeepKeys4
import Derived.MapKept
import Derived.Test.YtnpfdgbbcapnkaaDoorRows
import Derived.WalkKit
import Derived.WalkSpells
import Derived.ProofKit
import Derived.OpenShut
import Derived.ShutString
import Derived.ChangeOld
import Derived.Below
import Derived.Deep.RegionHeld3
import Derived.BigQuiet
import Derived.Lib.Hide
import Derived.Lib.SmallJoins
import Derived.Outline
import Derived.Laws.MakeOwn
import Derived.Laws.OwnMore
import Derived.IntWalk
import Derived.Lib.AppendZeros
import Derived.Maps.AppendAt
import Derived.Deep.AppendLies
import Derived.OwnWalk
import Derived.Lib.SlicesCompact
import Derived.Lib.OwnBridge
import Derived.OrdersIn
import Derived.TacticsIn
import Derived.Shelf.Sort.Plain
import Derived.Shelf.Slices.In.SortNone
import Derived.Shelf.Slices.CompactI
import Derived.Ground.Names2Prog
import Derived.Lib.SliceRun
import Derived.Shelf.Abstract
import Derived.Shelf.RegionOpen
import Derived.OwnWalkIn
import Derived.TacticsInMore
import Derived.LoopNIn
import Derived.LoopIn
import Derived.StillTail
import Derived.StillTactics
import Derived.Shelf.Spec.TrailingZeros
import Derived.Test.YtnpfdgbbcapnkaaDoorRbak
import Derived.Test.YtnpfdgbbcapnkaaDoorRbaa
import Derived.Test.YtnpfdgbbcapnkaaDoorRbab
import Derived.Test.YtnpfdgbbcapnkaaDoorJh
import Derived.Test.YtnpfdgbbcapnkaaDoorRbaf
import Derived.Test.YtnpfdgbbcapnkaaDoorRbah
import Derived.Test.YtnpfdgbbcapnkaaDoorRbaq
import Derived.Test.YtnpfdgbbcapnkaaDoorRbag
import Derived.Test.YtnpfdgbbcapnkaaDoorKf
import Derived.Test.YtnpfdgbbcapnkaaDoorKg
import Derived.Test.YtnpfdgbbcapnkaaDoorKi
import Derived.Test.YtnpfdgbbcapnkaaDoorRbae
import Derived.Test.YtnpfdgbbcapnkaaDoorRbat
namespace Go.Proofs.YtnpfdgbbcapnkaaDoor
open Go.RowKit Go.Shelf

attribute [local go_sem] Oper.semAt_some

/-- The sets among the first covers whose other members are a cover. -/
def csP (N : Nat) (zs : List Int) (ys : List (PrtF N)) : List Int := nI ((valsF ys).filter fun s => covB zs (N - 1 - s))

theorem csP_yes {N : Nat} {zs : List Int} {ys : List (PrtF N)} {x : PrtF N} (h : covB zs (N - 1 - x.1) = true) : csP N zs (ys ++ [x]) = csP N zs ys ++ [(x.1 : Int)] := by
  unfold csP
  rw [valsF_snoc, List.filter_append, List.filter_cons, if_pos h, List.filter_nil, nI_snoc']

theorem csP_no {N : Nat} {zs : List Int} {ys : List (PrtF N)} {x : PrtF N} (h : covB zs (N - 1 - x.1) = false) : csP N zs (ys ++ [x]) = csP N zs ys := by
  unfold csP
  rw [valsF_snoc, List.filter_append, List.filter_cons, if_neg (by rw [h]; simp), List.filter_nil, List.append_nil]

theorem csP_all {m : Nat} {zs : List Int} {ys : List (PrtF (2 ^ m))} (h : valsF ys = (List.range (2 ^ m)).filter (covB zs)) : csP (2 ^ m) zs ys = csL m zs := by
  unfold csP csL csTo
  rw [h, List.filter_filter]
  have : (fun s => covB zs (2 ^ m - 1 - s) && covB zs s) = csB m zs := by
    funext s
    rw [csB, Bool.and_comm]
  rw [this]
  rfl

theorem csP_len {N : Nat} (zs : List Int) (ys : List (PrtF N)) : (csP N zs ys).length ≤ ys.length := by
  unfold csP
  rw [nI_len']
  exact Nat.le_trans (List.length_filter_le _ _) (by simp [valsF])

set_option maxRecDepth 100000 in
set_option maxHeartbeats 4000000 in
theorem implColourSets_any (m : Int) (a : Option Addr) (c : Nat) (zs : List Int) (w : World) (ha : Ints w w.heap.size a zs) (hx : zs.length ≤ 1048576) :
    Calls Tryd.prog 39 #[.agg #[.int .i64 m, .slice a zs.length c]] w (RetSB w (csZ m zs) (famIn m zs)) := by
  obtain ⟨i0, hi, hz0, hz1, hz2⟩ := info_parts Tryd.info3
  unfold csZ
  have HB0 := Lib.hid (below1 w (.cells #[.int .i64 m, .slice a zs.length c] 25))
  have HA := Lib.hid (ha.below HB0.out)
  have HA0 := Lib.hid ha
  clear ha
  cases hf : famIn m zs
  · have HF := Lib.hid hf
    clear hf
    go_enter Tryd.func39, Tryd.ntmps39
    go_wp2_with fail
    refine (implFamilyIn_any _ _ _ zs _ (HA.out.mono (by simp)) hx).mono ?_
    rintro e w1 ⟨rfl, hb⟩
    rw [HF.out]
    have HB := Lib.hid (HB0.out.trans (hb.mono (by simp)))
    clear hb
    go_wp2
    go_ret2
    exact ⟨none, 0, rfl, World.ownsRow_nil _ _ _ _, HB.out⟩
  · have HF := Lib.hid hf
    obtain ⟨m, rfl, hm1, hm6, hset, hl8⟩ := fam_nat hf
    have hp64 : 2 ^ m ≤ 64 := Nat.pow_le_pow_right (n := 2) (by decide) hm6
    have HFI := Lib.hid (implFamilyIn_any (m : Int) a c zs _ (HA.out.mono (show w.heap.size ≤ (w.alloc (.cells #[.int .i64 (m : Int), .slice a zs.length c] 25)).heap.size by simp)) hx)
    have HSET := Lib.hid hset
    have h16 : 1 ≤ 6 := by omega
    have hm1I : (1 : Int) ≤ (m : Int) := by omega
    have hm6I : (m : Int) ≤ 6 := by omega
    have hfull : fullI (m : Int) = ((2 ^ m - 1 : Nat) : Int) := by unfold fullI; rw [cast_full]; simp
    have HFU := Lib.hid hfull
    have HOTH : Hid (∀ x : PrtF (2 ^ m), bits BinOp.andNot IntKind.i64 ((2 ^ m - 1 : Nat) : Int) (x.1 : Int) = ((2 ^ m - 1 - x.1 : Nat) : Int)) := Lib.hid fun x => oth_at hm6 x.2
    clear hf hset hfull
    refine (callsIn_wide (n := 6)).1 ?_
    refine callsIn_of_wp_marks Tryd.func39 rfl trivial ?_ rfl
    simp only [Tryd.ntmps39, List.size_toArray, List.length_cons, List.length_nil, Nat.reduceAdd, Nat.reduceSub, Array.replicate_succ, Array.replicate_zero, List.push_toArray, List.append_toArray, List.nil_append, List.cons_append]
    gi_wp2_with fail
    refine ⟨trivial, ?_⟩
    refine (callsIn_wide.2 HFI.out).mono ?_
    rintro e w1 ⟨rfl, hb⟩
    rw [HF.out]
    have b0 : HasBlk w1 w.heap.size #[.int .i64 (m : Int), .slice a zs.length c] 25 := (hb.block _ (by simp)).trans (alloc_new w _)
    obtain ⟨W2, hW2, q0, q1, hs2, hb2⟩ : ∃ W2, w1.alloc (.cells #[.slice none 0 0] 23) = W2 ∧ HasBlk W2 w.heap.size #[.int .i64 (m : Int), .slice a zs.length c] 25 ∧ IntBox w1.heap.size w.heap.size [] W2 ∧ W2.heap.size = w1.heap.size + 1 ∧ Below w1.heap.size w1 W2 :=
      ⟨_, rfl, HasBlk.alloc b0 _, IntBox.start w1 w.heap.size, by simp, below1 w1 _⟩
    obtain ⟨W3, hW3, r3, r2, r1, hs3, hb3⟩ : ∃ W3, W2.alloc (.cells #[.int .i64 (m : Int), .slice a zs.length c] 25) = W3 ∧ HasBlk W3 (w1.heap.size + 1) #[.int .i64 (m : Int), .slice a zs.length c] 25 ∧ HasBlk W3 w.heap.size #[.int .i64 (m : Int), .slice a zs.length c] 25 ∧ IntBox w1.heap.size w.heap.size [] W3 ∧ W3.heap.size = W2.heap.size + 1 ∧ Below W2.heap.size W2 W3 :=
      ⟨_, rfl, by have := alloc_new W2 (.cells #[.int .i64 (m : Int), .slice a zs.length c] 25); rwa [hs2] at this, HasBlk.alloc q0 _, q1.alloc _, by simp, below1 W2 _⟩
    have y0 := (blk_cell q0 0).trans (cell2_0 _ _)
    have y1 := (blk_cell q0 1).trans (cell2_1 _ _)
    rw [← hW2] at y0 y1
    have hZ1 : w.heap.size < w1.heap.size := lt_of_some b0
    have hB1 : Below w.heap.size w w1 := HB0.out.trans (hb.mono (by simp))
    have hB3 : Below w.heap.size w W3 := (hB1.trans (hb2.mono (by omega))).trans (hb3.mono (by omega))
    have hst := covers1_in (6 - 1) w.heap.size w1.heap.size (w1.heap.size + 1) m hm1 hm6 a c zs (by omega) HSET.out W3 r3 (by omega) (by omega) (by omega) (by omega) (HA0.out.below hB3)
    have HST := Lib.hid hst
    have HW2 := Lib.hid hW2
    have HW3 := Lib.hid hW3
    have HR1 := Lib.hid r1
    have HR2 := Lib.hid r2
    have HB3 := Lib.hid hB3
    have HS2 := Lib.hid hs2
    have HS3 := Lib.hid hs3
    have HZ1 := Lib.hid hZ1
    clear hb b0 q0 q1 hb2 r3 r2 r1 hb3 hB1 hB3 hst hW2 hW3 hs2 hs3 hZ1
    gi_wp2_with (refine ⟨trivial, ?_⟩; gi_at_call 81; refine (callsIn_wide.2 (covers_any _ _ _ _ _)).mono ?_; rintro e w' ⟨rfl, rfl⟩)
    rw [HW2.out, HW3.out]
    refine wpIn_rangeFunc_fam (n := 6) h16 (gf := 115) (lb := #[.pointer (some ⟨w1.heap.size + 1, 0, none⟩)]) rfl (enters_of Tryd.func115 (by kernel_rfl) rfl)
      HST.out (Below.refl _ _) (by have := HS2.out; have := HS3.out; omega) (fun _ => rfl)
      (fun pre W => (IntBox w1.heap.size w.heap.size (csP (2 ^ m) zs pre) W ∧ HasBlk W w.heap.size #[.int .i64 (m : Int), .slice a zs.length c] 25) ∧ Below w.heap.size w W)
      (fun _ _ => False)
      (OwnF.and (OwnF.and (IntBox.ownF (by have := HS2.out; have := HS3.out; omega) (fun pre => csP (2 ^ m) zs pre)) (HasBlk.ownF (by have := HZ1.out; have := HS2.out; have := HS3.out; omega) _ _)) (ownF_below (by have := HZ1.out; have := HS2.out; have := HS3.out; omega) (.inr (Nat.le_refl _))))
      (fun _ _ _ _ hs _ _ => hs)
      ⟨⟨HR1.out, HR2.out⟩, HB3.out⟩
      (fun x => { tmps := #[.agg #[.int .i64 (m : Int), .slice a zs.length c], .pointer (some ⟨w.heap.size, 0, none⟩), .slice none 0 0, .bool false, .pointer (some ⟨w1.heap.size, 0, none⟩), .int .i64 (x.1 : Int), .agg #[.int .i64 (m : Int), .slice a zs.length c], .bool true, .bool false, .agg #[.int .i64 (m : Int), .slice a zs.length c], .func (.func 115) #[] #[.pointer (some ⟨w1.heap.size + 1, 0, none⟩)], .int .i64 (x.1 : Int), undef, undef, undef, undef, undef, undef, undef, undef, undef, undef, undef], defers := [] }) ?assign ?body ?done ?stop
    case assign =>
      intro l x W K hK
      gi_wp2
      exact hK
    case body =>
      rintro l pre x W ⟨⟨hbox, q1⟩, hB⟩ hlt
      have hmx : Tryd.prog.follows .mixedOrders = true := by kernel_rfl
      have hoj := HOTH.out x
      have hs := hB.size
      have hzl := HZ1.out
      have x0 := (blk_cell q1 0).trans (cell2_0 _ _)
      have x1 := (blk_cell q1 1).trans (cell2_1 _ _)
      have hlw : w.heap.size < W.drew.heap.size := lt_of_some q1
      have HID : Hid (Ints W.drew W.drew.heap.size a zs) := Lib.hid (show Ints W W.heap.size a zs from (HA0.out.below hB).mono hs)
      have HIX : ∀ {V : World}, Below W.drew.heap.size W.drew V → Ints V V.heap.size a zs := fun h => (HID.out.below h).mono h.size
      have hlen : (csP (2 ^ m) zs pre).length ≤ 100000 := Nat.le_trans (csP_len zs pre) (by omega)
      have HYES := Lib.hid (fun h => csP_yes (zs := zs) (ys := pre) (x := x) h)
      have HNO := Lib.hid (fun h => csP_no (zs := zs) (ys := pre) (x := x) h)
      obtain ⟨U, hU⟩ : ∃ U, U = 2 ^ m - 1 - x.1 := ⟨_, rfl⟩
      have hU64 : U < 64 := by omega
      rw [← hU] at hoj HYES HNO
      obtain ⟨L, hL⟩ : ∃ L, L = csP (2 ^ m) zs pre := ⟨_, rfl⟩
      rw [← hL] at hbox hlen HYES HNO
      obtain ⟨X, hXX⟩ : ∃ X : Nat, X = x.1 := ⟨_, rfl⟩
      rw [← hXX] at hoj HYES
      have HBX := Lib.hid hbox
      have HB := Lib.hid hB
      have HQ1 := Lib.hid q1
      rw [← hXX]
      clear hbox hB q1 hU hL hXX
      cases hcu : covB zs U
      · have HCU := Lib.hid hcu
        clear hcu
        gi_wp2
        gi_region_with_o (first
          | (refine ⟨trivial, ?_⟩; gi_at_call 47; refine (CallsIn.inRound l (callsIn_wide.2 (full_b (m : Int) a zs.length c W.drew hm1I hm6I))).mono ?_; rintro e w2 ⟨rfl, hb2⟩; rw [HFU.out]; have e0 := (hb2.cell (p := ⟨w.heap.size, 0, none⟩) hlw).trans x0; have e1 := (hb2.cell (p := ⟨w.heap.size, 1, none⟩) hlw).trans x1)
          | (refine ⟨trivial, ?_⟩; gi_at_call 82; refine (CallsIn.inRound l (callsIn_wide.2 (coveredBy_any m hm6 a c zs U hU64 w2 (HIX hb2) (by omega) HSET.out))).mono ?_; rintro e w3 ⟨rfl, hb3⟩; rw [HCU.out]))
        all_goals
          have HBW : Hid (Below W.heap.size W w3) := Lib.hid (((Below.refl _ W).drew.trans hb2).trans (hb3.mono hb2.size))
          clear hb2 hb3
          gi_wp2
          exact ⟨ButF.of_below HBW.out, ⟨by rw [HNO.out HCU.out]; exact HBX.out.below HBW.out, (HBW.out.block _ (lt_of_some HQ1.out)).trans HQ1.out⟩, HB.out.trans (HBW.out.mono HB.out.size)⟩
      · have HCU := Lib.hid hcu
        clear hcu
        gi_wp2
        gi_region_with_o (first
          | (refine ⟨trivial, ?_⟩; gi_at_call 47; refine (CallsIn.inRound l (callsIn_wide.2 (full_b (m : Int) a zs.length c W.drew hm1I hm6I))).mono ?_; rintro e w2 ⟨rfl, hb2⟩; rw [HFU.out]; have e0 := (hb2.cell (p := ⟨w.heap.size, 0, none⟩) hlw).trans x0; have e1 := (hb2.cell (p := ⟨w.heap.size, 1, none⟩) hlw).trans x1)
          | (refine ⟨trivial, ?_⟩; gi_at_call 82; refine (CallsIn.inRound l (callsIn_wide.2 (coveredBy_any m hm6 a c zs U hU64 w2 (HIX hb2) (by omega) HSET.out))).mono ?_; rintro e w3 ⟨rfl, hb3⟩; rw [HCU.out]))
        all_goals
          have HBW : Hid (Below W.heap.size W w3) := Lib.hid (((Below.refl _ W).drew.trans hb2).trans (hb3.mono hb2.size))
          clear hb2 hb3
          obtain ⟨v, hv, hrow⟩ := HBX.out.below HBW.out
          have d0 := (blk_cell hv 0).trans (cell1_0 _)
          have g0 := blk_frozen hv 0
          have HV := Lib.hid hv
          have HR := Lib.hid hrow
          have HS3 : Hid (w.heap.size ≤ w3.heap.size) := Lib.hid (by have := HBW.out.size; omega)
          have HQ3 : Hid (HasBlk w3 w.heap.size #[.int .i64 (m : Int), .slice a zs.length c] 25) := Lib.hid ((HBW.out.block _ (lt_of_some HQ1.out)).trans HQ1.out)
          clear hv hrow
          gi_wp2_with (gi_at_builtin; refine wpListIn_append_own _ rfl _ _ 23 rfl w.heap.size 3 i0 (.int .i64 0) 1 8 Tryd.underlying23 hi hz0 hz1 hz2 rfl (by decide) _ _ _ rfl (HR.out.alloc _) ⟨w3.heap.size, 0, none⟩ 1 1 [.int .i64 (X : Int)] rfl rfl (cell_one_new _ _ _) (by simp [Value.oneCell']) (by simp only [maxLen]; omega) (by omega) (by have := HS3.out; simp; omega) ?_; intro v' w5 hown' hgrow _; obtain ⟨g', cap', rfl⟩ := ownsRow_succ hown'; obtain ⟨hv1, hv2, hk2, hb4⟩ := IntBox.appended HV.out HR.out HS3.out (by omega) hown' hgrow; have hc1 := (blk_cell hv1 0).trans (cell1_0 _); have hf1 := blk_frozen hv1 0; have hbf := ButF.append (v' := .slice (some ⟨g', 0, none⟩) (L.length + 1) cap') (D := w1.heap.size) 0 HR.out hgrow)
          exact ⟨(ButF.of_below HBW.out).trans hbf, ⟨by rw [HYES.out HCU.out]; exact hv2, HQ3.out.butF hbf (by omega) (by omega) fam_ne⟩, HB.out.trans ((HBW.out.mono HB.out.size).trans hb4)⟩
    case done =>
      rintro E ys W hE hys ⟨⟨hbox, q1⟩, hB⟩ hK
      rw [csP_all hys] at hbox
      obtain ⟨ga, gc, hv, hrow⟩ := hbox.ints
      have d0 := (blk_cell hv 0).trans (cell1_0 _)
      have hE2 : w.heap.size ≤ E := by have := HS2.out; have := HS3.out; have := HZ1.out; omega
      have HR : Hid ((W.putObj E (.deferred none)).ownsRow w.heap.size 3 1 (.slice ga (csL m zs).length gc) (csL m zs).length ((csL m zs).map (Value.int .i64))) := Lib.hid (ownsRow_putObj hrow _ hK rfl)
      have HBF : Hid (Below w.heap.size w (W.putObj E (.deferred none))) := Lib.hid (hB.trans ((Below.refl w.heap.size _).grown (grownBy_putObj' _ E _) hB.size (fun k e => by cases e; exact hE2)))
      have K1 := Lib.hid hK
      clear hbox q1 hB hK hv hrow hys
      gi_wp2
      refine ⟨by simp, .inl ⟨_, _, rfl, run_takeDeferred K1.out, ?_⟩⟩
      exact ⟨.tuple #[.slice ga (csL m zs).length gc, .bool true], by simp [results, Tryd.f39, go_sem], ga, gc, rfl, HR.out, HBF.out⟩
    case stop =>
      rintro E pre W hE hp h hK
      exact h.elim

end Go.Proofs.YtnpfdgbbcapnkaaDoor
