/- It is proved that the call of the law FnDrop returns true; conditions: those of each statement. -/
import Derived.Deep.RegionWith
import Derived.Test.YtijhpfecbpkpdaaRows
import Derived.WalkKit
import Derived.WalkSpells
import Derived.ProofKit
import Derived.OpenShut
import Derived.ShutString
import Derived.ChangeOld
import Derived.Below
import Derived.Deep.RegionHeld3
import Derived.Deep.QuietTactic
import Derived.BigQuiet
import Derived.Lib.Hide
import Derived.Lib.SmallJoins
import Derived.Outline
import Derived.Laws.MakeOwn
import Derived.Laws.OwnMore
import Derived.IntWalk
import Derived.Deep.RegionLaw
import Derived.Deep.AppendLies
import Derived.Lib.AppendZeros
import Derived.Maps.AppendAt
import Derived.OwnWalk
import Derived.RangeFuncNested
import Derived.RangeFuncBound
import Derived.RangeFuncCalls
import Derived.RangeFuncLeaves
import Derived.RangeFuncBox
import Derived.Shelf.Abstract
import Derived.Shelf.RegionOpen
import Derived.OwnWalkIn
import Derived.TacticsInMore
import Derived.LoopNIn
import Derived.LoopIn
import Derived.Shelf.Spec.TrailingZeros
import Derived.Test.YtijhpfecbpkpdaaB
import Derived.Test.YtijhpfecbpkpdaaC
import Derived.Test.YtijhpfecbpkpdaaD
import Derived.Test.YtijhpfecbpkpdaaDa
import Derived.Test.YtijhpfecbpkpdaaDb
import Derived.Test.YtijhpfecbpkpdaaDd
import Derived.Test.YtijhpfecbpkpdaaDe
import Derived.Test.YtijhpfecbpkpdaaDm
import Derived.Test.YtijhpfecbpkpdaaF
import Derived.Test.YtijhpfecbpkpdaaFb
import Derived.Test.YtijhpfecbpkpdaaGb
import Derived.Test.YtijhpfecbpkpdaaGd
import Derived.Test.YtijhpfecbpkpdaaGg
import Derived.Test.YtijhpfecbpkpdaaH
import Derived.Test.YtijhpfecbpkpdaaP
import Derived.Test.YtijhpfecbpkpdaaPso
import Derived.Test.YtijhpfecbpkpdaaSa
namespace Go.Proofs.Ytijhpfecbpkpdaa
open Go.RowKit

theorem drop_facts {m : Int} {zs : List Int} {p : Nat} (h : dropIn m zs (p : Int) = true) : putIn (dropM m zs (p : Int)) (dropZ m zs (p : Int)) (zs[p]?.getD 0) = true ∧ putM (dropM m zs (p : Int)) (dropZ m zs (p : Int)) (zs[p]?.getD 0) = m ∧
    putZ (dropM m zs (p : Int)) (dropZ m zs (p : Int)) (zs[p]?.getD 0) = dropZ m zs (p : Int) ++ [zs[p]?.getD 0] ∧ sortZ (dropZ m zs (p : Int) ++ [zs[p]?.getD 0]) = sortZ zs := by
  have e1 : dropM m zs (p : Int) = m := by simp [dropM, h]
  have e2 : dropZ m zs (p : Int) = without zs p := by simp [dropZ, h]
  have hh := h
  simp only [dropIn, Bool.and_eq_true] at hh
  obtain ⟨hf, hx⟩ := hh
  have hx2 := inB_out hx
  have hp : p < zs.length := by omega
  obtain ⟨h1, h2, h3, h4⟩ := famIn_out hf
  have hl : (without zs p).length = zs.length - 1 := by unfold without; simp; omega
  have hf2 : famIn m (without zs p) = true := by
    simp only [famIn, Bool.and_eq_true, decide_eq_true_eq, List.all_eq_true]
    refine ⟨inB_true h1 h2, by omega, fun z hz => ?_⟩
    have hz2 : z ∈ zs := by
      unfold without at hz
      rcases List.mem_append.1 hz with h | h
      · exact List.mem_of_mem_take h
      · exact List.mem_of_mem_drop h
    exact inB_true (h4 z hz2).1 (h4 z hz2).2
  have e3 : zs[p]?.getD 0 = zs[p] := by simp [hp]
  have hput : putIn m (without zs p) (zs[p]?.getD 0) = true := by
    rw [putIn, hf2, e3, inB_true (h4 _ (List.getElem_mem hp)).1 (h4 _ (List.getElem_mem hp)).2]
    simp; omega
  rw [e1, e2]
  refine ⟨hput, by simp [putM, hput], by simp [putZ, hput], sortZ_congr ?_⟩
  rw [e3]
  unfold without
  refine (List.perm_append_singleton zs[p] _).trans ?_
  refine List.perm_middle.symm.trans ?_
  rw [← List.drop_eq_getElem_cons hp, List.take_append_drop]

set_option maxRecDepth 100000 in
set_option maxHeartbeats 8000000 in
theorem walkFnDrop (a : Option Addr) (n cap : Nat) (w : World) (hb : Bys w w.heap.size a n) (hn : n ≤ 1048576) (hc : n ≤ cap) (hc2 : cap ≤ 9223372036854775807) :
    Calls Try.prog 6 #[.slice a n cap] w fun e w' => e = .returned (.bool true) ∧ Below w.heap.size w w' := by
  have HBy := Lib.hid hb
  clear hb
  go_enter Try.func6, Try.ntmps6
  go_wp2_with fail
  refine (drawDrop_any a n cap w HBy.out hn hc hc2).mono ?_
  rintro e w1 ⟨m, a1, zs, c1, x, rfl, hl, ho1, hb1⟩
  have F1 := FB.start (m := m) (c := c1) (own_ints ho1)
  have B1 := Lib.hid (hb1.trans ((below1 w1 (.cells #[.int .i64 m, .slice a1 zs.length c1] 25)).mono hb1.size))
  have hln : zs.length ≤ 1048576 := by omega
  have hcz : zs.length ≤ c1 := own_cap ho1
  have f_f_1 := Lib.hid F1
  clear F1 ho1 hb1
  have f_0 := f_f_1.out.x0
  have f_1 := f_f_1.out.x1
  obtain ⟨M, hM⟩ : ∃ M, M = dropM m zs x := ⟨_, rfl⟩
  obtain ⟨ys, hys⟩ : ∃ ys, ys = dropZ m zs x := ⟨_, rfl⟩
  have hyl : ys.length ≤ 1048576 := by rw [hys]; exact dropZ_len m zs x hln
  have HI := Lib.hid (fun W hz => implDrop_any m a1 c1 zs x W hz hln hcz)
  have HSp := Lib.hid (fun W hz => specDrop_any m a1 c1 zs x W hz hln hcz)
  rw [← hM, ← hys] at HI HSp
  have HM := Lib.hid hM
  have HYS := Lib.hid hys
  clear hM hys
  go_wp2_with fail
  refine (HI.out _ f_f_1.out.ints).mono ?_
  rintro e w2 ⟨a2, c2, rfl, ho2, hb2⟩
  have F2 := FB.start (m := M) (c := c2) (own_ints ho2)
  have hb2x := hb2.trans ((below1 w2 (.cells #[.int .i64 (M), .slice a2 (ys).length c2] 25)).mono hb2.size)
  have B2 := Lib.hid (B1.out.trans (hb2x.mono B1.out.size))
  have f_f_2 := Lib.hid (f_f_1.out.step hb2x)
  have f_out_2 := Lib.hid F2
  clear F2 ho2 hb2 hb2x B1 f_f_1
  clear f_0 f_1
  have f_0 := f_f_2.out.x0
  have f_1 := f_f_2.out.x1
  go_wp2_with fail
  refine (HSp.out _ f_f_2.out.ints).mono ?_
  rintro e w3 ⟨a3, c3, rfl, ho3, hb3⟩
  have F3 := FB.start (m := M) (c := c3) (own_ints ho3)
  have hb3x := hb3.trans ((below1 w3 (.cells #[.int .i64 (M), .slice a3 (ys).length c3] 25)).mono hb3.size)
  have B3 := Lib.hid (B2.out.trans (hb3x.mono B2.out.size))
  have f_f_3 := Lib.hid (f_f_2.out.step hb3x)
  have f_out_3 := Lib.hid (f_out_2.out.step hb3x)
  have f_want_3 := Lib.hid F3
  clear F3 ho3 hb3 hb3x B2 f_f_2 f_out_2
  clear f_0 f_1
  have out_0 := f_out_3.out.x0
  have out_1 := f_out_3.out.x1
  have want_0 := f_want_3.out.x0
  have want_1 := f_want_3.out.x1
  clear HI HSp
  cases hd : dropIn m zs x
  · clear hd HM HYS
    go_wp2_with fail
    refine (sameFamily_any _ _ _ _ _ _ _ _ _ f_out_3.out.ints f_want_3.out.ints hyl hyl).mono ?_
    rintro e w4 ⟨rfl, hb4⟩
    rw [sameF_self]
    have B4 := Lib.hid (B3.out.trans (hb4.mono B3.out.size))
    have f_f_4 := Lib.hid (f_f_3.out.step hb4)
    have f_out_4 := Lib.hid (f_out_3.out.step hb4)
    have f_want_4 := Lib.hid (f_want_3.out.step hb4)
    clear hb4 B3 f_f_3 f_out_3 f_want_3
    clear out_0 out_1
    clear want_0 want_1
    have out_0 := f_out_4.out.x0
    have out_1 := f_out_4.out.x1
    have want_0 := f_want_4.out.x0
    have want_1 := f_want_4.out.x1
    go_wp2_with fail
    refine (sameFamily_any _ _ _ _ _ _ _ _ _ f_out_4.out.ints f_want_4.out.ints hyl hyl).mono ?_
    rintro e w5 ⟨rfl, hb5⟩
    rw [sameF_self]
    have B5 := Lib.hid (B4.out.trans (hb5.mono B4.out.size))
    have f_f_5 := Lib.hid (f_f_4.out.step hb5)
    have f_out_5 := Lib.hid (f_out_4.out.step hb5)
    have f_want_5 := Lib.hid (f_want_4.out.step hb5)
    clear hb5 B4 f_f_4 f_out_4 f_want_4
    clear out_0 out_1
    clear want_0 want_1
    go_wp2
    go_ret
    exact ⟨rfl, B5.out⟩
  · have HD := Lib.hid hd
    clear hd
    go_wp2_with fail
    refine (sameFamily_any _ _ _ _ _ _ _ _ _ f_out_3.out.ints f_want_3.out.ints hyl hyl).mono ?_
    rintro e w4 ⟨rfl, hb4⟩
    rw [sameF_self]
    have B4 := Lib.hid (B3.out.trans (hb4.mono B3.out.size))
    have f_f_4 := Lib.hid (f_f_3.out.step hb4)
    have f_out_4 := Lib.hid (f_out_3.out.step hb4)
    have f_want_4 := Lib.hid (f_want_3.out.step hb4)
    clear hb4 B3 f_f_3 f_out_3 f_want_3
    clear out_0 out_1
    clear want_0 want_1
    clear f_want_4
    obtain ⟨p, hp, hpZ⟩ : ∃ p : Nat, x = (p : Int) ∧ p < zs.length := by have h := HD.out; simp only [dropIn, Bool.and_eq_true] at h; exact dropIn_nat (m := m) h.2
    subst hp
    obtain ⟨y, hy⟩ : ∃ y, y = zs[p]?.getD 0 := ⟨_, rfl⟩
    obtain ⟨ps, hps⟩ : ∃ ps, ps = ys ++ [y] := ⟨_, rfl⟩
    have HE : Hid (putIn M ys y = true ∧ putM M ys y = m ∧ putZ M ys y = ps ∧ sortZ ps = sortZ zs) := Lib.hid (by rw [hps, hy, HM.out, HYS.out]; exact drop_facts HD.out)
    have hpl : ps.length ≤ 1048576 := by have h := HE.out.2.2.1; rw [← h]; exact putZ_len _ _ _ hyl
    obtain ⟨b1, o1, ha1, hb1, hc1⟩ := f_f_4.out.ints.at_ (k := p) hpZ
    rw [← hy] at hc1
    subst ha1
    have HY := Lib.hid hy
    have HPS := Lib.hid hps
    clear hy hps
    have hp0 : (0 : Int) ≤ (p : Int) := by omega
    have hp1 : (p : Int) < (zs.length : Int) := by omega
    have out_0 := f_out_4.out.x0
    have out_1 := f_out_4.out.x1
    have f_0 := f_f_4.out.x0
    have f_1 := f_f_4.out.x1
    go_wp2
    have FOd : Hid (FB w2.heap.size M a2 ys c2 w4.drew) := Lib.hid ⟨f_out_4.out.blk, f_out_4.out.ints⟩
    have FFd : Hid (FB w1.heap.size m (some ⟨b1, o1, none⟩) zs c1 w4.drew) := Lib.hid ⟨f_f_4.out.blk, f_f_4.out.ints⟩
    have HBd := Lib.hid B4.out.drew
    have hs1 : w1.heap.size < w4.heap.size := lt_of_some f_f_4.out.blk
    have hs2 : w2.heap.size < w4.heap.size := lt_of_some f_out_4.out.blk
    have FOa : Hid (FB w2.heap.size M a2 ys c2 (w4.alloc (.cells #[.int .i64 0, .slice none 0 0] 25)).drew) := Lib.hid (FOd.out.step (below1 w4.drew (.cells #[.int .i64 0, .slice none 0 0] 25)))
    have HS := Lib.hid HE.out.2.2.2
    go_region_with (first
      | (go_at_call 20; ((with_reducible refine (implPut_any M a2 c2 ys y (w4.alloc (.cells #[.int .i64 0, .slice none 0 0] 25)).drew FOa.out.ints hyl).mono ?_); rw [HE.out.1, HE.out.2.1, HE.out.2.2.1]; rintro e w7 ⟨a7, c7, rfl, ho7, hb7⟩; have qX : HasBlk w7 w4.heap.size #[.int .i64 0, .slice none 0 0] 25 := (hb7.block _ (by simp)).trans (alloc_new w4 _); have z0 := (blk_cell qX 0).trans (cell2_0 _ _); have z1 := (blk_cell qX 1).trans (cell2_1 _ _); have zf0 := blk_frozen qX 0; have zf1 := blk_frozen qX 1; have tok : True := trivial))
      | (go_at_call 20; ((with_reducible refine (implPut_any M a2 c2 ys y w4.drew FOd.out.ints hyl).mono ?_); rw [HE.out.1, HE.out.2.1, HE.out.2.2.1]; rintro e w7 ⟨a7, c7, rfl, ho7, hb7⟩)))
    all_goals first
      | (have tok2 := tok
         clear tok tok2
         have HOW : Hid (OwnI w7 (w4.heap.size + 1) (.slice a7 ps.length c7) ps) := Lib.hid (own_mono ho7 (by simp))
         have HB7 : Hid (Below w4.heap.size w4.drew w7) := Lib.hid ((below1 w4.drew (.cells #[.int .i64 0, .slice none 0 0] 25)).trans (hb7.mono (by simp)))
         have HQX := Lib.hid qX
         clear ho7 hb7 qX FOa FOd out_0 out_1 f_0 f_1
         go_wp2_with fail
         obtain ⟨V, hV⟩ : ∃ V, V = (w7.setCell ⟨w4.heap.size, 0, none⟩ (.int .i64 m)).setCell ⟨w4.heap.size, 1, none⟩ (.slice a7 ps.length c7) := ⟨_, rfl⟩
         rw [← hV]
         have hbV : Below w4.heap.size w4.drew V := by rw [hV]; exact (HB7.out.setCell (p := ⟨w4.heap.size, 0, none⟩) (Nat.le_refl _) _).setCell (p := ⟨w4.heap.size, 1, none⟩) (Nat.le_refl _) _
         have FA : Hid (FB w4.heap.size m a7 ps c7 V) := Lib.hid (by
           rw [hV]
           refine ⟨heap_setCell_same _ w4.heap.size 1 _ 25 _ (heap_setCell_same w7 w4.heap.size 0 _ 25 _ HQX.out), ?_⟩
           exact own_ints (ownsRow_setCell_below (ownsRow_setCell_below HOW.out (a := ⟨w4.heap.size, 0, none⟩) (show w4.heap.size < w4.heap.size + 1 by omega) _) (a := ⟨w4.heap.size, 1, none⟩) (show w4.heap.size < w4.heap.size + 1 by omega) _))
         clear z0 z1 zf0 zf1 HQX
         have FC : Hid (FB w1.heap.size m (some ⟨b1, o1, none⟩) zs c1 V) := Lib.hid (FFd.out.step hbV)
         have HBB : Hid (Below w.heap.size w V) := Lib.hid (HBd.out.trans (hbV.mono HBd.out.size))
         clear hbV hV HOW HB7
         have d1 := FA.out.x1
         have e1 := FC.out.x1
         have FAd : Hid (FB w4.heap.size m a7 ps c7 V.drew) := Lib.hid ⟨FA.out.blk, FA.out.ints⟩
         have FCd : Hid (FB w1.heap.size m (some ⟨b1, o1, none⟩) zs c1 V.drew) := Lib.hid ⟨FC.out.blk, FC.out.ints⟩
         have HBe : Hid (Below w.heap.size w V.drew) := Lib.hid HBB.out.drew
         have hVs : w.heap.size ≤ V.heap.size := HBB.out.size
         go_region_held3 (fun w' => w'.cell? ⟨w4.heap.size, 1, none⟩ = some (.slice a7 ps.length c7) ∧ w'.cell? ⟨w1.heap.size, 1, none⟩ = some (.slice (some ⟨b1, o1, none⟩) zs.length c1) ∧ Below w.heap.size w w')
           (first
             | exact ⟨FAd.out.x1, FCd.out.x1, HBe.out⟩
             | exact ⟨(FAd.out.step hbp).x1, (FCd.out.step hbp).x1, HBe.out.trans (hbp.mono hVs)⟩
             | exact ⟨((FAd.out.step hbp).step hbq).x1, ((FCd.out.step hbp).step hbq).x1, (HBe.out.trans (hbp.mono hVs)).trans (hbq.mono (Nat.le_trans hVs hbp.size))⟩
             | exact ⟨(((FAd.out.step hbp).step hbq).step hbr).x1, (((FCd.out.step hbp).step hbq).step hbr).x1, ((HBe.out.trans (hbp.mono hVs)).trans (hbq.mono (Nat.le_trans hVs hbp.size))).trans (hbr.mono (Nat.le_trans hVs (Nat.le_trans hbp.size hbq.size)))⟩)
           (first
             | (go_at_call 13; refine (sameInts_any _ _ _ _ (sortZ ps) (sortZ zs) _ ((own_ints hop).step hbq) (own_ints hoq) (by rw [sortZ_length]; exact hpl) (by rw [sortZ_length]; exact hln)).mono ?_; rintro e wr9 ⟨rfl, hbr⟩; rw [HS.out, sameB_refl])
             | (go_at_call 25; refine (sorted_any _ _ zs _ (FCd.out.ints.step hbp) hln).mono ?_; rintro e wq ⟨aq, cq, rfl, hoq, hbq⟩)
             | (go_at_call 25; refine (sorted_any _ _ ps _ FAd.out.ints hpl).mono ?_; rintro e wp ⟨ap, cp, rfl, hop, hbp⟩))
         rename_i hHeld
         have HR := Lib.hid hHeld.2.2
         clear hHeld
         go_wp2
         go_ret
         exact ⟨rfl, HR.out⟩)
      | (have HOW : Hid (OwnI w7 w4.heap.size (.slice a7 ps.length c7) ps) := Lib.hid (own_mono ho7 (Nat.le_refl _))
         have HB7 : Hid (Below w4.heap.size w4.drew w7) := Lib.hid hb7
         clear ho7 hb7 FOa FOd out_0 out_1 f_0 f_1
         go_wp2_with fail
         obtain ⟨V, hV⟩ : ∃ V, V = w7.alloc (.cells #[.int .i64 m, .slice a7 ps.length c7] 25) := ⟨_, rfl⟩
         rw [← hV]
         have hbV : Below w4.heap.size w4.drew V := by rw [hV]; exact HB7.out.trans ((below1 w7 _).mono HB7.out.size)
         have FA : Hid (FB w7.heap.size m a7 ps c7 V) := Lib.hid (by rw [hV]; exact FB.start (own_ints HOW.out))
         have FC : Hid (FB w1.heap.size m (some ⟨b1, o1, none⟩) zs c1 V) := Lib.hid (FFd.out.step hbV)
         have HBB : Hid (Below w.heap.size w V) := Lib.hid (HBd.out.trans (hbV.mono HBd.out.size))
         clear hbV hV HOW HB7
         have d1 := FA.out.x1
         have e1 := FC.out.x1
         have FAd : Hid (FB w7.heap.size m a7 ps c7 V.drew) := Lib.hid ⟨FA.out.blk, FA.out.ints⟩
         have FCd : Hid (FB w1.heap.size m (some ⟨b1, o1, none⟩) zs c1 V.drew) := Lib.hid ⟨FC.out.blk, FC.out.ints⟩
         have HBe : Hid (Below w.heap.size w V.drew) := Lib.hid HBB.out.drew
         have hVs : w.heap.size ≤ V.heap.size := HBB.out.size
         go_region_held3 (fun w' => w'.cell? ⟨w7.heap.size, 1, none⟩ = some (.slice a7 ps.length c7) ∧ w'.cell? ⟨w1.heap.size, 1, none⟩ = some (.slice (some ⟨b1, o1, none⟩) zs.length c1) ∧ Below w.heap.size w w')
           (first
             | exact ⟨FAd.out.x1, FCd.out.x1, HBe.out⟩
             | exact ⟨(FAd.out.step hbp).x1, (FCd.out.step hbp).x1, HBe.out.trans (hbp.mono hVs)⟩
             | exact ⟨((FAd.out.step hbp).step hbq).x1, ((FCd.out.step hbp).step hbq).x1, (HBe.out.trans (hbp.mono hVs)).trans (hbq.mono (Nat.le_trans hVs hbp.size))⟩
             | exact ⟨(((FAd.out.step hbp).step hbq).step hbr).x1, (((FCd.out.step hbp).step hbq).step hbr).x1, ((HBe.out.trans (hbp.mono hVs)).trans (hbq.mono (Nat.le_trans hVs hbp.size))).trans (hbr.mono (Nat.le_trans hVs (Nat.le_trans hbp.size hbq.size)))⟩)
           (first
             | (go_at_call 13; refine (sameInts_any _ _ _ _ (sortZ ps) (sortZ zs) _ ((own_ints hop).step hbq) (own_ints hoq) (by rw [sortZ_length]; exact hpl) (by rw [sortZ_length]; exact hln)).mono ?_; rintro e wr9 ⟨rfl, hbr⟩; rw [HS.out, sameB_refl])
             | (go_at_call 25; refine (sorted_any _ _ zs _ (FCd.out.ints.step hbp) hln).mono ?_; rintro e wq ⟨aq, cq, rfl, hoq, hbq⟩)
             | (go_at_call 25; refine (sorted_any _ _ ps _ FAd.out.ints hpl).mono ?_; rintro e wp ⟨ap, cp, rfl, hop, hbp⟩))
         rename_i hHeld
         have HR := Lib.hid hHeld.2.2
         clear hHeld
         go_wp2
         go_ret
         exact ⟨rfl, HR.out⟩)

end Go.Proofs.Ytijhpfecbpkpdaa
