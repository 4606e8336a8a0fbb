/- It is proved that a family of chapter 5, drawn from bytes and written again, is the call's own; conditions: those of each statement. -/
import Derived.StillTailTactics
import Derived.Test.YtgaappbcekllhaaDoorRows
import Derived.WalkKit
import Derived.WalkSpells
import Derived.ProofKit
import Derived.OpenShut
import Derived.ShutString
import Derived.ChangeOld
import Derived.Below
import Derived.Deep.RegionHeld3
import Derived.Deep.QuietTactic
import Derived.BigQuiet
import Derived.Lib.Hide
import Derived.Lib.SmallJoins
import Derived.Outline
import Derived.Laws.MakeOwn
import Derived.Laws.OwnMore
import Derived.IntWalk
import Derived.Deep.RegionLaw
import Derived.Deep.AppendLies
import Derived.RangeFuncNested
import Derived.RangeFuncBound
import Derived.RangeFuncCalls
import Derived.RangeFuncLeaves
import Derived.RangeFuncBox
import Derived.Shelf.Abstract
import Derived.Shelf.RegionOpen
import Derived.OwnWalkIn
import Derived.TacticsInMore
import Derived.LoopNIn
import Derived.LoopIn
import Derived.Maps.AppendAt
import Derived.OwnWalk
import Derived.Shelf.Spec.TrailingZeros
import Derived.Test.YtgaappbcekllhaaDoorCaaa
import Derived.Test.YtgaappbcekllhaaDoorCaab
import Derived.Test.YtgaappbcekllhaaDoorDa
import Derived.Test.YtgaappbcekllhaaDoorDb
import Derived.Test.YtgaappbcekllhaaDoorDc
import Derived.Test.YtgaappbcekllhaaDoorDd
import Derived.Test.YtgaappbcekllhaaDoorCaad
import Derived.Test.YtgaappbcekllhaaDoorCaae
namespace Go.Proofs.YtgaappbcekllhaaDoor
open Go.RowKit

theorem own_wr {w : World} {B : Nat} {a : Option Addr} {n c k : Nat} {zs : List Int} (h : OwnI w B (.slice a n c) zs) (hk : k < zs.length) :
    ∃ g, a = some ⟨g, 0, none⟩ ∧ B ≤ g ∧ g < w.heap.size ∧ w.cell? ⟨g, k, none⟩ = some (.int .i64 (zs[k]?.getD 0)) ∧ w.frozen? ⟨g, k, none⟩ = false ∧
      ∀ x, OwnI (w.setCell ⟨g, k, none⟩ (.int .i64 x)) B (.slice a n c) (zs.set k x) := by
  have h' := h
  rcases h.2 with ⟨h2, hn⟩ | ⟨g, cap, cur, e, hb, hg, hnc, hcm, hcs, hct⟩
  · omega
  · injection e with e1 e2 e3
    subst e1
    simp only [Nat.mul_one] at hct hcs
    have hcell : cur[k]? = some (.int .i64 (zs[k]?.getD 0)) := by
      have : (cur.toList.take zs.length)[k]? = (zs.map (Value.int .i64))[k]? := by rw [hct]
      rw [List.getElem?_take_of_lt hk, Array.getElem?_toList] at this
      rw [this, List.getElem?_map]
      simp [hk]
    refine ⟨g, rfl, hb, (Array.getElem?_eq_some_iff.1 hg).1, ?_, ?_, fun x => ?_⟩
    · exact (blk_cell hg k).trans hcell
    · exact blk_frozen hg _
    · refine ⟨by simp, .inr ⟨g, cap, cur.setIfInBounds k (.int .i64 x), by rw [List.length_set, e2, e3], hb, heap_setCell_same w g k cur 3 _ hg, by rw [List.length_set]; exact hnc, hcm, by simp [hcs], ?_⟩⟩
      rw [List.length_set, Nat.mul_one, Array.toList_setIfInBounds, List.take_set, hct, List.map_set]

set_option maxRecDepth 100000 in
set_option maxHeartbeats 4000000 in
theorem spokenD_any (a : Option Addr) (n cap : Nat) (w : World) (hb : Bys w w.heap.size a n) (hn : n ≤ 1048576) (hc : n ≤ cap) (hc2 : cap ≤ 9223372036854775807) :
    Calls Tryd.prog 15 #[.slice a n cap] w (DrawnOne w) := by
  have ha : n ≠ 0 → ∃ g off, a = some ⟨g, off, none⟩ := fun h => by obtain ⟨g, off, e, _⟩ := hb.resolve_left h; exact ⟨g, off, e⟩
  have HB := Lib.hid hb
  clear hb
  go_enter Tryd.func15, Tryd.ntmps15
  go_wp2_with fail
  refine (openD_any a n cap _ hn hc hc2 ha).mono ?_
  rintro e w1 ⟨k, hk, rfl, rfl⟩
  have b1 := below2 w (.cells #[.int .i64 0, .slice none 0 0] 25) (.cells #[.slice a k cap, .int .i64 0] 68)
  have HD1 : Hid (DS ((w.alloc (.cells #[.int .i64 0, .slice none 0 0] 25)).alloc (.cells #[.slice a k cap, .int .i64 0] 68)) (w.heap.size + 1) a k cap 0 ((w.alloc (.cells #[.int .i64 0, .slice none 0 0] 25)).alloc (.cells #[.slice a k cap, .int .i64 0] 68))) := Lib.hid ⟨⟨0, Nat.le_refl _, alloc2_1 w _ _⟩, World.grownBy.refl _ _⟩
  have HB1 := Lib.hid ((HB.out.below b1).fewer (B' := w.heap.size + 1) (by omega) hk)
  have HX : Hid (HasBlk ((w.alloc (.cells #[.int .i64 0, .slice none 0 0] 25)).alloc (.cells #[.slice a k cap, .int .i64 0] 68)) w.heap.size #[.int .i64 0, .slice none 0 0] 25) := Lib.hid (alloc2_0 w _ _)
  have HBL := Lib.hid b1
  have hs1 : ((w.alloc (.cells #[.int .i64 0, .slice none 0 0] 25)).alloc (.cells #[.slice a k cap, .int .i64 0] 68)).heap.size = w.heap.size + 2 := by simp
  clear b1
  go_wp2_with fail
  refine (someD_any 6 5 6 5 rfl rfl (by decide) (by decide) (by decide) (w.heap.size + 1) a k cap 0 _ HD1.out HB1.out (by simp) (by omega) (by omega)).mono ?_
  rintro e w2 ⟨m, a2, zs, c2, rfl, ⟨hl, hm1, hm6⟩, ho, D2⟩
  have HX2 : Hid (HasBlk w2 w.heap.size #[.int .i64 0, .slice none 0 0] 25) := Lib.hid (HX.out.kept D2.gr (by simp))
  have HO2 : Hid (OwnI w2 (w.heap.size + 2) (.slice a2 zs.length c2) zs) := Lib.hid (own_mono ho (by simp))
  have HBW2 := Lib.hid (HBL.out.trans ((Below.refl w.heap.size _).grown D2.gr (by simp; omega) (fun g e => by injection e; omega)))
  have hs2 : w.heap.size + 2 ≤ w2.heap.size := by rw [← hs1]; exact D2.gr.size
  have HD2 := Lib.hid D2
  clear ho D2 HX HBL
  go_wp2_with fail
  refine (pickD (HD2.out.alloc (.cells #[.int .i64 m, .slice a2 zs.length c2] 25) (by simp)) HB1.out (by simp) (by omega) (by omega) _ (by omega) (by omega)).mono ?_
  rintro e w4 ⟨r4, rfl, -, D4, g4⟩
  have HX4 : Hid (HasBlk w4 w.heap.size #[.int .i64 0, .slice none 0 0] 25) := Lib.hid ((HX2.out.alloc _).kept g4 (by simp))
  have HF4 : Hid (HasBlk w4 w2.heap.size #[.int .i64 m, .slice a2 zs.length c2] 25) := Lib.hid (HasBlk.kept (alloc_new w2 (.cells #[.int .i64 m, .slice a2 zs.length c2] 25)) g4 (by simp; omega))
  have hgb : ∀ g, (Value.slice a2 zs.length c2).ownBlock = some g → w.heap.size + 2 ≤ g ∧ g < w2.heap.size := fun g e => World.ownsRow.lt HO2.out g e
  have HO4 : Hid (OwnI w4 (w.heap.size + 2) (.slice a2 zs.length c2) zs) := Lib.hid (own_grown (World.ownsRow.alloc HO2.out _) g4 (by omega))
  have HBW4 : Hid (Below w.heap.size w w4) := Lib.hid ((HBW2.out.trans (below1 w2 (.cells #[.int .i64 m, .slice a2 zs.length c2] 25) |>.mono (by omega))).grown g4 (by simp; omega) (fun g e => by injection e; omega))
  have hs4 : w2.heap.size < w4.heap.size := lt_of_some HF4.out
  clear D4 g4 HX2 HO2 HBW2 HD2
  obtain ⟨F, hF⟩ : ∃ F, F = w2.heap.size := ⟨_, rfl⟩
  rw [← hF] at HF4 hgb hs4 hs2
  by_cases h4 : r4 = 0
  · have d0 := (blk_cell HF4.out 0).trans (cell2_0 _ _)
    have d1 := (blk_cell HF4.out 1).trans (cell2_1 _ _)
    subst h4
    rw [← hF]
    clear hF
    go_wp2
    go_loopw [5] (fun i wr => ∃ (j : Nat) (ys : List Int), j ≤ zs.length ∧ i = .int .i64 (j : Int) ∧ ys.length = zs.length ∧ OwnI wr (w.heap.size + 2) (.slice a2 zs.length c2) ys ∧ HasBlk wr w.heap.size #[.int .i64 0, .slice none 0 0] 25 ∧ HasBlk wr F #[.int .i64 m, .slice a2 zs.length c2] 25 ∧ Below w.heap.size w wr) (fun i _ => zs.length - (intOf i).toNat)
    case atStart => exact ⟨0, zs, Nat.zero_le _, rfl, rfl, HO4.out, HX4.out, HF4.out, HBW4.out⟩
    case round =>
      obtain ⟨j, ys, hj, rfl, hys, ho, hx, hf, hbw⟩ := hrel
      have HOr := Lib.hid ho
      have HXr := Lib.hid hx
      have HFr := Lib.hid hf
      have HBr := Lib.hid hbw
      clear ho hx hf hbw d0 d1
      have d0 := (blk_cell HFr.out 0).trans (cell2_0 _ _)
      have d1 := (blk_cell HFr.out 1).trans (cell2_1 _ _)
      have HY := Lib.hid hys
      clear hys
      by_cases hgo : (j : Int) < (zs.length : Int) ∧ (j : Int) < m
      · obtain ⟨h1, h2⟩ := hgo
        obtain ⟨g, rfl, hbg, hgl, hc, hfz, hset⟩ := own_wr HOr.out (k := j) (by rw [HY.out]; omega)
        have hgF := (hgb g rfl).2
        obtain ⟨z, hz⟩ : ∃ z, z = ys[j]?.getD 0 := ⟨_, rfl⟩
        rw [← hz] at hc
        have hj0 : (0 : Int) ≤ (j : Int) := by omega
        have hj64 : (j : Int) < 64 := by omega
        have HS := Lib.hid hset
        clear hset hz
        go_wp2
        go_still_tail 12, (by kernel_rfl)
        repeat still_step
        try refine wpStill_nil ?_
        change wpList _ _ _ _ _ wr.drew
        go_wp2
        go_roundw
        case rel => exact ⟨j + 1, ys.set j _, by omega, by go_num, by rw [List.length_set]; exact HY.out, HS.out _, HXr.out.far (p := ⟨g, j, none⟩) (show w.heap.size ≠ g by omega) _, HFr.out.far (p := ⟨g, j, none⟩) (show F ≠ g by omega) _, (HBr.out.setCell (p := ⟨g, j, none⟩) (show w.heap.size ≤ g by omega) _).drew⟩
        case measure => simp [intOf]; omega
      · have e0 := (blk_cell HXr.out 0).trans (cell2_0 _ _)
        have e1 := (blk_cell HXr.out 1).trans (cell2_1 _ _)
        have f0 := blk_frozen HXr.out 0
        have f1 := blk_frozen HXr.out 1
        have HOy : OwnI wr (w.heap.size + 2) (.slice a2 ys.length c2) ys := by rw [HY.out]; exact HOr.out
        have HRET : Hid (DrawnOne w (.returned (.agg #[.int .i64 m, .slice a2 zs.length c2])) ((wr.setCell ⟨w.heap.size, 0, none⟩ (.int .i64 m)).setCell ⟨w.heap.size, 1, none⟩ (.slice a2 zs.length c2))) := Lib.hid ⟨m, a2, ys, c2, by rw [HY.out], by have := HY.out; omega, own_mono (ownsRow_setCell_below (ownsRow_setCell_below HOy (a := ⟨w.heap.size, 0, none⟩) (show w.heap.size < w.heap.size + 2 by omega) _) (a := ⟨w.heap.size, 1, none⟩) (show w.heap.size < w.heap.size + 2 by omega) _) (by omega), (HBr.out.setCell (p := ⟨w.heap.size, 0, none⟩) (Nat.le_refl _) _).setCell (p := ⟨w.heap.size, 1, none⟩) (Nat.le_refl _) _⟩
        by_cases h1 : (j : Int) < (zs.length : Int)
        · have h2 : ¬ (j : Int) < m := fun h => hgo ⟨h1, h⟩
          clear hgo
          go_wp2
          refine bodyPost_ret (v := .agg #[.int .i64 m, .slice a2 zs.length c2]) (by simp [results, Tryd.results15, go_sem, e0, e1]) rfl ?_
          exact HRET.out
        · clear hgo
          go_wp2
          refine bodyPost_ret (v := .agg #[.int .i64 m, .slice a2 zs.length c2]) (by simp [results, Tryd.results15, go_sem, e0, e1]) rfl ?_
          exact HRET.out
  · have d0 := (blk_cell HF4.out 0).trans (cell2_0 _ _)
    have d1 := (blk_cell HF4.out 1).trans (cell2_1 _ _)
    have e0 := (blk_cell HX4.out 0).trans (cell2_0 _ _)
    have e1 := (blk_cell HX4.out 1).trans (cell2_1 _ _)
    have f0 := blk_frozen HX4.out 0
    have f1 := blk_frozen HX4.out 1
    rw [← hF]
    clear hF
    go_wp2
    refine bodyPost_ret (v := .agg #[.int .i64 m, .slice a2 zs.length c2]) (by simp [results, Tryd.results15, go_sem, e0, e1]) rfl ?_
    refine ⟨m, a2, zs, c2, rfl, by omega, ?_, ?_⟩
    · exact own_mono (ownsRow_setCell_below (ownsRow_setCell_below HO4.out (a := ⟨w.heap.size, 0, none⟩) (show w.heap.size < w.heap.size + 2 by omega) _) (a := ⟨w.heap.size, 1, none⟩) (show w.heap.size < w.heap.size + 2 by omega) _) (by omega)
    · exact (HBW4.out.setCell (p := ⟨w.heap.size, 0, none⟩) (Nat.le_refl _) _).setCell (p := ⟨w.heap.size, 1, none⟩) (Nat.le_refl _) _

set_option maxRecDepth 100000 in
set_option maxHeartbeats 2000000 in
theorem drawSpeakerBlocked_any (a : Option Addr) (n cap : Nat) (w : World) (hb : Bys w w.heap.size a n) (hn : n ≤ 1048576) (hc : n ≤ cap) (hc2 : cap ≤ 9223372036854775807) :
    Calls Tryd.prog 5 #[.slice a n cap] w (DrawnOne w) := by
  have b1 := below1 w (.cells #[.int .i64 0, .slice none 0 0] 25)
  have HB := Lib.hid ((hb.below b1).fewer (B' := (w.alloc (.cells #[.int .i64 0, .slice none 0 0] 25)).heap.size) (by simp) (Nat.le_refl n))
  have HX : Hid (HasBlk (w.alloc (.cells #[.int .i64 0, .slice none 0 0] 25)) w.heap.size #[.int .i64 0, .slice none 0 0] 25) := Lib.hid (alloc_new w _)
  have HBL := Lib.hid b1
  clear hb b1
  go_enter Tryd.func5, Tryd.ntmps5
  go_wp2_with fail
  refine (spokenD_any a n cap _ HB.out hn hc hc2).mono ?_
  rintro e w2 ⟨m, a2, zs, c2, rfl, hl, ho, D2⟩
  have q0 : HasBlk w2 w.heap.size #[.int .i64 0, .slice none 0 0] 25 := (D2.block _ (by simp)).trans HX.out
  have d0 := (blk_cell q0 0).trans (cell2_0 _ _)
  have d1 := (blk_cell q0 1).trans (cell2_1 _ _)
  have f0 := blk_frozen q0 0
  have f1 := blk_frozen q0 1
  have HO : Hid (OwnI w2 (w.heap.size + 1) (.slice a2 zs.length c2) zs) := Lib.hid (own_mono ho (by simp))
  have HBW := Lib.hid (HBL.out.trans (D2.mono (by simp)))
  clear ho D2 q0
  go_wp2
  refine bodyPost_ret (v := .agg #[.int .i64 m, .slice a2 zs.length c2]) (by simp [results, Tryd.results5, go_sem, d0, d1]) rfl ?_
  refine ⟨m, a2, zs, c2, rfl, hl, ?_, ?_⟩
  · exact own_mono (ownsRow_setCell_below (ownsRow_setCell_below HO.out (a := ⟨w.heap.size, 0, none⟩) (show w.heap.size < w.heap.size + 1 by omega) _) (a := ⟨w.heap.size, 1, none⟩) (show w.heap.size < w.heap.size + 1 by omega) _) (by omega)
  · exact (HBW.out.setCell (p := ⟨w.heap.size, 0, none⟩) (Nat.le_refl _) _).setCell (p := ⟨w.heap.size, 1, none⟩) (Nat.le_refl _) _

end Go.Proofs.YtgaappbcekllhaaDoor
