/- It is proved that the call of the law FnColourSets returns true; conditions: those of each statement. -/
import Derived.RowKit
import Derived.Laws.CopyRow
import Derived.Lib.SlBuf
import Derived.Deep.QuietTactic
import Derived.RangeFuncNested
import Derived.RangeFuncBound
import Derived.RangeFuncCalls
import Derived.RangeFuncLeaves
import Derived.RangeFuncBox
import Derived.RangeFuncWrites
import Derived.StillTailTactics
import Derived.Maps.OwnIn
import Derived.Maps.Ext
import Derived.DeepKeys4
import Derived.MapKept
import Derived.Test.YtnpfdgbbcapnkaaDoorRows
import Derived.WalkKit
import Derived.WalkSpells
import Derived.ProofKit
import Derived.OpenShut
import Derived.ShutString
import Derived.ChangeOld
import Derived.Below
import Derived.Deep.RegionHeld3
import Derived.BigQuiet
import Derived.Lib.Hide
import Derived.Lib.SmallJoins
import Derived.Outline
import Derived.Laws.MakeOwn
import Derived.Laws.OwnMore
import Derived.IntWalk
import Derived.Maps.AppendAt
import Derived.Deep.RegionLaw
import Derived.Deep.AppendLies
import Derived.Deep.RegionWith
import Derived.Lib.AppendZeros
import Derived.OwnWalk
import Derived.Lib.SlicesCompact
import Derived.Lib.OwnBridge
import Derived.OrdersIn
import Derived.TacticsIn
import Derived.Shelf.Sort.Plain
import Derived.Shelf.Slices.In.SortNone
import Derived.Shelf.Slices.CompactI
import Derived.Ground.Names2Prog
import Derived.Lib.SliceRun
import Derived.Shelf.RegionOpen
import Derived.Shelf.Abstract
import Derived.OwnWalkIn
import Derived.TacticsInMore
import Derived.LoopNIn
import Derived.LoopIn
import Derived.StillTail
import Derived.StillTactics
import Derived.Shelf.Spec.TrailingZeros
import Derived.Deep.LoopGhost
import Derived.Test.YtnpfdgbbcapnkaaDoorRbaa
import Derived.Test.YtnpfdgbbcapnkaaDoorRbai
import Derived.Test.YtnpfdgbbcapnkaaDoorDe
import Derived.Test.YtnpfdgbbcapnkaaDoorRbab
import Derived.Test.YtnpfdgbbcapnkaaDoorJh
import Derived.Test.YtnpfdgbbcapnkaaDoorJkg
import Derived.Test.YtnpfdgbbcapnkaaDoorJkh
import Derived.Test.YtnpfdgbbcapnkaaDoorJki
import Derived.Test.YtnpfdgbbcapnkaaDoorRbaq
import Derived.Test.YtnpfdgbbcapnkaaDoorRbba
import Derived.Test.YtnpfdgbbcapnkaaDoorRbah
import Derived.Test.YtnpfdgbbcapnkaaDoorRbak
import Derived.Test.YtnpfdgbbcapnkaaDoorRbas
import Derived.Test.YtnpfdgbbcapnkaaDoorPzB
namespace Go.Proofs.YtnpfdgbbcapnkaaDoor
open Go.RowKit

theorem sets_facts {m : Int} {zs : List Int} (h : famIn m zs = true) :
    ∃ k : Nat, m = (k : Int) ∧ 1 ≤ k ∧ k ≤ 6 ∧ zs.length ≤ 8 ∧ okCM m zs 2 = true ∧ outCM m zs 2 = (((csZ m zs).length : Nat) : Int) ∧ (csZ m zs).length ≤ 64 ∧
      (∀ i : Nat, i < (csZ m zs).length → (csZ m zs)[i]?.getD 0 + (csZ m zs)[(csZ m zs).length - 1 - i]?.getD 0 = fullI m ∧ 0 ≤ (csZ m zs)[i]?.getD 0 + (csZ m zs)[(csZ m zs).length - 1 - i]?.getD 0 ∧ (csZ m zs)[i]?.getD 0 + (csZ m zs)[(csZ m zs).length - 1 - i]?.getD 0 ≤ 63) := by
  have hf := h
  obtain ⟨k, rfl, hk1, hk6, hset, hl8⟩ := fam_nat2 h
  have hc : colIn 2 0 = true := by decide
  have hz : csZ (k : Int) zs = csL k zs := by unfold csZ; rw [hf]; rfl
  have hp : 2 ^ k ≤ 64 := Nat.pow_le_pow_right (n := 2) (by decide) hk6
  have hln := csTo_len k zs (2 ^ k)
  have hfull : fullI (k : Int) = ((2 ^ k - 1 : Nat) : Int) := by unfold fullI; rw [cast_full]; simp
  rw [hz]
  refine ⟨k, rfl, hk1, hk6, hl8, by unfold okCM; rw [hf, hc]; rfl, ?_, Nat.le_trans hln hp, fun i hi => ?_⟩
  · unfold outCM
    rw [hf, hc]
    simp only [Bool.and_self, if_true, Int.toNat_natCast]
    rw [← cnt_two hk6 hset]
    rfl
  · have := csL_back hi
    rw [hfull]
    exact ⟨this, by omega, by omega⟩

set_option maxRecDepth 100000 in
set_option maxHeartbeats 2000000 in
theorem drawColourSets_any (a : Option Addr) (n cap : Nat) (w : World) (hb : Bys w w.heap.size a n) (hn : n ≤ 1048576) (hc : n ≤ cap) (hc2 : cap ≤ 9223372036854775807) :
    Calls Tryd.prog 38 #[.slice a n cap] w (DrawnOne w) := by
  have b1 := below1 w (.cells #[.int .i64 0, .slice none 0 0] 25)
  have HB := Lib.hid ((hb.below b1).fewer (B' := (w.alloc (.cells #[.int .i64 0, .slice none 0 0] 25)).heap.size) (by simp) (Nat.le_refl n))
  have HX : Hid (HasBlk (w.alloc (.cells #[.int .i64 0, .slice none 0 0] 25)) w.heap.size #[.int .i64 0, .slice none 0 0] 25) := Lib.hid (alloc_new w _)
  have HBL := Lib.hid b1
  clear hb b1
  go_enter Tryd.func38, Tryd.ntmps38
  go_wp2_with fail
  refine (oneD_any a n cap _ HB.out hn hc hc2).mono ?_
  rintro e w2 ⟨m, a2, zs, c2, rfl, hl, ho, D2⟩
  have q0 : HasBlk w2 w.heap.size #[.int .i64 0, .slice none 0 0] 25 := (D2.block _ (by simp)).trans HX.out
  have d0 := (blk_cell q0 0).trans (cell2_0 _ _)
  have d1 := (blk_cell q0 1).trans (cell2_1 _ _)
  have f0 := blk_frozen q0 0
  have f1 := blk_frozen q0 1
  have HO : Hid (OwnI w2 (w.heap.size + 1) (.slice a2 zs.length c2) zs) := Lib.hid (own_mono ho (by simp))
  have HBW := Lib.hid (HBL.out.trans (D2.mono (by simp)))
  clear ho D2 q0
  go_wp2
  refine bodyPost_ret (v := .agg #[.int .i64 m, .slice a2 zs.length c2]) (by simp [results, Tryd.results38, go_sem, d0, d1]) rfl ?_
  refine ⟨m, a2, zs, c2, rfl, hl, ?_, ?_⟩
  · exact own_mono (ownsRow_setCell_below (ownsRow_setCell_below HO.out (a := ⟨w.heap.size, 0, none⟩) (show w.heap.size < w.heap.size + 1 by omega) _) (a := ⟨w.heap.size, 1, none⟩) (show w.heap.size < w.heap.size + 1 by omega) _) (by omega)
  · exact (HBW.out.setCell (p := ⟨w.heap.size, 0, none⟩) (Nat.le_refl _) _).setCell (p := ⟨w.heap.size, 1, none⟩) (Nat.le_refl _) _

set_option maxRecDepth 100000 in
set_option maxHeartbeats 8000000 in
theorem walkFnColourSets (a : Option Addr) (n cap : Nat) (w : World) (hb : Bys w w.heap.size a n) (hT : Tab w) (hn : n ≤ 1048576) (hc : n ≤ cap) (hc2 : cap ≤ 9223372036854775807) :
    Calls Tryd.prog 9 #[.slice a n cap] w fun e w' => e = .returned (.bool true) ∧ Below w.heap.size w w' := by
  have HBy := Lib.hid hb
  have HT := Lib.hid hT
  clear hb hT
  go_enter Tryd.func9, Tryd.ntmps9
  go_wp2_with fail
  refine (drawColourSets_any a n cap w HBy.out hn hc hc2).mono ?_
  rintro e w1 ⟨m, a1, zs, c1, rfl, hl, ho1, hb1⟩
  have F1 := FB.start (m := m) (c := c1) (own_ints ho1)
  have B1 := Lib.hid (hb1.trans ((below1 w1 (.cells #[.int .i64 m, .slice a1 zs.length c1] 25)).mono hb1.size))
  have hln : zs.length ≤ 1048576 := by omega
  have f_f_1 := Lib.hid F1
  clear F1 ho1 hb1
  have f_0 := f_f_1.out.x0
  have f_1 := f_f_1.out.x1
  have hql : (csZ m zs).length ≤ 1048576 := csZ_len m zs
  have HFF := Lib.hid (sets_facts (m := m) (zs := zs))
  have HI := Lib.hid (fun W hi => implColourSets_any m a1 c1 zs W hi hln)
  have HSP := Lib.hid (fun W hi => specColourSets_any m a1 c1 zs W hi hln)
  have HIM := Lib.hid (fun W hi hT => implColourMany_any m 2 a1 c1 zs W hi hT hln)
  obtain ⟨qs, hqs⟩ : ∃ qs, qs = csZ m zs := ⟨_, rfl⟩
  obtain ⟨K, hK⟩ : ∃ K, K = famIn m zs := ⟨_, rfl⟩
  rw [← hqs] at HI HSP hql HFF
  rw [← hK] at HI HSP HFF
  clear hqs hK
  go_wp2_with fail
  refine (HI.out _ f_f_1.out.ints).mono ?_
  rintro e w2 ⟨a2, c2, rfl, ho2, hb2⟩
  have G2 := Lib.hid (own_ints ho2)
  have B2 := Lib.hid (B1.out.trans (hb2.mono B1.out.size))
  have f_f_2 := Lib.hid (f_f_1.out.step hb2)
  clear ho2 hb2 B1 f_f_1
  clear f_0 f_1
  have f_0 := f_f_2.out.x0
  have f_1 := f_f_2.out.x1
  go_wp2_with fail
  refine (HSP.out _ f_f_2.out.ints).mono ?_
  rintro e w3 ⟨a3, c3, rfl, ho3, hb3⟩
  have G3 := Lib.hid (own_ints ho3)
  have B3 := Lib.hid (B2.out.trans (hb3.mono B2.out.size))
  have f_f_3 := Lib.hid (f_f_2.out.step hb3)
  have l_lo_3 := Lib.hid (G2.out.step hb3)
  clear ho3 hb3 B2 f_f_2 G2
  clear f_0 f_1
  have f_0 := f_f_3.out.x0
  have f_1 := f_f_3.out.x1
  clear HI HSP
  cases K
  · clear HFF HIM
    go_wp2_with fail
    refine (sameInts_any _ _ _ _ _ _ _ l_lo_3.out G3.out hql hql).mono ?_
    rintro e w4 ⟨rfl, hb4⟩
    rw [sameB_refl]
    have B4 := Lib.hid (B3.out.trans (hb4.mono B3.out.size))
    have f_f_4 := Lib.hid (f_f_3.out.step hb4)
    have l_lo_4 := Lib.hid (l_lo_3.out.step hb4)
    have l_lw_4 := Lib.hid (G3.out.step hb4)
    clear hb4 B3 f_f_3 l_lo_3 G3
    clear f_0 f_1
    go_wp2_with fail
    refine (sameInts_any _ _ _ _ _ _ _ l_lo_4.out l_lw_4.out hql hql).mono ?_
    rintro e w5 ⟨rfl, hb5⟩
    rw [sameB_refl]
    have B5 := Lib.hid (B4.out.trans (hb5.mono B4.out.size))
    clear hb5 B4 f_f_4 l_lo_4 l_lw_4
    go_wp2
    go_ret
    exact ⟨rfl, B5.out⟩
  · obtain ⟨k, rfl, hk1, hk6, hl8, hok, hout, hql64, hback⟩ := HFF.out rfl
    rw [hok, hout] at HIM
    have HBACK := Lib.hid hback
    have hm1 : (1 : Int) ≤ (k : Int) := by omega
    have hm6 : (k : Int) ≤ 6 := by omega
    obtain ⟨L, hL⟩ : ∃ L, L = qs.length := ⟨_, rfl⟩
    have HL := Lib.hid hL
    clear HFF hok hout hback
    go_wp2_with fail
    refine (sameInts_any _ _ _ _ _ _ _ l_lo_3.out G3.out hql hql).mono ?_
    rintro e w4 ⟨rfl, hb4⟩
    rw [sameB_refl]
    have B4 := Lib.hid (B3.out.trans (hb4.mono B3.out.size))
    have f_f_4 := Lib.hid (f_f_3.out.step hb4)
    have l_lo_4 := Lib.hid (l_lo_3.out.step hb4)
    clear hb4 B3 f_f_3 l_lo_3 G3
    clear f_0 f_1
    have f_0 := f_f_4.out.x0
    have f_1 := f_f_4.out.x1
    have HM4 := Lib.hid (HIM.out w4 f_f_4.out.ints (HT.out.below B4.out HT.out.lt))
    rw [← hL] at hql64
    rw [← hL] at HM4
    rw [← hL]
    clear hL hql HIM
    go_wp2_with fail
    refine HM4.out.mono ?_
    rintro e w5 ⟨rfl, hb5⟩
    have B5 := Lib.hid (B4.out.trans (hb5.mono B4.out.size))
    have f_f_5 := Lib.hid (f_f_4.out.step hb5)
    have l_lo_5 := Lib.hid (l_lo_4.out.step hb5)
    clear hb5 B4 f_f_4 l_lo_4 HM4
    clear f_0 f_1
    go_wp2
    go_loopw [10] (fun s10 wr => ∃ i : Nat, i ≤ L ∧ s10 = .int .i64 (i : Int) ∧ Hid (Below w5.heap.size w5 wr)) (fun s10 _ => L - (intOf s10).toNat)
    case atStart => exact ⟨0, Nat.zero_le _, rfl, Lib.hid (Below.refl _ _)⟩
    case round =>
      obtain ⟨i, hi, rfl, HS⟩ := hrel
      have f_f_r := Lib.hid (f_f_5.out.step HS.out)
      have l_lo_r := Lib.hid (l_lo_5.out.step HS.out)
      have f_0 := f_f_r.out.x0
      have f_1 := f_f_r.out.x1
      by_cases hlt : i < L
      · have hiI : (i : Int) < (L : Int) := by omega
        have hi0 : (0 : Int) ≤ (i : Int) := by omega
        have hbk := HBACK.out i (by rw [← HL.out]; exact hlt)
        obtain ⟨j, hj⟩ : ∃ j : Nat, j = L - 1 - i := ⟨_, rfl⟩
        have hjL : j < L := by omega
        have hjI : (L : Int) - 1 - (i : Int) = (j : Int) := by omega
        have hjI2 : (j : Int) < (L : Int) := by omega
        have hj0 : (0 : Int) ≤ (j : Int) := by omega
        rw [← HL.out, ← hj] at hbk
        obtain ⟨bq, oq, rfl, hbq, hci⟩ := l_lo_r.out.at_ (k := i) (by rw [← HL.out]; exact hlt)
        obtain ⟨bq2, oq2, he2, hbq2, hcj⟩ := l_lo_r.out.at_ (k := j) (by rw [← HL.out]; exact hjL)
        injection he2 with he2
        injection he2 with e1 e2
        subst e1
        subst e2
        obtain ⟨x, hx⟩ : ∃ x, x = qs[i]?.getD 0 := ⟨_, rfl⟩
        obtain ⟨y, hy⟩ : ∃ y, y = qs[j]?.getD 0 := ⟨_, rfl⟩
        rw [← hx, ← hy] at hbk
        rw [← hx] at hci
        rw [← hy] at hcj
        obtain ⟨hxy, h0, h63⟩ := hbk
        have HWH := Lib.hid (fun W => whole_any (k : Int) a1 zs.length c1 W hm1 hm6)
        rw [← hxy] at HWH
        have hw1 : IntKind.i64.wrap ((L : Int) - 1) = (L : Int) - 1 := by rw [IntKind.wrap_i64]; omega
        have hw2 : IntKind.i64.wrap ((L : Int) - 1 - (i : Int)) = (j : Int) := by rw [hjI, IntKind.wrap_i64]; omega
        have hw3 : IntKind.i64.wrap (x + y) = x + y := by rw [IntKind.wrap_i64]; omega
        clear hx hy hj hxy hjI
        have hlf : w1.heap.size < wr.drew.heap.size := lt_of_cell f_0
        have hlq : bq < wr.drew.heap.size := lt_of_cell hci
        go_wp2
        go_region_held3 (fun w' => w'.cell? ⟨w1.heap.size, 0, none⟩ = some (.int .i64 (k : Int)) ∧ w'.cell? ⟨w1.heap.size, 1, none⟩ = some (.slice a1 zs.length c1) ∧ w'.cell? ⟨bq, oq + i, none⟩ = some (.int .i64 x) ∧ w'.cell? ⟨bq, oq + j, none⟩ = some (.int .i64 y))
          (first
            | exact ⟨f_0, f_1, hci, hcj⟩
            | exact ⟨(hb6.cell (p := ⟨w1.heap.size, 0, none⟩) hlf).trans f_0, (hb6.cell (p := ⟨w1.heap.size, 1, none⟩) hlf).trans f_1, (hb6.cell (p := ⟨bq, oq + i, none⟩) hlq).trans hci, (hb6.cell (p := ⟨bq, oq + j, none⟩) hlq).trans hcj⟩)
          (first
            | (go_at_call 21; with_reducible refine (HWH.out wr.drew).mono ?_; rintro e w6 ⟨rfl, hb6⟩))
        rename_i hHeldX
        clear hHeldX
        have HB6 : Hid (Below w5.heap.size w5 w6) := Lib.hid (HS.out.drew.trans (hb6.mono HS.out.size))
        clear hb6
        go_wp2
        go_roundw
        case rel => exact ⟨i + 1, by omega, by go_num, HB6⟩
        case measure => simp [intOf]; omega
      · obtain rfl : i = L := by omega
        have BR := Lib.hid (B5.out.trans (HS.out.mono B5.out.size))
        go_wp2
        all_goals (go_ret; exact ⟨rfl, BR.out⟩)

end Go.Proofs.YtnpfdgbbcapnkaaDoor
