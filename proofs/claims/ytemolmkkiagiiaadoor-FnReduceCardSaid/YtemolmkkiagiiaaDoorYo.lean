/- It is proved that the call of the law FnReduce returns true; conditions: those of each statement. -/
import Derived.Deep.QuietTactic
import Derived.BigQuiet
import Derived.RowKit
import Derived.Laws.CopyRow
import Derived.Lib.SlBuf
import Derived.RangeFuncNested
import Derived.RangeFuncBound
import Derived.RangeFuncCalls
import Derived.RangeFuncLeaves
import Derived.RangeFuncBox
import Derived.RangeFuncWrites
import Derived.StillTailTactics
import Derived.Maps.OwnIn
import Derived.Maps.Ext
import Derived.DeepKeys4
import Derived.MapKept
import Derived.Test.YtemolmkkiagiiaaDoorRows
import Derived.WalkKit
import Derived.WalkSpells
import Derived.ProofKit
import Derived.OpenShut
import Derived.ShutString
import Derived.ChangeOld
import Derived.Below
import Derived.Deep.RegionHeld3
import Derived.Lib.Hide
import Derived.Lib.SmallJoins
import Derived.Outline
import Derived.Laws.MakeOwn
import Derived.Laws.OwnMore
import Derived.IntWalk
import Derived.Maps.AppendAt
import Derived.Sort.MapsRangeIn
import Derived.Deep.RegionLaw
import Derived.Deep.AppendLies
import Derived.Lib.AppendZeros
import Derived.OwnWalk
import Derived.Lib.SlicesCompact
import Derived.Lib.OwnBridge
import Derived.OrdersIn
import Derived.TacticsIn
import Derived.Shelf.Sort.Plain
import Derived.Shelf.Slices.In.SortNone
import Derived.Shelf.Slices.CompactI
import Derived.Ground.Names2Prog
import Derived.Lib.SliceRun
import Derived.Shelf.RegionOpen
import Derived.Shelf.Abstract
import Derived.OwnWalkIn
import Derived.TacticsInMore
import Derived.LoopNIn
import Derived.LoopIn
import Derived.StillTail
import Derived.StillTactics
import Derived.Shelf.Spec.TrailingZeros
import Derived.Deep.LoopGhost
import Derived.Test.YtemolmkkiagiiaaDoorPaaa
import Derived.Test.YtemolmkkiagiiaaDoorPaac
import Derived.Test.YtemolmkkiagiiaaDoorPaab
import Derived.Test.YtemolmkkiagiiaaDoorPaaq
import Derived.Test.YtemolmkkiagiiaaDoorDe
import Derived.Test.YtemolmkkiagiiaaDoorPaar
import Derived.Test.YtemolmkkiagiiaaDoorPaad
import Derived.Test.YtemolmkkiagiiaaDoorPaah
import Derived.Test.YtemolmkkiagiiaaDoorPaas
import Derived.Test.YtemolmkkiagiiaaDoorPaae
import Derived.Test.YtemolmkkiagiiaaDoorYa
import Derived.Test.YtemolmkkiagiiaaDoorPaaw
import Derived.Test.YtemolmkkiagiiaaDoorPaba
import Derived.Test.YtemolmkkiagiiaaDoorPabb
import Derived.Test.YtemolmkkiagiiaaDoorYg
import Derived.Test.YtemolmkkiagiiaaDoorPabd
import Derived.Test.YtemolmkkiagiiaaDoorYj
import Derived.Test.YtemolmkkiagiiaaDoorYm
namespace Go.Proofs.YtemolmkkiagiiaaDoor
open Go.RowKit

set_option maxRecDepth 100000 in
set_option maxHeartbeats 8000000 in
theorem walkFnReduce (a : Option Addr) (n cap : Nat) (w : World) (hb : Bys w w.heap.size a n) (hT : Tab w) (hn : n ≤ 1048576) (hc : n ≤ cap) (hc2 : cap ≤ 9223372036854775807) :
    Calls Tryd.prog 3 #[.slice a n cap] w fun e w' => e = .returned (.bool true) ∧ Below w.heap.size w w' := by
  have HBy := Lib.hid hb
  have HT := Lib.hid hT
  clear hb hT
  go_enter Tryd.func3, Tryd.ntmps3
  go_wp2_with fail
  refine (drawEarReduce_any a n cap w HBy.out hn hc hc2).mono ?_
  rintro e w1 ⟨m, a1, zs, c1, rfl, hl, ho1, hb1⟩
  have F1 := FB.start (m := m) (c := c1) (own_ints ho1)
  have B1 := Lib.hid (hb1.trans ((below1 w1 (.cells #[.int .i64 m, .slice a1 zs.length c1] 25)).mono hb1.size))
  have hln : zs.length ≤ 1048576 := by omega
  have f_f_1 := Lib.hid F1
  clear F1 ho1 hb1
  have f_0 := f_f_1.out.x0
  have f_1 := f_f_1.out.x1
  obtain ⟨M, hM⟩ : ∃ M, M = famM (famIn m zs) m := ⟨_, rfl⟩
  obtain ⟨ys, hys⟩ : ∃ ys, ys = famF (famIn m zs) (redZ m.toNat) zs := ⟨_, rfl⟩
  have hyl : ys.length ≤ 1048576 := by rw [hys]; exact redLen m zs hln
  have HI := Lib.hid (fun W hz hT => implReduce_any m a1 c1 zs W hz hT hln)
  have HSp := Lib.hid (fun W hz => specReduce_any m a1 c1 zs W hz hln)
  rw [← hM, ← hys] at HI HSp
  have HM := Lib.hid hM
  have HYS := Lib.hid hys
  clear hM hys
  go_wp2_with fail
  refine (HI.out _ f_f_1.out.ints (HT.out.below B1.out HT.out.lt)).mono ?_
  rintro e w2 ⟨a2, c2, rfl, ho2, hb2⟩
  have F2 := FB.start (m := M) (c := c2) (own_ints ho2)
  have hb2x := hb2.trans ((below1 w2 (.cells #[.int .i64 (M), .slice a2 (ys).length c2] 25)).mono hb2.size)
  have B2 := Lib.hid (B1.out.trans (hb2x.mono B1.out.size))
  have f_f_2 := Lib.hid (f_f_1.out.step hb2x)
  have f_out_2 := Lib.hid F2
  clear F2 ho2 hb2 hb2x B1 f_f_1
  clear f_0 f_1
  have f_0 := f_f_2.out.x0
  have f_1 := f_f_2.out.x1
  go_wp2_with fail
  refine (HSp.out _ f_f_2.out.ints).mono ?_
  rintro e w3 ⟨a3, c3, rfl, ho3, hb3⟩
  have F3 := FB.start (m := M) (c := c3) (own_ints ho3)
  have hb3x := hb3.trans ((below1 w3 (.cells #[.int .i64 (M), .slice a3 (ys).length c3] 25)).mono hb3.size)
  have B3 := Lib.hid (B2.out.trans (hb3x.mono B2.out.size))
  have f_f_3 := Lib.hid (f_f_2.out.step hb3x)
  have f_out_3 := Lib.hid (f_out_2.out.step hb3x)
  have f_want_3 := Lib.hid F3
  clear F3 ho3 hb3 hb3x B2 f_f_2 f_out_2
  clear f_0 f_1
  have out_0 := f_out_3.out.x0
  have out_1 := f_out_3.out.x1
  have want_0 := f_want_3.out.x0
  have want_1 := f_want_3.out.x1
  clear HI HSp
  cases hd : famIn m zs
  · clear hd HM HYS
    go_wp2_with fail
    refine (sameFamily_any _ _ _ _ _ _ _ _ _ f_out_3.out.ints f_want_3.out.ints hyl hyl).mono ?_
    rintro e w4 ⟨rfl, hb4⟩
    rw [sameF_self]
    have B4 := Lib.hid (B3.out.trans (hb4.mono B3.out.size))
    have f_f_4 := Lib.hid (f_f_3.out.step hb4)
    have f_out_4 := Lib.hid (f_out_3.out.step hb4)
    have f_want_4 := Lib.hid (f_want_3.out.step hb4)
    clear hb4 B3 f_f_3 f_out_3 f_want_3
    clear want_0 want_1
    clear out_0 out_1
    have out_0 := f_out_4.out.x0
    have out_1 := f_out_4.out.x1
    have want_0 := f_want_4.out.x0
    have want_1 := f_want_4.out.x1
    go_wp2_with fail
    refine (sameFamily_any _ _ _ _ _ _ _ _ _ f_out_4.out.ints f_want_4.out.ints hyl hyl).mono ?_
    rintro e w5 ⟨rfl, hb5⟩
    rw [sameF_self]
    have B5 := Lib.hid (B4.out.trans (hb5.mono B4.out.size))
    have f_f_5 := Lib.hid (f_f_4.out.step hb5)
    have f_out_5 := Lib.hid (f_out_4.out.step hb5)
    have f_want_5 := Lib.hid (f_want_4.out.step hb5)
    clear hb5 B4 f_f_4 f_out_4 f_want_4
    clear want_0 want_1
    clear out_0 out_1
    go_wp2
    go_ret
    exact ⟨rfl, B5.out⟩
  · have HD := Lib.hid hd
    clear hd
    go_wp2_with fail
    refine (sameFamily_any _ _ _ _ _ _ _ _ _ f_out_3.out.ints f_want_3.out.ints hyl hyl).mono ?_
    rintro e w4 ⟨rfl, hb4⟩
    rw [sameF_self]
    have B4 := Lib.hid (B3.out.trans (hb4.mono B3.out.size))
    have f_f_4 := Lib.hid (f_f_3.out.step hb4)
    have f_out_4 := Lib.hid (f_out_3.out.step hb4)
    have f_want_4 := Lib.hid (f_want_3.out.step hb4)
    clear hb4 B3 f_f_3 f_out_3 f_want_3
    clear want_0 want_1
    clear out_0 out_1
    clear f_want_4
    obtain ⟨k, hmk, hk1, hk6, hset, hl8⟩ := fam_nat2 HD.out
    have hMe : M = (k : Int) := by rw [HM.out, HD.out]; exact hmk
    have hye : ys = redZ k zs := by rw [HYS.out, HD.out]; simp only [famF, if_true]; rw [hmk, Int.toNat_natCast]
    subst hMe
    have hRS := redZ_sets hk6 hset
    have hr8 := red_fits hk6 hl8 (k := k)
    have hfN : famIn (k : Int) (redZ k zs) = true := fam_of hk1 hk6 hr8 hRS
    obtain ⟨hred, hdone⟩ := redZ_done hk6 hset
    have hgr : grZ (redZ k zs) = redZ k zs := hred.grs hk6 (gr_sets hset) (gr_gr hk6 hset)
    have hidem : redZ k (redZ k zs) = redZ k zs := (redZ_is hk6 hRS (by rw [hgr]; exact .refl _) hdone).symm
    rw [← hye] at hRS hr8 hfN hgr hidem hdone
    have HRN : Hid (∀ W, Ints W W.heap.size a2 ys → Tab W → Calls Tryd.prog 10 #[.agg #[.int .i64 (k : Int), .slice a2 ys.length c2]] W (RetFB W (k : Int) ys true)) := Lib.hid fun W h h' => by
      have := implReduce_any (k : Int) a2 c2 ys W h h' hyl
      rw [hfN] at this
      simp only [famM, famF, if_true, Int.toNat_natCast] at this
      rw [hidem] at this
      exact this
    have HDG : Hid (∀ W, Ints W W.heap.size a2 ys → Tab W → Calls Tryd.prog 13 #[.agg #[.int .i64 (k : Int), .slice a2 ys.length c2]] W (DegRet W k ys)) := Lib.hid fun W h h' => degs_any k hk1 hk6 a2 c2 ys W h h' hr8 hRS
    have hnd : ys.Nodup := by rw [← hgr]; exact gr_nodup _
    have HD1 : Hid (∀ v, v < k → ys.countP (Bt v) ≠ 1) := Lib.hid fun v hv hc => hdone v hv ((d1_cnt hnd (fun _ => Iff.rfl)).2 hc)
    have HAP : Hid (∀ i j, i < ys.length → j < ys.length → i ≠ j → (bits .andNot .i64 (ys[i]?.getD 0) (ys[j]?.getD 0) == 0) = false) := Lib.hid fun i j hi hj hne => by
      have hxi := at_in hi
      have hxj := at_in hj
      have hne' : ys[i]?.getD 0 ≠ ys[j]?.getD 0 := by
        rw [List.getElem?_eq_getElem hi, List.getElem?_eq_getElem hj, Option.getD_some, Option.getD_some]
        intro e
        rcases Nat.lt_or_gt_of_ne hne with h | h
        · exact List.pairwise_iff_getElem.1 hnd i j hi hj h e
        · exact List.pairwise_iff_getElem.1 hnd j i hj hi h e.symm
      have hns : ¬ subZ (ys[i]?.getD 0) (ys[j]?.getD 0) := fun hs => hne' ((((gr_mem hk6 hRS _).1 (by rw [hgr]; exact hxi)).2 _ hxj hs).symm)
      have h := geG_sub hk6 hRS hxj hxi
      have : geG (ys[j]?.getD 0) (ys[i]?.getD 0) = false := by
        cases hg : geG (ys[j]?.getD 0) (ys[i]?.getD 0)
        · rfl
        · exact (hns (h.1 hg)).elim
      exact this
    clear hRS hfN hred hdone hgr hidem hnd hset hl8 HD HM HYS hye
    have out_0 := f_out_4.out.x0
    have out_1 := f_out_4.out.x1
    go_wp2_with fail
    refine (HRN.out _ f_out_4.out.ints (HT.out.below B4.out HT.out.lt)).mono ?_
    rintro e w5 ⟨a5, c5, rfl, ho5, hb5⟩
    have F5 := FB.start (m := (k : Int)) (c := c5) (own_ints ho5)
    have hb5x := hb5.trans ((below1 w5 (.cells #[.int .i64 (k : Int), .slice a5 ys.length c5] 25)).mono hb5.size)
    have B5 := Lib.hid (B4.out.trans (hb5x.mono B4.out.size))
    have f_out_5 := Lib.hid (f_out_4.out.step hb5x)
    have f_x_5 := Lib.hid F5
    clear F5 ho5 hb5 hb5x B4 f_out_4 f_f_4 HRN
    clear out_0 out_1
    have out_0 := f_out_5.out.x0
    have out_1 := f_out_5.out.x1
    go_wp2_with fail
    refine (HDG.out _ f_out_5.out.ints (HT.out.below B5.out HT.out.lt)).mono ?_
    rintro e w6 ⟨a6, c6, rfl, hcells, hb6⟩
    have B6 := Lib.hid (B5.out.trans (hb6.mono B5.out.size))
    have f_out_6 := Lib.hid (f_out_5.out.step hb6)
    have f_x_6 := Lib.hid (f_x_5.out.step hb6)
    have HC := Lib.hid hcells
    clear hb6 B5 f_out_5 f_x_5 hcells HDG
    clear out_0 out_1
    obtain ⟨L, hL⟩ : ∃ L, L = ys.length := ⟨_, rfl⟩
    have HL := Lib.hid hL
    have hL8 : L ≤ 8 := by omega
    clear hL
    have hw2 : w2.heap.size < w6.heap.size := lt_of_some f_out_6.out.blk
    go_wp2
    go_loop [12] (fun i => ∃ j : Nat, j ≤ k ∧ i = .int .i64 (j : Int)) (fun i => k - (intOf i).toNat)
    case atStart => exact ⟨0, Nat.zero_le _, rfl⟩
    case round =>
      obtain ⟨j, hj, rfl⟩ := hrel
      have hj0 : (0 : Int) ≤ (j : Int) := by omega
      by_cases hlt : j < k
      · have hjk : (j : Int) < (k : Int) := by omega
        obtain ⟨b, o, rfl, hb, hc⟩ := HC.out j hlt
        have hne := HD1.out j hlt
        obtain ⟨d, hd⟩ : ∃ d, d = ys.countP (Bt j) := ⟨_, rfl⟩
        rw [← hd] at hc hne
        have h1 : ((d : Int) == 1) = false := by rw [beq_eq_false_iff_ne]; omega
        have h2 : (d == 1) = false := by rw [beq_eq_false_iff_ne]; exact hne
        clear hd hne
        go_wp2
        go_round
        case rel => exact ⟨j + 1, by omega, by go_num⟩
        case measure => simp [intOf]; omega
      · obtain rfl : j = k := by omega
        have Y1 : Hid (w6.cell? ⟨w2.heap.size, 1, none⟩ = some (.slice a2 L c2)) := Lib.hid (by rw [HL.out]; exact f_out_6.out.x1)
        clear HC
        go_wp2
        go_loopw [13] (fun i wr => ∃ i' : Nat, i' ≤ L ∧ i = .int .i64 (i' : Int) ∧ Below w6.heap.size w6 wr) (fun i _ => L - (intOf i).toNat)
        case atStart => exact ⟨0, Nat.zero_le _, rfl, Below.refl _ _⟩
        case round =>
          obtain ⟨i, hi, rfl, hB⟩ := hrel
          obtain ⟨wo, hwo⟩ : ∃ wo, wo = wr := ⟨wr, rfl⟩
          subst hwo
          have y1 := (hB.cell (p := ⟨w2.heap.size, 1, none⟩) hw2).trans Y1.out
          have HB := Lib.hid hB
          clear hB
          by_cases hli : i < L
          · go_wp2
            go_loopw [14] (fun i wr => ∃ q : Nat, q ≤ L ∧ i = .int .i64 (q : Int) ∧ Below w6.heap.size w6 wr) (fun i _ => L - (intOf i).toNat)
            case atStart => exact ⟨0, Nat.zero_le _, rfl, HB.out⟩
            case round =>
              obtain ⟨q, hq, rfl, hB⟩ := hrel
              obtain ⟨wi, hwi⟩ : ∃ wi, wi = wr := ⟨wr, rfl⟩
              subst hwi
              have y1 := (hB.cell (p := ⟨w2.heap.size, 1, none⟩) hw2).trans Y1.out
              by_cases hlk : q < L
              · by_cases hjk : i = q
                · have HB2 := Lib.hid hB
                  have hjk2 : ((i : Int) != (q : Int)) = false := by rw [hjk]; simp
                  clear hB
                  go_wp2
                  go_quiet (fail)
                  go_wp2
                  go_roundw
                  case rel => exact ⟨q + 1, by omega, by go_num, below_drewN HB2.out _⟩
                  case measure => simp [intOf]; omega
                · obtain ⟨b1, o1, rfl, hb1, hc1⟩ := f_out_6.out.ints.at_ (k := i) (by rw [← HL.out]; exact hli)
                  obtain ⟨b2, o2, he, hb2, hc2⟩ := f_out_6.out.ints.at_ (k := q) (by rw [← HL.out]; exact hlk)
                  injection he with he
                  injection he with he1 he2
                  subst he1; subst he2
                  have v1 := (hB.cell (p := ⟨b1, o1 + i, none⟩) hb1).trans hc1
                  have v2 := (hB.cell (p := ⟨b1, o1 + q, none⟩) hb1).trans hc2
                  have hjk2 : ((i : Int) != (q : Int)) = true := by rw [bne_iff_ne]; omega
                  have hpart := HAP.out i q (by rw [← HL.out]; exact hli) (by rw [← HL.out]; exact hlk) hjk
                  obtain ⟨yj, hyj⟩ : ∃ yj, yj = ys[i]?.getD 0 := ⟨_, rfl⟩
                  obtain ⟨yk, hyk⟩ : ∃ yk, yk = ys[q]?.getD 0 := ⟨_, rfl⟩
                  rw [← hyj] at v1 hpart
                  rw [← hyk] at v2 hpart
                  have HB2 := Lib.hid hB
                  have hi0 : (0 : Int) ≤ (i : Int) := by omega
                  have hi1 : (i : Int) < (L : Int) := by omega
                  have hq0 : (0 : Int) ≤ (q : Int) := by omega
                  have hq1 : (q : Int) < (L : Int) := by omega
                  clear hB hc1 hc2 hyj hyk
                  go_wp2
                  go_quiet (fail)
                  go_wp2
                  go_roundw
                  case rel => exact ⟨q + 1, by omega, by go_num, below_drewN HB2.out _⟩
                  case measure => simp [intOf]; omega
              · have HB2 := Lib.hid hB
                clear hB
                go_wp2
                go_roundw
                case rel => exact ⟨i + 1, by omega, by go_num, HB2.out⟩
                case measure => simp [intOf]; omega
          · clear y1
            have f_out_7 := Lib.hid (f_out_6.out.step HB.out)
            have f_x_7 := Lib.hid (f_x_6.out.step HB.out)
            have out_0 := f_out_7.out.x0
            have out_1 := f_out_7.out.x1
            have x_0 := f_x_7.out.x0
            have x_1 := f_x_7.out.x1
            have B7 := Lib.hid (B6.out.trans (HB.out.mono B6.out.size))
            have y1' : wo.cell? ⟨w2.heap.size, 1, none⟩ = some (.slice a2 L c2) := by rw [HL.out]; exact out_1
            have HSF := Lib.hid (fun W (h1 : Ints W W.heap.size a5 ys) (h2 : Ints W W.heap.size a2 ys) => sameFamily_any (j : Int) (j : Int) a5 a2 c5 c2 ys ys W h1 h2 hyl hyl)
            rw [← HL.out] at out_1 x_1 HSF
            clear y1' f_out_6 f_x_6
            go_wp2_with fail
            refine (HSF.out _ f_x_7.out.ints f_out_7.out.ints).mono ?_
            rintro e w8 ⟨rfl, hb8⟩
            rw [sameF_self]
            have B8 := Lib.hid (B7.out.trans (hb8.mono B7.out.size))
            clear hb8
            go_wp2
            go_ret
            exact ⟨rfl, B8.out⟩

end Go.Proofs.YtemolmkkiagiiaaDoor
