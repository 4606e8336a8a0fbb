/- It is proved that the calls of FnMeetClubs return true; conditions: those of each statement. -/
import Derived.BigQuiet
import Derived.Deep.QuietTactic
import Derived.RowKit
import Derived.Laws.CopyRow
import Derived.Lib.SlBuf
import Derived.RangeFuncNested
import Derived.RangeFuncBound
import Derived.RangeFuncCalls
import Derived.RangeFuncLeaves
import Derived.RangeFuncBox
import Derived.RangeFuncWrites
import Derived.StillTailTactics
import Derived.Maps.OwnIn
import Derived.Maps.Ext
import Derived.DeepKeys4
import Derived.MapKept
import Derived.Test.YtobjmiaanoheeaaDoorRows
import Derived.WalkKit
import Derived.WalkSpells
import Derived.ProofKit
import Derived.OpenShut
import Derived.ShutString
import Derived.ChangeOld
import Derived.Below
import Derived.Deep.RegionHeld3
import Derived.Lib.Hide
import Derived.Lib.SmallJoins
import Derived.Outline
import Derived.Laws.MakeOwn
import Derived.Laws.OwnMore
import Derived.IntWalk
import Derived.Maps.AppendAt
import Derived.Sort.MapsRangeIn
import Derived.Deep.RegionLaw
import Derived.Deep.AppendLies
import Derived.Deep.RegionWith
import Derived.Lib.AppendZeros
import Derived.OwnWalk
import Derived.Lib.SlicesCompact
import Derived.Lib.OwnBridge
import Derived.OrdersIn
import Derived.TacticsIn
import Derived.Shelf.Sort.Plain
import Derived.Shelf.Slices.In.SortNone
import Derived.Shelf.Slices.CompactI
import Derived.Ground.Names2Prog
import Derived.Lib.SliceRun
import Derived.Laws.BitsAllLaws
import Derived.Shelf.RegionOpen
import Derived.Shelf.Abstract
import Derived.OwnWalkIn
import Derived.TacticsInMore
import Derived.LoopNIn
import Derived.LoopIn
import Derived.StillTail
import Derived.StillTactics
import Derived.Shelf.Spec.TrailingZeros
import Derived.Deep.LoopGhost
import Derived.Test.YtobjmiaanoheeaaDoorRaab
import Derived.Test.YtobjmiaanoheeaaDoorDb
import Derived.Test.YtobjmiaanoheeaaDoorRaal
import Derived.Test.YtobjmiaanoheeaaDoorDe
import Derived.Test.YtobjmiaanoheeaaDoorRaam
import Derived.Test.YtobjmiaanoheeaaDoorRaac
import Derived.Test.YtobjmiaanoheeaaDoorRaas
import Derived.Test.YtobjmiaanoheeaaDoorIb
import Derived.Test.YtobjmiaanoheeaaDoorRaaz
import Derived.Test.YtobjmiaanoheeaaDoorRabf
import Derived.Test.YtobjmiaanoheeaaDoorIp
import Derived.Test.YtobjmiaanoheeaaDoorKa
import Derived.Test.YtobjmiaanoheeaaDoorRaai
import Derived.Test.YtobjmiaanoheeaaDoorRaap
import Derived.Test.YtobjmiaanoheeaaDoorTIr
namespace Go.Proofs.YtobjmiaanoheeaaDoor
open Go.RowKit

theorem cl_bit {k : Nat} (hk : k ≤ 6) {zs : List Int} (hS : Sets k zs) (hl : zs.length ≤ 8) {i j : Nat} (hi : i < zs.length) (hj : j < zs.length) : (anN (arN i (duZ k zs)) (2 ^ i)).testBit j = (decide (i ≠ j) && metN zs i j) := by
  have ha : arN i (duZ k zs) < 256 := p256 hl (arN_lt (duZ_sets k zs))
  have h2 : 2 ^ i < 256 := Nat.pow_lt_pow_right (a := 2) (n := 8) (by decide) (by omega)
  rw [Bool.eq_iff_iff, anN_bit _ _ _ ha h2, Bool.and_eq_true, Bool.and_eq_true, du_ar hk hS, Nat.testBit_two_pow, Bool.not_eq_true', decide_eq_false_iff_not, decide_eq_true_eq]
  constructor
  · rintro ⟨⟨_, _, h4⟩, h3⟩; exact ⟨h3, h4⟩
  · rintro ⟨h3, h4⟩; exact ⟨⟨hi, hj, h4⟩, h3⟩

set_option maxRecDepth 100000 in
set_option maxHeartbeats 8000000 in
theorem walkFnMeetClubs (a : Option Addr) (n cap : Nat) (w : World) (hb : Bys w w.heap.size a n) (hT : Tab w) (hn : n ≤ 1048576) (hc : n ≤ cap) (hc2 : cap ≤ 9223372036854775807) :
    Calls Tryd.prog 6 #[.slice a n cap] w fun e w' => e = .returned (.bool true) ∧ Below w.heap.size w w' := by
  have HBy := Lib.hid hb
  have HT := Lib.hid hT
  clear hb hT
  go_enter Tryd.func6, Tryd.ntmps6
  go_wp2_with fail
  refine (drawMeetClubs_any a n cap w HBy.out hn hc hc2).mono ?_
  rintro e w1 ⟨m, a1, zs, c1, rfl, hl, ho1, hb1⟩
  have F1 := FB.start (m := m) (c := c1) (own_ints ho1)
  have B1 := Lib.hid (hb1.trans ((below1 w1 (.cells #[.int .i64 m, .slice a1 zs.length c1] 25)).mono hb1.size))
  have hln : zs.length ≤ 1048576 := by omega
  have f_f_1 := Lib.hid F1
  clear F1 ho1 hb1
  have f_0 := f_f_1.out.x0
  have f_1 := f_f_1.out.x1
  obtain ⟨ys, hys⟩ : ∃ ys, ys = clubsZ m zs := ⟨_, rfl⟩
  have hyl : ys.length ≤ 1048576 := by rw [hys]; exact clubsZ_len _ _
  have HI := Lib.hid (fun W hi hT => implClubs8_any m a1 c1 zs W hi hT hln)
  have HSP := Lib.hid (fun W hi => specClubs8_any m a1 c1 zs W hi hln)
  rw [← hys] at HI HSP
  have HYS := Lib.hid hys
  clear hys
  go_wp2_with fail
  refine (HI.out _ f_f_1.out.ints (HT.out.below B1.out HT.out.lt)).mono ?_
  rintro e w2 ⟨a2, c2, rfl, ho2, hb2⟩
  have G2 := Lib.hid (own_ints ho2)
  have B2 := Lib.hid (B1.out.trans (hb2.mono B1.out.size))
  have f_f_2 := Lib.hid (f_f_1.out.step hb2)
  clear ho2 hb2 B1 f_f_1
  clear f_0 f_1
  have f_0 := f_f_2.out.x0
  have f_1 := f_f_2.out.x1
  go_wp2_with fail
  refine (HSP.out _ f_f_2.out.ints).mono ?_
  rintro e w3 ⟨a3, c3, rfl, ho3, hb3⟩
  have G3 := Lib.hid (own_ints ho3)
  have B3 := Lib.hid (B2.out.trans (hb3.mono B2.out.size))
  have f_f_3 := Lib.hid (f_f_2.out.step hb3)
  have l_lo_3 := Lib.hid (G2.out.step hb3)
  clear ho3 hb3 B2 f_f_2 G2
  clear f_0 f_1
  clear HI HSP
  cases hd : famIn m zs
  · clear hd HYS
    go_wp2_with fail
    refine (sameInts_any _ _ _ _ _ _ _ l_lo_3.out G3.out hyl hyl).mono ?_
    rintro e w4 ⟨rfl, hb4⟩
    rw [sameB_refl]
    have B4 := Lib.hid (B3.out.trans (hb4.mono B3.out.size))
    have f_f_4 := Lib.hid (f_f_3.out.step hb4)
    have l_lo_4 := Lib.hid (l_lo_3.out.step hb4)
    have l_lw_4 := Lib.hid (G3.out.step hb4)
    clear hb4 B3 f_f_3 l_lo_3 G3
    go_wp2_with fail
    refine (sameInts_any _ _ _ _ _ _ _ l_lo_4.out l_lw_4.out hyl hyl).mono ?_
    rintro e w5 ⟨rfl, hb5⟩
    rw [sameB_refl]
    have B5 := Lib.hid (B4.out.trans (hb5.mono B4.out.size))
    have f_f_5 := Lib.hid (f_f_4.out.step hb5)
    have l_lo_5 := Lib.hid (l_lo_4.out.step hb5)
    have l_lw_5 := Lib.hid (l_lw_4.out.step hb5)
    clear hb5 B4 f_f_4 l_lo_4 l_lw_4
    go_wp2
    go_ret
    exact ⟨rfl, B5.out⟩
  · have HD := Lib.hid hd
    obtain ⟨k, rfl, hk1, hk6, hset, hl8⟩ := fam_nat2 hd
    obtain ⟨N, hN⟩ : ∃ N, N = zs.length := ⟨_, rfl⟩
    have HN := Lib.hid hN
    have hN8 : N ≤ 8 := by omega
    have HYM : Hid (ys = mateTo (duZ k zs) zs.length) := Lib.hid (by rw [HYS.out]; unfold clubsZ; rw [hd, Int.toNat_natCast]; rfl)
    have HYL : Hid (ys.length = N) := Lib.hid (by rw [HYM.out, mateTo_len, hN])
    have HAT : Hid (∀ i, i < N → ∃ P : Nat, ys[i]?.getD 0 = (P : Int) ∧ P < 256 ∧ ∀ j, j < N → P.testBit j = (decide (i ≠ j) && metN zs i j)) := Lib.hid fun i hi => ⟨anN (arN i (duZ k zs)) (2 ^ i), by rw [HYM.out]; simp [mateTo, ← hN, hi], Nat.lt_of_le_of_lt (anN_le _ _) (p256 hl8 (arN_lt (duZ_sets k zs))), fun j hj => cl_bit hk6 hset hl8 (by omega) (by omega)⟩
    have HZA : Hid (∀ i, i < N → ∃ z : Nat, zs[i]?.getD 0 = (z : Int) ∧ z < 64) := Lib.hid fun i hi => by
      have := hset _ (getD_mem (zs := zs) (i := i) (by omega))
      exact ⟨(zs[i]?.getD 0).toNat, by omega, p64 hk6 this.2⟩
    clear hd hset HYS hN hl8 hl
    go_wp2_with fail
    refine (sameInts_any _ _ _ _ _ _ _ l_lo_3.out G3.out hyl hyl).mono ?_
    rintro e w4 ⟨rfl, hb4⟩
    rw [sameB_refl]
    have B4 := Lib.hid (B3.out.trans (hb4.mono B3.out.size))
    have f_f_4 := Lib.hid (f_f_3.out.step hb4)
    have l_lo_4 := Lib.hid (l_lo_3.out.step hb4)
    have l_lw_4 := Lib.hid (G3.out.step hb4)
    clear hb4 B3 f_f_3 l_lo_3 G3
    have f_0 := f_f_4.out.x0
    have f_1 := f_f_4.out.x1
    clear l_lw_4
    rw [HYL.out]
    have HLI := l_lo_4
    clear f_0 f_1
    go_wp2
    go_loopw [8] (fun i wr => ∃ v : Nat, v ≤ N ∧ i = .int .i64 (v : Int) ∧ Below w4.heap.size w4 wr) (fun i _ => N - (intOf i).toNat)
    case atStart => exact ⟨0, Nat.zero_le _, rfl, Below.refl _ _⟩
    case round =>
      obtain ⟨v, hv, rfl, hb⟩ := hrel
      obtain ⟨wo, hwo⟩ : ∃ wo, wo = wr := ⟨wr, rfl⟩
      subst hwo
      have HBo := Lib.hid hb
      clear hb
      by_cases hlt : v < N
      · have hvI : (v : Int) < (N : Int) := by omega
        have hv0 : (0 : Int) ≤ (v : Int) := by omega
        go_wp2
        go_loopw [9] (fun i wr => ∃ x : Nat, x ≤ N ∧ i = .int .i64 (x : Int) ∧ Below w4.heap.size w4 wr) (fun i _ => N - (intOf i).toNat)
        case atStart => exact ⟨0, Nat.zero_le _, rfl, HBo.out⟩
        case round =>
          obtain ⟨x, hx, rfl, hb⟩ := hrel
          by_cases hxt : x < N
          · obtain ⟨P, hP, hP256, hPb⟩ := HAT.out v hlt
            have hI := (HLI.out.below hb).mono hb.size
            obtain ⟨b2, o2, ha8, -, hc2⟩ := hI.at_ (k := v) (by rw [HYL.out]; exact hlt)
            subst ha8
            rw [hP] at hc2
            have HFr := Lib.hid (f_f_4.out.step hb)
            have g_0 := HFr.out.x0
            have g_1 := HFr.out.x1
            rw [← HN.out] at g_1
            obtain ⟨z, hz, hz64⟩ := HZA.out v hlt
            obtain ⟨y, hy, hy64⟩ := HZA.out x hxt
            obtain ⟨b3, o3, ha7, -, hc3⟩ := HFr.out.ints.at_ (k := v) (by rw [← HN.out]; exact hlt)
            subst ha7
            obtain ⟨b4, o4, ha6, -, hc4⟩ := HFr.out.ints.at_ (k := x) (by rw [← HN.out]; exact hxt)
            injection ha6 with ha6; injection ha6 with e1 e2
            subst e1; subst e2
            rw [hz] at hc3
            rw [hy] at hc4
            have hzy : bits BinOp.and IntKind.i64 (z : Int) (y : Int) = ((z &&& y : Nat) : Int) := and_at8 (by omega) (by omega)
            have hpb := hPb x hxt
            have hmet : metN zs v x = decide (z &&& y ≠ 0) := by unfold metN; rw [hz, hy, Int.toNat_natCast, Int.toNat_natCast]
            rw [hmet] at hpb
            have hbit : (bits BinOp.and IntKind.i64 ((P : Int) / 2 ^ x) 1 == 1) = P.testBit x := has8_fin ⟨P, hP256⟩ ⟨x, by omega⟩
            rw [hpb] at hbit
            have hze : (((z &&& y : Nat) : Int) != 0) = decide (z &&& y ≠ 0) := by rw [Bool.eq_iff_iff, bne_iff_ne, decide_eq_true_eq]; omega
            obtain ⟨X, hX⟩ : ∃ X, X = (z &&& y) := ⟨_, rfl⟩
            rw [← hX] at hzy hze hbit
            have hxI : (x : Int) < (N : Int) := by omega
            have hx0 : (0 : Int) ≤ (x : Int) := by omega
            have HBr := Lib.hid hb
            obtain ⟨B, hB⟩ : ∃ B, B = decide (X ≠ 0) := ⟨_, rfl⟩
            rw [← hB] at hze hbit
            clear hb hI hP hPb hz hy hmet hpb hX hB
            by_cases hvx : v = x
            · have hb1 : ((v : Int) != (x : Int)) = false := by rw [bne_eq_false_iff_eq]; omega
              have hb1' : (v != x) = false := by rw [bne_eq_false_iff_eq]; exact hvx
              have hbit' : (bits BinOp.and IntKind.i64 ((P : Int) / 2 ^ x) 1 == 1) = false := by rw [hbit, decide_eq_false (fun h => h hvx)]; rfl
              clear hbit hze hvx
              go_wp2
              go_quiet (fail)
              go_wp2
              go_roundw
              case rel => exact ⟨x + 1, by omega, by go_num, below_drewN HBr.out _⟩
              case measure => simp [intOf]; omega
            · have hb1 : ((v : Int) != (x : Int)) = true := by rw [bne_iff_ne]; omega
              have hb1' : (v != x) = true := by rw [bne_iff_ne]; exact hvx
              have hbit' : (bits BinOp.and IntKind.i64 ((P : Int) / 2 ^ x) 1 == 1) = B := by rw [hbit, decide_eq_true hvx]; rfl
              clear hbit hvx
              cases B
              all_goals
                go_wp2
                go_quiet (fail)
                go_wp2
                go_roundw
                case rel => exact ⟨x + 1, by omega, by go_num, below_drewN HBr.out _⟩
                case measure => simp [intOf]; omega
          · obtain rfl : x = N := by omega
            have HBr := Lib.hid hb
            clear hb
            go_wp2
            go_roundw
            case rel => exact ⟨v + 1, by omega, by go_num, HBr.out⟩
            case measure => simp [intOf]; omega
      · obtain rfl : v = N := by omega
        have HFr := Lib.hid (f_f_4.out.step HBo.out)
        have g_0 := HFr.out.x0
        have g_1 := HFr.out.x1
        rw [← HN.out] at g_1
        have HBF := Lib.hid (B4.out.trans (HBo.out.mono B4.out.size))
        go_wp2
        go_ret
        exact ⟨by simp, HBF.out⟩

end Go.Proofs.YtobjmiaanoheeaaDoor
