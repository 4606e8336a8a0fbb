/- It is proved that the calls of FnMeetPairs return true; conditions: those of each statement. -/
import Derived.BigQuiet
import Derived.Deep.QuietTactic
import Derived.RowKit
import Derived.Laws.CopyRow
import Derived.Lib.SlBuf
import Derived.RangeFuncNested
import Derived.RangeFuncBound
import Derived.RangeFuncCalls
import Derived.RangeFuncLeaves
import Derived.RangeFuncBox
import Derived.RangeFuncWrites
import Derived.StillTailTactics
import Derived.Maps.OwnIn
import Derived.Maps.Ext
import Derived.DeepKeys4
import Derived.MapKept
import Derived.Test.YtobjmiaanoheeaaDoorRows
import Derived.WalkKit
import Derived.WalkSpells
import Derived.ProofKit
import Derived.OpenShut
import Derived.ShutString
import Derived.ChangeOld
import Derived.Below
import Derived.Deep.RegionHeld3
import Derived.Lib.Hide
import Derived.Lib.SmallJoins
import Derived.Outline
import Derived.Laws.MakeOwn
import Derived.Laws.OwnMore
import Derived.IntWalk
import Derived.Maps.AppendAt
import Derived.Sort.MapsRangeIn
import Derived.Deep.RegionLaw
import Derived.Deep.AppendLies
import Derived.Deep.RegionWith
import Derived.Lib.AppendZeros
import Derived.OwnWalk
import Derived.Lib.SlicesCompact
import Derived.Lib.OwnBridge
import Derived.OrdersIn
import Derived.TacticsIn
import Derived.Shelf.Sort.Plain
import Derived.Shelf.Slices.In.SortNone
import Derived.Shelf.Slices.CompactI
import Derived.Ground.Names2Prog
import Derived.Lib.SliceRun
import Derived.Laws.BitsAllLaws
import Derived.Shelf.RegionOpen
import Derived.Shelf.Abstract
import Derived.OwnWalkIn
import Derived.TacticsInMore
import Derived.LoopNIn
import Derived.LoopIn
import Derived.StillTail
import Derived.StillTactics
import Derived.Shelf.Spec.TrailingZeros
import Derived.Deep.LoopGhost
import Derived.Test.YtobjmiaanoheeaaDoorRaab
import Derived.Test.YtobjmiaanoheeaaDoorDb
import Derived.Test.YtobjmiaanoheeaaDoorRaal
import Derived.Test.YtobjmiaanoheeaaDoorDe
import Derived.Test.YtobjmiaanoheeaaDoorRaam
import Derived.Test.YtobjmiaanoheeaaDoorRaac
import Derived.Test.YtobjmiaanoheeaaDoorRaas
import Derived.Test.YtobjmiaanoheeaaDoorRaaz
import Derived.Test.YtobjmiaanoheeaaDoorRabf
import Derived.Test.YtobjmiaanoheeaaDoorRabc
import Derived.Test.YtobjmiaanoheeaaDoorRabk
import Derived.Test.YtobjmiaanoheeaaDoorKa
import Derived.Test.YtobjmiaanoheeaaDoorRaai
import Derived.Test.YtobjmiaanoheeaaDoorRaap
import Derived.Test.YtobjmiaanoheeaaDoorLz
import Derived.Test.YtobjmiaanoheeaaDoorTIr
import Derived.Test.YtobjmiaanoheeaaDoorRabb
import Derived.Test.YtobjmiaanoheeaaDoorRaae
import Derived.Test.YtobjmiaanoheeaaDoorRaao
import Derived.Test.YtobjmiaanoheeaaDoorYa
namespace Go.Proofs.YtobjmiaanoheeaaDoor
open Go.RowKit

/-- The others of the clubs with a member. -/
def prN (zs : List Int) (v : Nat) : Nat := anN (arN v zs) (2 ^ v)

theorem prN_lt {k : Nat} (hk : k ≤ 6) {zs : List Int} (hS : Sets k zs) (v : Nat) : prN zs v < 64 := Nat.lt_of_le_of_lt (anN_le _ _) (p64 hk (arN_lt hS))
theorem prN_bit {k : Nat} (hk : k ≤ 6) {zs : List Int} (hS : Sets k zs) {v : Nat} (hv : v < k) (u : Nat) : (prN zs v).testBit u = true ↔ (∃ z ∈ zs, Bt v z = true ∧ Bt u z = true) ∧ v ≠ u := by
  have h1 : arN v zs < 256 := by have := p64 hk (arN_lt (v := v) hS); omega
  have h2 : 2 ^ v < 256 := Nat.pow_lt_pow_right (a := 2) (n := 8) (by decide) (by omega)
  unfold prN
  rw [anN_bit _ _ _ h1 h2, Bool.and_eq_true, arN_bit, Nat.testBit_two_pow, Bool.not_eq_true', decide_eq_false_iff_not]

theorem prN_own {k : Nat} (hk : k ≤ 6) {zs : List Int} (hS : Sets k zs) {v : Nat} (hv : v < k) : (prN zs v).testBit v = false := by
  cases h : (prN zs v).testBit v
  · rfl
  · exact (((prN_bit hk hS hv v).1 h).2 rfl).elim

theorem prN_sym {k : Nat} (hk : k ≤ 6) {zs : List Int} (hS : Sets k zs) {v w : Nat} (hv : v < k) (hw : w < k) : (prN zs v).testBit w = (prN zs w).testBit v := by
  rw [Bool.eq_iff_iff, prN_bit hk hS hv, prN_bit hk hS hw]
  constructor
  · rintro ⟨⟨z, h1, h2, h3⟩, h4⟩; exact ⟨⟨z, h1, h3, h2⟩, fun e => h4 e.symm⟩
  · rintro ⟨⟨z, h1, h2, h3⟩, h4⟩; exact ⟨⟨z, h1, h3, h2⟩, fun e => h4 e.symm⟩

set_option maxRecDepth 100000 in
set_option maxHeartbeats 8000000 in
theorem walkFnMeetPairs (a : Option Addr) (n cap : Nat) (w : World) (hb : Bys w w.heap.size a n) (hT : Tab w) (hn : n ≤ 1048576) (hc : n ≤ cap) (hc2 : cap ≤ 9223372036854775807) :
    Calls Tryd.prog 5 #[.slice a n cap] w fun e w' => e = .returned (.bool true) ∧ Below w.heap.size w w' := by
  have HBy := Lib.hid hb
  have HT := Lib.hid hT
  clear hb hT
  go_enter Tryd.func5, Tryd.ntmps5
  go_wp2_with fail
  refine (drawMeetPairs_any a n cap w HBy.out hn hc hc2).mono ?_
  rintro e w1 ⟨m, a1, zs, c1, rfl, hl, ho1, hb1⟩
  have F1 := FB.start (m := m) (c := c1) (own_ints ho1)
  have B1 := Lib.hid (hb1.trans ((below1 w1 (.cells #[.int .i64 m, .slice a1 zs.length c1] 25)).mono hb1.size))
  have hln : zs.length ≤ 1048576 := by omega
  have f_f_1 := Lib.hid F1
  clear F1 ho1 hb1
  have f_0 := f_f_1.out.x0
  have f_1 := f_f_1.out.x1
  obtain ⟨ys, hys⟩ : ∃ ys, ys = pairsZ m zs := ⟨_, rfl⟩
  have hyl : ys.length ≤ 1048576 := by rw [hys]; exact pairsZ_len _ _
  have HI := Lib.hid (fun W hi => implPairs8_any m a1 c1 zs W hi hln)
  have HSP := Lib.hid (fun W hi => specPairs8_any m a1 c1 zs W hi hln)
  rw [← hys] at HI HSP
  have HYS := Lib.hid hys
  clear hys
  go_wp2_with fail
  refine (HI.out _ f_f_1.out.ints).mono ?_
  rintro e w2 ⟨a2, c2, rfl, ho2, hb2⟩
  have G2 := Lib.hid (own_ints ho2)
  have B2 := Lib.hid (B1.out.trans (hb2.mono B1.out.size))
  have f_f_2 := Lib.hid (f_f_1.out.step hb2)
  clear ho2 hb2 B1 f_f_1
  clear f_0 f_1
  have f_0 := f_f_2.out.x0
  have f_1 := f_f_2.out.x1
  go_wp2_with fail
  refine (HSP.out _ f_f_2.out.ints).mono ?_
  rintro e w3 ⟨a3, c3, rfl, ho3, hb3⟩
  have G3 := Lib.hid (own_ints ho3)
  have B3 := Lib.hid (B2.out.trans (hb3.mono B2.out.size))
  have f_f_3 := Lib.hid (f_f_2.out.step hb3)
  have l_lo_3 := Lib.hid (G2.out.step hb3)
  clear ho3 hb3 B2 f_f_2 G2
  clear f_0 f_1
  clear HI HSP
  cases hd : famIn m zs
  · clear hd HYS
    go_wp2_with fail
    refine (sameInts_any _ _ _ _ _ _ _ l_lo_3.out G3.out hyl hyl).mono ?_
    rintro e w4 ⟨rfl, hb4⟩
    rw [sameB_refl]
    have B4 := Lib.hid (B3.out.trans (hb4.mono B3.out.size))
    have f_f_4 := Lib.hid (f_f_3.out.step hb4)
    have l_lo_4 := Lib.hid (l_lo_3.out.step hb4)
    have l_lw_4 := Lib.hid (G3.out.step hb4)
    clear hb4 B3 f_f_3 l_lo_3 G3
    go_wp2_with fail
    refine (sameInts_any _ _ _ _ _ _ _ l_lo_4.out l_lw_4.out hyl hyl).mono ?_
    rintro e w5 ⟨rfl, hb5⟩
    rw [sameB_refl]
    have B5 := Lib.hid (B4.out.trans (hb5.mono B4.out.size))
    have f_f_5 := Lib.hid (f_f_4.out.step hb5)
    have l_lo_5 := Lib.hid (l_lo_4.out.step hb5)
    have l_lw_5 := Lib.hid (l_lw_4.out.step hb5)
    clear hb5 B4 f_f_4 l_lo_4 l_lw_4
    go_wp2
    go_ret
    exact ⟨rfl, B5.out⟩
  · have HD := Lib.hid hd
    obtain ⟨k, rfl, hk1, hk6, hset, hl8⟩ := fam_nat2 hd
    have HYM : Hid (ys = mateTo zs k) := Lib.hid (by rw [HYS.out]; unfold pairsZ; rw [hd, Int.toNat_natCast]; rfl)
    have HYL : Hid (ys.length = k) := Lib.hid (by rw [HYM.out, mateTo_len])
    have HAT : Hid (∀ v, v < k → ∃ P : Nat, ys[v]?.getD 0 = (P : Int) ∧ P = prN zs v ∧ P < 64) := Lib.hid fun v hv => ⟨prN zs v, by rw [HYM.out]; simp [mateTo, prN, hv], rfl, prN_lt hk6 hset v⟩
    have HOW : Hid (∀ v, v < k → (prN zs v).testBit v = false) := Lib.hid fun v hv => prN_own hk6 hset hv
    have HSY : Hid (∀ v w, v < k → w < k → (prN zs v).testBit w = (prN zs w).testBit v) := Lib.hid fun v w hv hw => prN_sym hk6 hset hv hw
    obtain ⟨DZ, hDZ⟩ : ∃ DZ, DZ = dualZ (k : Int) zs := ⟨_, rfl⟩
    obtain ⟨DM, hDM⟩ : ∃ DM, DM = dualM (k : Int) zs := ⟨_, rfl⟩
    obtain ⟨DP, hDP⟩ : ∃ DP, DP = dualIn (k : Int) zs := ⟨_, rfl⟩
    have hdl : DZ.length ≤ 1048576 := by rw [hDZ]; exact dualZ_len _ _
    have HDU := Lib.hid (fun W hi hT => implDual_any (k : Int) a1 c1 zs W hi hT hln)
    have HHE := Lib.hid (fun b d W hi hT => implClubs8_any DM b d DZ W hi hT hdl)
    obtain ⟨CZ, hCZ⟩ : ∃ CZ, CZ = clubsZ DM DZ := ⟨_, rfl⟩
    obtain ⟨CF, hCF⟩ : ∃ CF, CF = famIn DM DZ := ⟨_, rfl⟩
    have hcl : CZ.length ≤ 1048576 := by rw [hCZ]; exact clubsZ_len _ _
    have HFD : Hid (DP = true → CF = true ∧ CZ = ys) := Lib.hid fun h2 => by
      rw [hDP] at h2
      obtain ⟨e1, e2, e3, -⟩ := du_dual h2
      exact ⟨by rw [hCF, hDM, hDZ, e1, e2]; exact e3, by rw [hCZ, hDM, hDZ, clubs_dual h2, HYS.out]⟩
    rw [← hDZ, ← hDM, ← hDP] at HDU
    rw [← hCZ, ← hCF] at HHE
    clear hd hset hDZ hDM hDP hCZ hCF HYS
    go_wp2_with fail
    refine (sameInts_any _ _ _ _ _ _ _ l_lo_3.out G3.out hyl hyl).mono ?_
    rintro e w4 ⟨rfl, hb4⟩
    rw [sameB_refl]
    have B4 := Lib.hid (B3.out.trans (hb4.mono B3.out.size))
    have f_f_4 := Lib.hid (f_f_3.out.step hb4)
    have l_lo_4 := Lib.hid (l_lo_3.out.step hb4)
    have l_lw_4 := Lib.hid (G3.out.step hb4)
    clear hb4 B3 f_f_3 l_lo_3 G3
    clear l_lw_4
    rw [HYL.out]
    have HLI := l_lo_4
    go_wp2
    go_loopw [8] (fun i wr => ∃ v : Nat, v ≤ k ∧ i = .int .i64 (v : Int) ∧ Below w4.heap.size w4 wr) (fun i _ => k - (intOf i).toNat)
    case atStart => exact ⟨0, Nat.zero_le _, rfl, Below.refl _ _⟩
    case round =>
      obtain ⟨v, hv, rfl, hb⟩ := hrel
      obtain ⟨wo, hwo⟩ : ∃ wo, wo = wr := ⟨wr, rfl⟩
      subst hwo
      have HBo := Lib.hid hb
      clear hb
      by_cases hlt : v < k
      · obtain ⟨P, hP, hPv, hP64⟩ := HAT.out v hlt
        obtain ⟨b1, o1, ha9, hb1, hc1⟩ := ((HLI.out.below HBo.out).mono HBo.out.size).at_ (k := v) (by rw [HYL.out]; exact hlt)
        subst ha9
        rw [hP] at hc1
        have how := HOW.out v hlt
        rw [← hPv] at how
        have hbv : bits BinOp.and IntKind.i64 ((P : Int) / 2 ^ v) 1 = 0 := by rw [bit_at P v hP64 (by omega), bit_if P hP64 v (by omega), how]; rfl
        have hvI : (v : Int) < (k : Int) := by omega
        have hv0 : (0 : Int) ≤ (v : Int) := by omega
        have HPV := Lib.hid hPv
        have HC1 := Lib.hid hc1
        clear hP how hPv
        go_wp2
        clear hc1 hbv
        go_loopw [9] (fun i wr => ∃ x : Nat, x ≤ k ∧ i = .int .i64 (x : Int) ∧ Below w4.heap.size w4 wr) (fun i _ => k - (intOf i).toNat)
        case atStart => exact ⟨0, Nat.zero_le _, rfl, HBo.out⟩
        case round =>
          obtain ⟨x, hx, rfl, hb⟩ := hrel
          by_cases hxt : x < k
          · obtain ⟨Q, hQ, hQv, hQ64⟩ := HAT.out x hxt
            have hI := (HLI.out.below hb).mono hb.size
            obtain ⟨b2, o2, ha8, -, hc2⟩ := hI.at_ (k := x) (by rw [HYL.out]; exact hxt)
            injection ha8 with ha8; injection ha8 with e1 e2
            subst e1; subst e2
            obtain ⟨b3, o3, ha7, -, hc3⟩ := hI.at_ (k := v) (by rw [HYL.out]; exact hlt)
            injection ha7 with ha7; injection ha7 with e1 e2
            subst e1; subst e2
            obtain ⟨P', hP', hPv', -⟩ := HAT.out v hlt
            have hpp : P' = P := by rw [hPv', HPV.out]
            rw [hP', hpp] at hc3
            rw [hQ] at hc2
            have hsy := HSY.out v x hlt hxt
            rw [← HPV.out, ← hQv] at hsy
            have t1 : bits BinOp.and IntKind.i64 ((P : Int) / 2 ^ x) 1 = if P.testBit x then 1 else 0 := by rw [bit_at P x hP64 (by omega), bit_if P hP64 x (by omega)]; split <;> rfl
            have t2 : bits BinOp.and IntKind.i64 ((Q : Int) / 2 ^ v) 1 = if Q.testBit v then 1 else 0 := by rw [bit_at Q v hQ64 (by omega), bit_if Q hQ64 v (by omega)]; split <;> rfl
            rw [← hsy] at t2
            obtain ⟨C, hC⟩ : ∃ C : Int, C = if P.testBit x then 1 else 0 := ⟨_, rfl⟩
            rw [← hC] at t1 t2
            have hcc : (C != C) = false := by simp
            have hxI : (x : Int) < (k : Int) := by omega
            have hx0 : (0 : Int) ≤ (x : Int) := by omega
            have HBr := Lib.hid hb
            clear hb hI hQ hQv hP' hPv' hpp hsy hC
            go_wp2
            go_quiet (fail)
            go_wp2
            go_roundw
            case rel => exact ⟨x + 1, by omega, by go_num, below_drewN HBr.out _⟩
            case measure => simp [intOf]; omega
          · obtain rfl : x = k := by omega
            have HBr := Lib.hid hb
            clear hb
            go_wp2
            go_roundw
            case rel => exact ⟨v + 1, by omega, by go_num, HBr.out⟩
            case measure => simp [intOf]; omega
      · obtain rfl : v = k := by omega
        have B4 := Lib.hid (B4.out.trans (HBo.out.mono B4.out.size))
        have f_f_4 := Lib.hid (f_f_4.out.step HBo.out)
        have l_lo_4 := Lib.hid (l_lo_4.out.step HBo.out)
        have f_0 := f_f_4.out.x0
        have f_1 := f_f_4.out.x1
        go_wp2_with fail
        refine (HDU.out _ f_f_4.out.ints (HT.out.below B4.out HT.out.lt)).mono ?_
        rintro e w6 ⟨a6, c6, rfl, ho6, hb6⟩
        have F6 := FB.start (m := DM) (c := c6) (own_ints ho6)
        have hb6x := hb6.trans ((below1 w6 (.cells #[.int .i64 (DM), .slice a6 (DZ).length c6] 25)).mono hb6.size)
        have B6 := Lib.hid (B4.out.trans (hb6x.mono B4.out.size))
        have f_f_6 := Lib.hid (f_f_4.out.step hb6x)
        have l_lo_6 := Lib.hid (l_lo_4.out.step hb6x)
        have f_d_6 := Lib.hid F6
        clear F6 ho6 hb6 hb6x B4 f_f_4 l_lo_4
        clear f_0 f_1
        have d_0 := f_d_6.out.x0
        have d_1 := f_d_6.out.x1
        clear HDU
        go_wp2_with fail
        refine (HHE.out _ _ _ f_d_6.out.ints (HT.out.below B6.out HT.out.lt)).mono ?_
        rintro e w7 ⟨a7, c7, rfl, ho7, hb7⟩
        have G7 := Lib.hid (own_ints ho7)
        have B7 := Lib.hid (B6.out.trans (hb7.mono B6.out.size))
        have f_f_7 := Lib.hid (f_f_6.out.step hb7)
        have f_d_7 := Lib.hid (f_d_6.out.step hb7)
        have l_lo_7 := Lib.hid (l_lo_6.out.step hb7)
        clear ho7 hb7 B6 f_f_6 f_d_6 l_lo_6
        clear d_0 d_1
        clear HHE
        cases DP
        · clear HFD
          go_wp2
          go_ret
          exact ⟨rfl, B7.out⟩
        · obtain ⟨h1, h2⟩ := HFD.out (by trivial)
          subst h1
          subst h2
          clear HFD
          try rw [← HYL.out]
          go_wp2_with fail
          refine (sameInts_any _ _ _ _ _ _ _ G7.out l_lo_7.out hcl hcl).mono ?_
          rintro e w8 ⟨rfl, hb8⟩
          rw [sameB_refl]
          have B8 := Lib.hid (B7.out.trans (hb8.mono B7.out.size))
          have f_f_8 := Lib.hid (f_f_7.out.step hb8)
          have f_d_8 := Lib.hid (f_d_7.out.step hb8)
          have l_lo_8 := Lib.hid (l_lo_7.out.step hb8)
          have l_lx_8 := Lib.hid (G7.out.step hb8)
          clear hb8 B7 f_f_7 f_d_7 l_lo_7 G7
          go_wp2
          go_ret
          exact ⟨rfl, B8.out⟩

end Go.Proofs.YtobjmiaanoheeaaDoor
