/- It is proved that the call of the law FnPairs returns true; conditions: those of each statement. -/
import Derived.RowKit
import Derived.Laws.CopyRow
import Derived.Lib.SlBuf
import Derived.Deep.QuietTactic
import Derived.RangeFuncNested
import Derived.RangeFuncBound
import Derived.RangeFuncCalls
import Derived.RangeFuncLeaves
import Derived.RangeFuncBox
import Derived.RangeFuncWrites
import Derived.StillTailTactics
import Derived.Maps.OwnIn
import Derived.Maps.Ext
import Derived.DeepKeys4
import Derived.MapKept
import Derived.Test.YtnkedijlddakbaaDoorRows
import Derived.WalkKit
import Derived.WalkSpells
import Derived.ProofKit
import Derived.OpenShut
import Derived.ShutString
import Derived.ChangeOld
import Derived.Below
import Derived.Deep.RegionHeld3
import Derived.BigQuiet
import Derived.Lib.Hide
import Derived.Lib.SmallJoins
import Derived.Outline
import Derived.Laws.MakeOwn
import Derived.Laws.OwnMore
import Derived.IntWalk
import Derived.Maps.AppendAt
import Derived.Deep.RegionLaw
import Derived.Deep.AppendLies
import Derived.Lib.AppendZeros
import Derived.OwnWalk
import Derived.Lib.SlicesCompact
import Derived.Lib.OwnBridge
import Derived.OrdersIn
import Derived.TacticsIn
import Derived.Shelf.Sort.Plain
import Derived.Shelf.Slices.In.SortNone
import Derived.Shelf.Slices.CompactI
import Derived.Ground.Names2Prog
import Derived.Lib.SliceRun
import Derived.Shelf.RegionOpen
import Derived.Shelf.Abstract
import Derived.OwnWalkIn
import Derived.TacticsInMore
import Derived.LoopNIn
import Derived.LoopIn
import Derived.StillTail
import Derived.StillTactics
import Derived.Shelf.Spec.TrailingZeros
import Derived.Test.YtnkedijlddakbaaDoorMrab
import Derived.Test.YtnkedijlddakbaaDoorDa
import Derived.Test.YtnkedijlddakbaaDoorDb
import Derived.Test.YtnkedijlddakbaaDoorDd
import Derived.Test.YtnkedijlddakbaaDoorFb
import Derived.Test.YtnkedijlddakbaaDoorMrak
import Derived.Test.YtnkedijlddakbaaDoorMrae
import Derived.Test.YtnkedijlddakbaaDoorMrah
import Derived.Test.YtnkedijlddakbaaDoorKr
import Derived.Test.YtnkedijlddakbaaDoorMa
import Derived.Test.YtnkedijlddakbaaDoorMb
import Derived.Test.YtnkedijlddakbaaDoorMrao
import Derived.Test.YtnkedijlddakbaaDoorMe
import Derived.Test.YtnkedijlddakbaaDoorMl
import Derived.Test.YtnkedijlddakbaaDoorMp
import Derived.Test.YtnkedijlddakbaaDoorMq
import Derived.Test.YtnkedijlddakbaaDoorMs
import Derived.Test.YtnkedijlddakbaaDoorMrac
namespace Go.Proofs.YtnkedijlddakbaaDoor
open Go.RowKit

set_option maxRecDepth 100000 in
set_option maxHeartbeats 8000000 in
theorem walkFnPairs (a : Option Addr) (n cap : Nat) (w : World) (hb : Bys w w.heap.size a n) (hT : Tab w) (hn : n ≤ 1048576) (hc : n ≤ cap) (hc2 : cap ≤ 9223372036854775807) :
    Calls Tryd.prog 4 #[.slice a n cap] w fun e w' => e = .returned (.bool true) ∧ Below w.heap.size w w' := by
  have HBy := Lib.hid hb
  have HT := Lib.hid hT
  clear hb hT
  go_enter Tryd.func4, Tryd.ntmps4
  go_wp2_with fail
  refine (drawSpeakerPairs_any a n cap w HBy.out hn hc hc2).mono ?_
  rintro e w1 ⟨m, a1, zs, c1, rfl, hl, ho1, hb1⟩
  have F1 := FB.start (m := m) (c := c1) (own_ints ho1)
  have B1 := Lib.hid (hb1.trans ((below1 w1 (.cells #[.int .i64 m, .slice a1 zs.length c1] 25)).mono hb1.size))
  have hln : zs.length ≤ 1048576 := by omega
  have f_f_1 := Lib.hid F1
  clear F1 ho1 hb1
  have f_0 := f_f_1.out.x0
  have f_1 := f_f_1.out.x1
  obtain ⟨G, hG⟩ : ∃ G, G = prsZ m zs := ⟨_, rfl⟩
  obtain ⟨K, hK⟩ : ∃ K, K = famIn m zs := ⟨_, rfl⟩
  have HI := Lib.hid (fun W hi hT => implSpeakerPairs_any m a1 c1 zs W hi hT hln)
  have HSP := Lib.hid (fun W hi => specSpeakerPairs_any m a1 c1 zs W hi hln)
  have HLN := Lib.hid (fun W hi => implSpeakerLines_any m a1 c1 zs W hi hln)
  rw [linZ_prsZ] at HLN
  rw [← hG, ← hK] at HI HSP HLN
  have HG := Lib.hid hG
  have HK := Lib.hid hK
  clear hG hK
  go_wp2_with fail
  refine (HI.out _ f_f_1.out.ints (HT.out.below B1.out HT.out.lt)).mono ?_
  rintro e w2 ⟨rfl, hb2⟩
  have B2 := Lib.hid (B1.out.trans (hb2.mono B1.out.size))
  have f_f_2 := Lib.hid (f_f_1.out.step hb2)
  clear hb2 B1 f_f_1
  clear f_0 f_1
  have f_0 := f_f_2.out.x0
  have f_1 := f_f_2.out.x1
  go_wp2_with fail
  refine (HSP.out _ f_f_2.out.ints).mono ?_
  rintro e w3 ⟨rfl, hb3⟩
  have B3 := Lib.hid (B2.out.trans (hb3.mono B2.out.size))
  have f_f_3 := Lib.hid (f_f_2.out.step hb3)
  clear hb3 B2 f_f_2
  clear f_0 f_1
  have f_0 := f_f_3.out.x0
  have f_1 := f_f_3.out.x1
  clear HI HSP
  cases K
  · clear HK HG HLN
    go_wp2
    go_ret
    exact ⟨rfl, B3.out⟩
  · go_wp2_with fail
    refine (HLN.out _ f_f_3.out.ints).mono ?_
    rintro e w4 ⟨rfl, hb4⟩
    have B4 := Lib.hid (B3.out.trans (hb4.mono B3.out.size))
    have f_f_4 := Lib.hid (f_f_3.out.step hb4)
    clear hb4 B3 f_f_3 HLN
    clear f_0 f_1
    have f_0 := f_f_4.out.x0
    have f_1 := f_f_4.out.x1
    have hlk := lack_pairs HK.out.symm
    rw [← HG.out] at hlk
    obtain ⟨kk, -, hk1, hk6, hSets, h8⟩ := fam_nat2 HK.out.symm
    have hz6 : ∀ z ∈ zs, 0 ≤ z ∧ z.toNat < 64 := fun z hzm => ⟨(hSets z hzm).1, p64 hk6 (hSets z hzm).2⟩
    obtain ⟨Y, hY⟩ : ∃ Y, Y = zs.length := ⟨_, rfl⟩
    have hY8 : Y ≤ 8 := by omega
    obtain ⟨N, hN⟩ : ∃ N, N = 2 ^ Y := ⟨_, rfl⟩
    have hNI : (2 : Int) ^ Y = (N : Int) := by rw [hN]; norm_cast
    have hN256 : N ≤ 256 := by rw [hN]; exact Nat.pow_le_pow_right (n := 2) (by decide) hY8
    rw [← hY, ← hN] at hlk
    have HLK := Lib.hid hlk
    have HY := Lib.hid hY
    have hY64 : (Y : Int) < 64 := by omega
    have hY0 : (0 : Int) ≤ (Y : Int) := by omega
    have hNII : (N : Int) ≤ 256 := by omega
    have f_1' : w4.cell? ⟨w1.heap.size, 1, none⟩ = some (.slice a1 Y c1) := by rw [hY]; exact f_1
    have HI2 := Lib.hid f_f_4.out.ints
    have HZ6 := Lib.hid hz6
    clear f_1 hY hN hz6 HG HK hlk hl hln hSets h8 hk1 hk6
    go_wp2
    go_loop [10, 11] (fun v s => ∃ (p : Nat) (V : Int), p ≤ N ∧ s = .int .i64 (p : Int) ∧ v = .int .i64 V ∧ V = lackP zs p) (fun _ s => N - (intOf s).toNat)
    case atStart => exact ⟨0, 0, Nat.zero_le _, rfl, rfl, rfl⟩
    case round =>
      obtain ⟨p, V, hp, rfl, rfl, hV⟩ := hrel
      have hVb := lackP_bound zs p
      rw [← hV] at hVb
      obtain ⟨hV0, hV8⟩ := hVb
      have HV := Lib.hid hV
      clear hV
      have hp0 : (0 : Int) ≤ (p : Int) := by omega
      by_cases hpN : p < N
      · have hpNI : (p : Int) < (N : Int) := by omega
        have hp256 : p < 256 := by omega
        go_wp2
        go_loop [12, 13] (fun s i => ∃ k S : Nat, k ≤ Y ∧ i = .int .i64 (k : Int) ∧ s = .int .i64 (S : Int) ∧ S = metU zs 0 (memK k p)) (fun _ i => Y - (intOf i).toNat)
        case atStart => exact ⟨0, 0, Nat.zero_le _, rfl, rfl, rfl⟩
        case round =>
          obtain ⟨k, S, hk, rfl, rfl, hS⟩ := hrel
          have hS64 : S < 64 := by rw [hS]; exact metU_lt (fun z h => (HZ6.out z h).2) _ 0 (by decide)
          have HS := Lib.hid hS
          clear hS
          by_cases hlt : k < Y
          · have hms := memK_succ k p
            have hk0 : (0 : Int) ≤ (k : Int) := by omega
            have hk64 : (k : Int) < 64 := by omega
            have hkI : (k : Int) < (Y : Int) := by omega
            have hbv := bitW_val (s := p) (v := k) hp256 (by omega)
            cases htb : p.testBit k
            · rw [htb] at hbv hms
              simp only [Bool.false_eq_true, if_false, List.append_nil] at hbv hms
              have HE : Hid (S = metU zs 0 (memK (k + 1) p)) := Lib.hid (by rw [hms]; exact HS.out)
              clear htb hms
              go_wp2
              go_round
              case rel => exact ⟨k + 1, S, by omega, by go_num, rfl, HE.out⟩
              case measure => simp [intOf]; omega
            · rw [htb] at hbv hms
              simp only [if_true] at hbv hms
              obtain ⟨b1, o1, rfl, hb1, hc1⟩ := HI2.out.at_ (k := k) (by rw [← HY.out]; exact hlt)
              obtain ⟨z0, z1⟩ := HZ6.out _ (at_in (k := k) (by rw [← HY.out]; exact hlt))
              obtain ⟨z, hzz⟩ : ∃ z : Nat, zs[k]?.getD 0 = (z : Int) := ⟨(zs[k]?.getD 0).toNat, by omega⟩
              rw [hzz, Int.toNat_natCast] at z1
              rw [hzz] at hc1
              have HE : Hid (S ||| z = metU zs 0 (memK (k + 1) p)) := Lib.hid (by rw [hms, metU_snoc, ← HS.out, hzz, Int.toNat_natCast])
              have hor := or6_at S z hS64 z1
              clear htb hms z0 hzz
              go_wp2
              go_round
              case rel => exact ⟨k + 1, S ||| z, by omega, by go_num, rfl, HE.out⟩
              case measure => simp [intOf]; omega
          · obtain rfl : k = Y := by omega
            have hST : S = togK zs p := by rw [HS.out]; unfold togK; rw [← HY.out]
            obtain ⟨A, hA⟩ : ∃ A, A = cntK 8 p := ⟨_, rfl⟩
            obtain ⟨B, hB⟩ : ∃ B, B = cntK 8 S := ⟨_, rfl⟩
            have HSA := Lib.hid (fun W => lawSizeW_any p W hp256)
            have HSB := Lib.hid (fun W => lawSizeW_any S W (by omega))
            rw [← hA] at HSA
            rw [← hB] at HSB
            have hA8 : (A : Int) ≤ 8 := by have := cntK_bound 8 p; omega
            have hB8 : (B : Int) ≤ 8 := by have := cntK_bound 8 S; omega
            have HNX : Hid (lackP zs (p + 1) = max V ((A : Int) - (B : Int))) := Lib.hid (by rw [HV.out, hA, hB, hST]; rfl)
            clear HS hST hA hB
            go_wp2_with fail
            refine (HSA.out _).mono ?_
            rintro e w9 ⟨rfl, rfl⟩
            go_wp2_with fail
            refine (HSB.out _).mono ?_
            rintro e w9 ⟨rfl, rfl⟩
            clear HSA HSB
            go_wp2
            go_round
            case rel => exact ⟨p + 1, max V ((A : Int) - (B : Int)), by omega, by go_num, by go_num, HNX.out.symm⟩
            case measure => simp [intOf]; omega
      · obtain rfl : p = N := by omega
        have hVG : G = (Y : Int) - V := by rw [HLK.out, HV.out]
        subst hVG
        clear HLK HV
        go_wp2
        go_ret
        exact ⟨rfl, B4.out⟩

end Go.Proofs.YtnkedijlddakbaaDoor
