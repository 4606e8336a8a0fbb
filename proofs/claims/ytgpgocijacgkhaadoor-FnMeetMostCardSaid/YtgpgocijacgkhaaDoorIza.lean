/- It is proved that the calls of FnMeetMost return true; conditions: those of each statement. -/
import Derived.BigQuiet
import Derived.Deep.QuietTactic
import Derived.RowKit
import Derived.Laws.CopyRow
import Derived.Lib.SlBuf
import Derived.RangeFuncNested
import Derived.RangeFuncBound
import Derived.RangeFuncCalls
import Derived.RangeFuncLeaves
import Derived.RangeFuncBox
import Derived.RangeFuncWrites
import Derived.StillTailTactics
import Derived.Maps.OwnIn
import Derived.Maps.Ext
import Derived.DeepKeys4
import Derived.MapKept
import Derived.Test.YtgpgocijacgkhaaDoorRows
import Derived.WalkKit
import Derived.WalkSpells
import Derived.ProofKit
import Derived.OpenShut
import Derived.ShutString
import Derived.ChangeOld
import Derived.Below
import Derived.Deep.RegionHeld3
import Derived.Lib.Hide
import Derived.Lib.SmallJoins
import Derived.Outline
import Derived.Laws.MakeOwn
import Derived.Laws.OwnMore
import Derived.IntWalk
import Derived.Maps.AppendAt
import Derived.Sort.MapsRangeIn
import Derived.Deep.RegionLaw
import Derived.Deep.AppendLies
import Derived.Deep.RegionWith
import Derived.Lib.AppendZeros
import Derived.OwnWalk
import Derived.Lib.SlicesCompact
import Derived.Lib.OwnBridge
import Derived.OrdersIn
import Derived.TacticsIn
import Derived.Shelf.Sort.Plain
import Derived.Shelf.Slices.In.SortNone
import Derived.Shelf.Slices.CompactI
import Derived.Ground.Names2Prog
import Derived.Lib.SliceRun
import Derived.Laws.BitsAllLaws
import Derived.Shelf.RegionOpen
import Derived.Shelf.Abstract
import Derived.OwnWalkIn
import Derived.TacticsInMore
import Derived.LoopNIn
import Derived.LoopIn
import Derived.StillTail
import Derived.StillTactics
import Derived.Shelf.Spec.TrailingZeros
import Derived.Deep.LoopGhost
import Derived.Test.YtgpgocijacgkhaaDoorRaab
import Derived.Test.YtgpgocijacgkhaaDoorDb
import Derived.Test.YtgpgocijacgkhaaDoorRaag
import Derived.Test.YtgpgocijacgkhaaDoorRaah
import Derived.Test.YtgpgocijacgkhaaDoorRaax
import Derived.Test.YtgpgocijacgkhaaDoorRaal
import Derived.Test.YtgpgocijacgkhaaDoorIm
import Derived.Test.YtgpgocijacgkhaaDoorRabb
import Derived.Test.YtgpgocijacgkhaaDoorKs
import Derived.Test.YtgpgocijacgkhaaDoorPzH
import Derived.Test.YtgpgocijacgkhaaDoorRaac
import Derived.Test.YtgpgocijacgkhaaDoorRaaz
namespace Go.Proofs.YtgpgocijacgkhaaDoor
open Go.RowKit

set_option maxRecDepth 100000 in
set_option maxHeartbeats 8000000 in
theorem walkFnMeetMost (a : Option Addr) (n cap : Nat) (w : World) (hb : Bys w w.heap.size a n) (hT : Tab w) (hn : n ≤ 1048576) (hc : n ≤ cap) (hc2 : cap ≤ 9223372036854775807) :
    Calls Tryd.prog 8 #[.slice a n cap] w fun e w' => e = .returned (.bool true) ∧ Below w.heap.size w w' := by
  have HBy := Lib.hid hb
  have HT := Lib.hid hT
  clear hb hT
  go_enter Tryd.func8, Tryd.ntmps8
  go_wp2_with fail
  refine (drawMeetMost_any a n cap w HBy.out hn hc hc2).mono ?_
  rintro e w1 ⟨m, a1, zs, c1, rfl, hl, ho1, hb1⟩
  have F1 := FB.start (m := m) (c := c1) (own_ints ho1)
  have B1 := Lib.hid (hb1.trans ((below1 w1 (.cells #[.int .i64 m, .slice a1 zs.length c1] 25)).mono hb1.size))
  have hln : zs.length ≤ 1048576 := by omega
  have f_f_1 := Lib.hid F1
  clear F1 ho1 hb1
  have f_0 := f_f_1.out.x0
  have f_1 := f_f_1.out.x1
  obtain ⟨T, hT'⟩ : ∃ T, T = tmZ m zs := ⟨_, rfl⟩
  obtain ⟨S, hS'⟩ : ∃ S, S = starZ m zs := ⟨_, rfl⟩
  obtain ⟨PK, hPK⟩ : ∃ PK, PK = packZ m zs := ⟨_, rfl⟩
  obtain ⟨ss, hss⟩ : ∃ ss, ss = sizesZ m zs := ⟨_, rfl⟩
  have HMO := Lib.hid (fun W hi hT => implMost_any m a1 c1 zs W hi hT hln)
  have HMP := Lib.hid (fun W hi => specMost_any m a1 c1 zs W hi hln)
  have HMS := Lib.hid (fun W hi hT => implStars_any m a1 c1 zs W hi hT hln)
  have HPA := Lib.hid (fun W hi hT => implCoverPack_any m a1 c1 zs W hi hT hln)
  have HSI := Lib.hid (fun W hi => implSizes_any m a1 c1 zs W hi hln)
  have HFX : Hid (famIn m zs = true → S ≤ T ∧ T + PK ≤ (zs.length : Int) + 1 ∧ 0 ≤ S ∧ 0 ≤ PK ∧ zs.length ≤ 8 ∧ ss.length = zs.length) := Lib.hid fun hf => by
    obtain ⟨-, -, e3, -⟩ := family_facts hf
    obtain ⟨-, -, h8, -⟩ := famIn_out hf
    rw [hT', hS', hPK, hss]
    refine ⟨tm_star hf, tm_pack hf, star_nn _ _, ?_, by omega, e3⟩
    unfold packZ; rw [if_pos hf]; omega
  rw [← hT'] at HMO HMP
  rw [← hS'] at HMS
  rw [← hPK] at HPA
  rw [← hss] at HSI
  clear hT' hS' hPK hss
  go_wp2_with fail
  refine (HMO.out _ f_f_1.out.ints (HT.out.below B1.out HT.out.lt)).mono ?_
  rintro e w2 ⟨rfl, hb2⟩
  have B2 := Lib.hid (B1.out.trans (hb2.mono B1.out.size))
  have f_f_2 := Lib.hid (f_f_1.out.step hb2)
  clear hb2 B1 f_f_1
  clear f_0 f_1
  have f_0 := f_f_2.out.x0
  have f_1 := f_f_2.out.x1
  go_wp2_with fail
  refine (HMP.out _ f_f_2.out.ints).mono ?_
  rintro e w3 ⟨rfl, hb3⟩
  have B3 := Lib.hid (B2.out.trans (hb3.mono B2.out.size))
  have f_f_3 := Lib.hid (f_f_2.out.step hb3)
  clear hb3 B2 f_f_2
  clear f_0 f_1
  have f_0 := f_f_3.out.x0
  have f_1 := f_f_3.out.x1
  clear HMO HMP
  have htt : (T == T) = true := by simp
  have htn : (T != T) = false := by simp
  cases hd : famIn m zs
  · clear hd HMS HPA HSI HFX
    go_wp2
    go_ret
    exact ⟨rfl, B3.out⟩
  · obtain ⟨e1, e2, e3, e4, e5, e6⟩ := HFX.out hd
    rw [hd] at HMS HPA HSI
    obtain ⟨N, hN⟩ : ∃ N, N = zs.length := ⟨_, rfl⟩
    have HN := Lib.hid hN
    clear hd HFX
    go_wp2_with fail
    refine (HMS.out _ f_f_3.out.ints (HT.out.below B3.out HT.out.lt)).mono ?_
    rintro e w4 ⟨rfl, hb4⟩
    have B4 := Lib.hid (B3.out.trans (hb4.mono B3.out.size))
    have f_f_4 := Lib.hid (f_f_3.out.step hb4)
    clear hb4 B3 f_f_3
    clear f_0 f_1
    have f_0 := f_f_4.out.x0
    have f_1 := f_f_4.out.x1
    go_wp2_with fail
    refine (HPA.out _ f_f_4.out.ints (HT.out.below B4.out HT.out.lt)).mono ?_
    rintro e w5 ⟨rfl, hb5⟩
    have B5 := Lib.hid (B4.out.trans (hb5.mono B4.out.size))
    have f_f_5 := Lib.hid (f_f_4.out.step hb5)
    clear hb5 B4 f_f_4
    clear f_0 f_1
    have f_0 := f_f_5.out.x0
    have f_1 := f_f_5.out.x1
    go_wp2_with fail
    refine (HSI.out _ f_f_5.out.ints).mono ?_
    rintro e w6 ⟨a6, c6, rfl, ho6, hb6⟩
    have G6 := Lib.hid (own_ints ho6)
    have B6 := Lib.hid (B5.out.trans (hb6.mono B5.out.size))
    have f_f_6 := Lib.hid (f_f_5.out.step hb6)
    clear ho6 hb6 B5 f_f_5
    clear f_0 f_1
    have HSL : Hid (ss.length = N) := Lib.hid (by rw [e6, hN])
    have hw1 : IntKind.i64.wrap (T + PK) = T + PK := by rw [IntKind.wrap_i64]; omega
    have hw2 : IntKind.i64.wrap ((N : Int) + 1) = (N : Int) + 1 := by rw [IntKind.wrap_i64]; omega
    have hg1 : decide (S ≤ T) = true := decide_eq_true e1
    have hg2 : decide (T + PK ≤ (N : Int) + 1) = true := decide_eq_true (by rw [hN]; exact e2)
    have hN8 : N ≤ 8 := by omega
    rw [HSL.out]
    have x0 := f_f_6.out.x0
    have x1 := f_f_6.out.x1
    rw [← HN.out] at x1
    clear HMS HPA HSI hl e2 e6 hN
    go_wp2
    go_loop [14, 15] (fun b i => ∃ (j : Nat) (E : Bool), j ≤ N ∧ i = .int .i64 (j : Int) ∧ b = .bool E) (fun _ i => N - (intOf i).toNat)
    case atStart => exact ⟨0, false, Nat.zero_le _, rfl, rfl⟩
    case round =>
      obtain ⟨j, E, hj, rfl, rfl⟩ := hrel
      by_cases hlt : j < N
      · have hji : (j : Int) < (N : Int) := by omega
        have hj0 : (0 : Int) ≤ (j : Int) := by omega
        obtain ⟨b, off, ha9, hbb, hcc⟩ := G6.out.at_ (k := j) (by rw [HSL.out]; exact hlt)
        subst ha9
        cases E
        · go_wp2
          go_round
          case rel => exact ⟨j + 1, _, by omega, by go_num, rfl⟩
          case measure => simp [intOf]; omega
        · go_wp2
          go_round
          case rel => exact ⟨j + 1, true, by omega, by go_num, rfl⟩
          case measure => simp [intOf]; omega
      · obtain rfl : j = N := by omega
        cases E
        · go_wp2
          go_ret
          exact ⟨rfl, B6.out⟩
        · go_wp2
          go_ret
          exact ⟨rfl, B6.out⟩

end Go.Proofs.YtgpgocijacgkhaaDoor
