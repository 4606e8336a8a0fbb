/- It is proved that the call of the law FnBlocked returns true; conditions: those of each statement. -/
import Derived.RowKit
import Derived.Laws.CopyRow
import Derived.Lib.SlBuf
import Derived.Deep.QuietTactic
import Derived.RangeFuncNested
import Derived.RangeFuncBound
import Derived.RangeFuncCalls
import Derived.RangeFuncLeaves
import Derived.RangeFuncBox
import Derived.RangeFuncWrites
import Derived.StillTailTactics
import Derived.Maps.OwnIn
import Derived.Maps.Ext
import Derived.DeepKeys4
import Derived.MapKept
import Derived.Test.YtgaappbcekllhaaDoorRows
import Derived.WalkKit
import Derived.WalkSpells
import Derived.ProofKit
import Derived.OpenShut
import Derived.ShutString
import Derived.ChangeOld
import Derived.Below
import Derived.Deep.RegionHeld3
import Derived.BigQuiet
import Derived.Lib.Hide
import Derived.Lib.SmallJoins
import Derived.Outline
import Derived.Laws.MakeOwn
import Derived.Laws.OwnMore
import Derived.IntWalk
import Derived.Maps.AppendAt
import Derived.Deep.RegionLaw
import Derived.Deep.AppendLies
import Derived.Lib.AppendZeros
import Derived.OwnWalk
import Derived.Lib.SlicesCompact
import Derived.Lib.OwnBridge
import Derived.OrdersIn
import Derived.TacticsIn
import Derived.Shelf.Sort.Plain
import Derived.Shelf.Slices.In.SortNone
import Derived.Shelf.Slices.CompactI
import Derived.Ground.Names2Prog
import Derived.Lib.SliceRun
import Derived.Shelf.RegionOpen
import Derived.Shelf.Abstract
import Derived.OwnWalkIn
import Derived.TacticsInMore
import Derived.LoopNIn
import Derived.LoopIn
import Derived.StillTail
import Derived.StillTactics
import Derived.Shelf.Spec.TrailingZeros
import Derived.Test.YtgaappbcekllhaaDoorCaab
import Derived.Test.YtgaappbcekllhaaDoorDa
import Derived.Test.YtgaappbcekllhaaDoorDb
import Derived.Test.YtgaappbcekllhaaDoorDd
import Derived.Test.YtgaappbcekllhaaDoorFb
import Derived.Test.YtgaappbcekllhaaDoorHu
import Derived.Test.YtgaappbcekllhaaDoorMa
import Derived.Test.YtgaappbcekllhaaDoorMb
import Derived.Test.YtgaappbcekllhaaDoorCaam
import Derived.Test.YtgaappbcekllhaaDoorMi
import Derived.Test.YtgaappbcekllhaaDoorCaao
import Derived.Test.YtgaappbcekllhaaDoorMp
import Derived.Test.YtgaappbcekllhaaDoorMs
import Derived.Test.YtgaappbcekllhaaDoorMu
import Derived.Test.YtgaappbcekllhaaDoorMv
import Derived.Test.YtgaappbcekllhaaDoorCaac
import Derived.Test.YtgaappbcekllhaaDoorTP
import Derived.Test.YtgaappbcekllhaaDoorYl
namespace Go.Proofs.YtgaappbcekllhaaDoor
open Go.RowKit

set_option maxRecDepth 100000 in
set_option maxHeartbeats 8000000 in
theorem walkFnBlocked (a : Option Addr) (n cap : Nat) (w : World) (hb : Bys w w.heap.size a n) (hT : Tab w) (hn : n ≤ 1048576) (hc : n ≤ cap) (hc2 : cap ≤ 9223372036854775807) :
    Calls Tryd.prog 3 #[.slice a n cap] w fun e w' => e = .returned (.bool true) ∧ Below w.heap.size w w' := by
  have HBy := Lib.hid hb
  have HT := Lib.hid hT
  clear hb hT
  go_enter Tryd.func3, Tryd.ntmps3
  go_wp2_with fail
  refine (drawSpeakerBlocked_any a n cap w HBy.out hn hc hc2).mono ?_
  rintro e w1 ⟨m, a1, zs, c1, rfl, hl, ho1, hb1⟩
  have F1 := FB.start (m := m) (c := c1) (own_ints ho1)
  have B1 := Lib.hid (hb1.trans ((below1 w1 (.cells #[.int .i64 m, .slice a1 zs.length c1] 25)).mono hb1.size))
  have hln : zs.length ≤ 1048576 := by omega
  have f_f_1 := Lib.hid F1
  clear F1 ho1 hb1
  have f_0 := f_f_1.out.x0
  have f_1 := f_f_1.out.x1
  obtain ⟨G, hG⟩ : ∃ G, G = blkZ m zs := ⟨_, rfl⟩
  obtain ⟨K, hK⟩ : ∃ K, K = famIn m zs := ⟨_, rfl⟩
  have HI := Lib.hid (fun W hi hT => implSpeakerBlocked_any m a1 c1 zs W hi hT hln)
  have HSP := Lib.hid (fun W hi => specSpeakerBlocked_any m a1 c1 zs W hi hln)
  have HPR := Lib.hid (fun W hi hT => implSpeakerPairs_any m a1 c1 zs W hi hT hln)
  have HAL := Lib.hid (fun W hi hT => implAllT_any m a1 c1 zs W hi hT hln)
  rw [← hK] at HPR HAL
  rw [← hG, ← hK] at HI HSP
  have HG := Lib.hid hG
  have HK := Lib.hid hK
  clear hG hK
  go_wp2_with fail
  refine (HI.out _ f_f_1.out.ints (HT.out.below B1.out HT.out.lt)).mono ?_
  rintro e w2 ⟨rfl, hb2⟩
  have B2 := Lib.hid (B1.out.trans (hb2.mono B1.out.size))
  have f_f_2 := Lib.hid (f_f_1.out.step hb2)
  clear hb2 B1 f_f_1
  clear f_0 f_1
  have f_0 := f_f_2.out.x0
  have f_1 := f_f_2.out.x1
  go_wp2_with fail
  refine (HSP.out _ f_f_2.out.ints).mono ?_
  rintro e w3 ⟨rfl, hb3⟩
  have B3 := Lib.hid (B2.out.trans (hb3.mono B2.out.size))
  have f_f_3 := Lib.hid (f_f_2.out.step hb3)
  clear hb3 B2 f_f_2
  clear f_0 f_1
  have f_0 := f_f_3.out.x0
  have f_1 := f_f_3.out.x1
  clear HI HSP
  cases K
  · clear HK HG HPR HAL
    go_wp2
    go_ret
    exact ⟨rfl, B3.out⟩
  · obtain ⟨B, e0, hB64, hin, hle, hleG, hfa, hpr⟩ := blk_facts HK.out.symm
    obtain rfl : G = (B : Int) := HG.out.trans e0
    have hmi : meetIn m zs (B : Int) = true := by unfold meetIn; rw [← HK.out, hin]; rfl
    have hmm : meetM m zs (B : Int) = m := by unfold meetM; rw [if_pos hmi]
    have hmz : meetZ m zs (B : Int) = zs.map fun z => bits .and .i64 z (B : Int) := by unfold meetZ; rw [if_pos hmi]
    obtain ⟨ys, hys⟩ : ∃ ys, ys = zs.map fun z => bits .and .i64 z (B : Int) := ⟨_, rfl⟩
    rw [← hys] at hmz hfa hpr
    have hyl : ys.length ≤ 1048576 := by rw [hys, List.length_map]; exact hln
    have HME := Lib.hid (fun W hz => implMeet_any m a1 c1 zs (B : Int) W hz hln)
    rw [hmm, hmz, hmi] at HME
    have HPY := Lib.hid (fun a c W hi hT => implSpeakerPairs_any m a c ys W hi hT hyl)
    rw [hfa, hpr] at HPY
    have hal : allZ m zs = ((togK zs (2 ^ zs.length - 1) : Nat) : Int) := by unfold allZ; rw [← HK.out, if_pos rfl]
    obtain ⟨AL, hALe⟩ : ∃ AL, AL = togK zs (2 ^ zs.length - 1) := ⟨_, rfl⟩
    rw [← hALe] at hal hleG
    rw [hal] at HAL
    have hand : bits .andNot .i64 (B : Int) (AL : Int) = 0 := by simpa [leG] using hleG
    have HSB := Lib.hid (fun W => lawSizeW_any B W (by omega))
    obtain ⟨C, hC⟩ : ∃ C, C = cntK 8 B := ⟨_, rfl⟩
    have hC8 : C ≤ 8 := by rw [hC]; exact cntK_bound 8 B
    rw [← hC] at hle HPY HSB
    obtain ⟨R, hR⟩ : ∃ R, R = prsZ m zs := ⟨_, rfl⟩
    rw [← hR] at hle HPR
    clear hC hR hpr hfa hys hmz hmm hmi hin e0 HG HK hal hALe hleG
    go_wp2_with fail
    refine (HPR.out _ f_f_3.out.ints (HT.out.below B3.out HT.out.lt)).mono ?_
    rintro e w4 ⟨rfl, hb4⟩
    have B4 := Lib.hid (B3.out.trans (hb4.mono B3.out.size))
    have f_f_4 := Lib.hid (f_f_3.out.step hb4)
    clear hb4 B3 f_f_3 HPR
    clear f_0 f_1
    have f_0 := f_f_4.out.x0
    have f_1 := f_f_4.out.x1
    go_wp2_with fail
    refine (HAL.out _ f_f_4.out.ints (HT.out.below B4.out HT.out.lt)).mono ?_
    rintro e w5 ⟨rfl, hb5⟩
    have B5 := Lib.hid (B4.out.trans (hb5.mono B4.out.size))
    have f_f_5 := Lib.hid (f_f_4.out.step hb5)
    clear hb5 B4 f_f_4 HAL
    clear f_0 f_1
    have f_0 := f_f_5.out.x0
    have f_1 := f_f_5.out.x1
    go_wp2_with fail
    refine (HME.out _ f_f_5.out.ints).mono ?_
    rintro e w6 ⟨a6, c6, rfl, ho6, hb6⟩
    have F6 := FB.start (m := m) (c := c6) (own_ints ho6)
    have B6 := Lib.hid (B5.out.trans ((hb6.trans ((below1 w6 (.cells #[.int .i64 m, .slice a6 ys.length c6] 25)).mono hb6.size)).mono B5.out.size))
    have f_out_6 := Lib.hid F6
    clear F6 ho6 hb6 B5 f_f_5 HME
    clear f_0 f_1
    have o_0 := f_out_6.out.x0
    have o_1 := f_out_6.out.x1
    go_wp2_with fail
    refine (HPY.out a6 c6 _ f_out_6.out.ints (HT.out.below B6.out HT.out.lt)).mono ?_
    rintro e w7 ⟨rfl, hb7⟩
    have B7 := Lib.hid (B6.out.trans (hb7.mono B6.out.size))
    clear hb7 B6 f_out_6 HPY o_0 o_1
    go_wp2_with fail
    refine (HSB.out _).mono ?_
    rintro e w9 ⟨rfl, rfl⟩
    go_wp2_with fail
    refine (HSB.out _).mono ?_
    rintro e w9 ⟨rfl, rfl⟩
    clear HSB
    go_wp2
    go_ret
    exact ⟨rfl, B7.out⟩

end Go.Proofs.YtgaappbcekllhaaDoor
