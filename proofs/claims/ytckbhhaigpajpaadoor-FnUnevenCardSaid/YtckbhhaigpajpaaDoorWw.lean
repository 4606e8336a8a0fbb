/- It is proved that the calls of FnUneven return true; conditions: those of each statement. -/
import Derived.BigQuiet
import Derived.Deep.QuietTactic
import Derived.RowKit
import Derived.Laws.CopyRow
import Derived.Lib.SlBuf
import Derived.RangeFuncNested
import Derived.RangeFuncBound
import Derived.RangeFuncCalls
import Derived.RangeFuncLeaves
import Derived.RangeFuncBox
import Derived.RangeFuncWrites
import Derived.StillTailTactics
import Derived.Maps.OwnIn
import Derived.Maps.Ext
import Derived.DeepKeys4
import Derived.MapKept
import Derived.Test.YtckbhhaigpajpaaDoorRows
import Derived.WalkKit
import Derived.WalkSpells
import Derived.ProofKit
import Derived.OpenShut
import Derived.ShutString
import Derived.ChangeOld
import Derived.Below
import Derived.Deep.RegionHeld3
import Derived.Lib.Hide
import Derived.Lib.SmallJoins
import Derived.Outline
import Derived.Laws.MakeOwn
import Derived.Laws.OwnMore
import Derived.IntWalk
import Derived.Maps.AppendAt
import Derived.Sort.MapsRangeIn
import Derived.Deep.RegionLaw
import Derived.Deep.AppendLies
import Derived.Deep.RegionWith
import Derived.Lib.AppendZeros
import Derived.OwnWalk
import Derived.Lib.SlicesCompact
import Derived.Lib.OwnBridge
import Derived.OrdersIn
import Derived.TacticsIn
import Derived.Shelf.Sort.Plain
import Derived.Shelf.Slices.In.SortNone
import Derived.Shelf.Slices.CompactI
import Derived.Ground.Names2Prog
import Derived.Lib.SliceRun
import Derived.Shelf.RegionOpen
import Derived.Shelf.Abstract
import Derived.OwnWalkIn
import Derived.TacticsInMore
import Derived.LoopNIn
import Derived.LoopIn
import Derived.StillTail
import Derived.StillTactics
import Derived.Shelf.Spec.TrailingZeros
import Derived.Deep.LoopGhost
import Derived.Test.YtckbhhaigpajpaaDoorRaab
import Derived.Test.YtckbhhaigpajpaaDoorDa
import Derived.Test.YtckbhhaigpajpaaDoorDb
import Derived.Test.YtckbhhaigpajpaaDoorDd
import Derived.Test.YtckbhhaigpajpaaDoorFb
import Derived.Test.YtckbhhaigpajpaaDoorRaas
import Derived.Test.YtckbhhaigpajpaaDoorPzH
import Derived.Test.YtckbhhaigpajpaaDoorRaae
import Derived.Test.YtckbhhaigpajpaaDoorWq
import Derived.Test.YtckbhhaigpajpaaDoorWr
import Derived.Test.YtckbhhaigpajpaaDoorRaay
import Derived.Test.YtckbhhaigpajpaaDoorWu
import Derived.Test.YtckbhhaigpajpaaDoorWv
import Derived.Test.YtckbhhaigpajpaaDoorRaak
import Derived.Test.YtckbhhaigpajpaaDoorYt
import Derived.Test.YtckbhhaigpajpaaDoorZb
import Derived.Test.YtckbhhaigpajpaaDoorZc
namespace Go.Proofs.YtckbhhaigpajpaaDoor
open Go.RowKit

theorem max2_run (ats : Array TypeId) (ty : TypeId) (x y : Int) : Builtin.max_ ats ty #[.int .i64 x, .int .i64 y] = pure (.int .i64 (max x y)) := by
  show (pure (Value.int .i64 (if y > x then y else x)) : Sem Value) = _
  congr 2
  split <;> omega

attribute [local go_sem ↓] max2_run

set_option maxRecDepth 100000 in
set_option maxHeartbeats 8000000 in
theorem walkFnUneven (a : Option Addr) (n cap : Nat) (w : World) (hb : Bys w w.heap.size a n) (hT : Tab w) (hn : n ≤ 1048576) (hc : n ≤ cap) (hc2 : cap ≤ 9223372036854775807) :
    Calls Tryd.prog 4 #[.slice a n cap] w fun e w' => e = .returned (.bool true) ∧ Below w.heap.size w w' := by
  have HBy := Lib.hid hb
  have HT := Lib.hid hT
  clear hb hT
  go_enter Tryd.func4, Tryd.ntmps4
  go_wp2_with fail
  refine (drawColourUneven_any a n cap w HBy.out hn hc hc2).mono ?_
  rintro e w1 ⟨m, a1, zs, c1, rfl, hl, ho1, hb1⟩
  have F1 := FB.start (m := m) (c := c1) (own_ints ho1)
  have B1 := Lib.hid (hb1.trans ((below1 w1 (.cells #[.int .i64 m, .slice a1 zs.length c1] 25)).mono hb1.size))
  have hln : zs.length ≤ 1048576 := by omega
  have f_f_1 := Lib.hid F1
  clear F1 ho1 hb1
  have f_0 := f_f_1.out.x0
  have f_1 := f_f_1.out.x1
  obtain ⟨O, hO⟩ : ∃ O, O = outCU m zs := ⟨_, rfl⟩
  obtain ⟨G, hG⟩ : ∃ G, G = forestB m zs := ⟨_, rfl⟩
  obtain ⟨ss, hss⟩ : ∃ ss, ss = sizesZ m zs := ⟨_, rfl⟩
  have HMO := Lib.hid (fun W hi hT => implColourUneven_any m a1 c1 zs W hi hT hln)
  have HMP := Lib.hid (fun W hi => specColourUneven_any m a1 c1 zs W hi hln)
  have HFO := Lib.hid (fun W hi hT => implForest_any m a1 c1 zs W hi hT hln)
  have HSI := Lib.hid (fun W hi => implSizes_any m a1 c1 zs W hi hln)
  have HFX : Hid (famIn m zs = true → O ≤ mostS ss ∧ (oddS ss = true → 1 ≤ O) ∧ (G = true → O ≤ 1) ∧ 0 ≤ O ∧ O ≤ 6 ∧ (∀ y ∈ ss, 0 ≤ y ∧ y ≤ 8) ∧ zs.length ≤ 8 ∧ ss.length = zs.length) := Lib.hid fun hf => by
    obtain ⟨-, -, e3, -⟩ := family_facts hf
    obtain ⟨-, -, h8, -⟩ := famIn_out hf
    obtain ⟨q1, q2, q3, q4, q5, q6⟩ := uneven_law hf
    rw [hO, hG, hss]
    exact ⟨q1, q2, q3, q4, q5, q6, by omega, e3⟩
  rw [← hO] at HMO HMP
  rw [← hG] at HFO
  rw [← hss] at HSI
  clear hO hG hss
  go_wp2_with fail
  refine (HMO.out _ f_f_1.out.ints (HT.out.below B1.out HT.out.lt)).mono ?_
  rintro e w2 ⟨rfl, hb2⟩
  have B2 := Lib.hid (B1.out.trans (hb2.mono B1.out.size))
  have f_f_2 := Lib.hid (f_f_1.out.step hb2)
  clear hb2 B1 f_f_1
  clear f_0 f_1
  have f_0 := f_f_2.out.x0
  have f_1 := f_f_2.out.x1
  go_wp2_with fail
  refine (HMP.out _ f_f_2.out.ints).mono ?_
  rintro e w3 ⟨rfl, hb3⟩
  have B3 := Lib.hid (B2.out.trans (hb3.mono B2.out.size))
  have f_f_3 := Lib.hid (f_f_2.out.step hb3)
  clear hb3 B2 f_f_2
  clear f_0 f_1
  have f_0 := f_f_3.out.x0
  have f_1 := f_f_3.out.x1
  clear HMO HMP
  cases hd : famIn m zs
  · clear hd HFO HSI HFX
    go_wp2
    go_ret
    exact ⟨rfl, B3.out⟩
  · obtain ⟨e1, e2, e3, e4, e5, e6, e7, e8⟩ := HFX.out hd
    rw [hd] at HSI
    obtain ⟨N, hN⟩ : ∃ N, N = ss.length := ⟨_, rfl⟩
    have HSL : Hid (ss.length = N) := Lib.hid hN.symm
    have hN8 : N ≤ 8 := by omega
    have HE1 := Lib.hid e1
    have HE2 := Lib.hid e2
    have HE3 := Lib.hid e3
    have HE6 := Lib.hid e6
    clear hd HFX e1 e2 e3 e6 e7 e8
    go_wp2_with fail
    refine (HSI.out _ f_f_3.out.ints).mono ?_
    rintro e w6 ⟨a6, c6, rfl, ho6, hb6⟩
    have G6 := Lib.hid (own_ints ho6)
    have B6 := Lib.hid (B3.out.trans (hb6.mono B3.out.size))
    have f_f_6 := Lib.hid (f_f_3.out.step hb6)
    clear ho6 hb6 B3 f_f_3
    clear f_0 f_1
    rw [HSL.out]
    have x0 := f_f_6.out.x0
    have x1 := f_f_6.out.x1
    clear HSI hl hN
    have HTB : Hid (∀ j, 0 ≤ mostS (ss.take j) ∧ mostS (ss.take j) ≤ 8) := Lib.hid fun j => mostS_bound fun y hy => HE6.out y (List.mem_of_mem_take hy)
    go_wp2
    go_loop [10, 11, 12] (fun b d i => ∃ j : Nat, j ≤ N ∧ i = .int .i64 (j : Int) ∧ b = .int .i64 (mostS (ss.take j)) ∧ d = .bool (oddS (ss.take j))) (fun _ _ i => N - (intOf i).toNat)
    case atStart => exact ⟨0, Nat.zero_le _, rfl, rfl, rfl⟩
    case round =>
      obtain ⟨j, hj, rfl, rfl, rfl⟩ := hrel
      obtain ⟨hM0, hM8⟩ := HTB.out j
      by_cases hlt : j < N
      · have hji : (j : Int) < (N : Int) := by omega
        have hj0 : (0 : Int) ≤ (j : Int) := by omega
        have hjl : j < ss.length := by rw [HSL.out]; exact hlt
        obtain ⟨b9, off, ha9, hbb, hcc⟩ := G6.out.at_ (k := j) hjl
        subst ha9
        have htk : ss.take (j + 1) = ss.take j ++ [ss[j]?.getD 0] := by
          rw [List.take_succ_eq_append_getElem hjl, List.getElem?_eq_getElem hjl]; rfl
        have hy := HE6.out (ss[j]?.getD 0) (by rw [List.getElem?_eq_getElem hjl]; exact List.getElem_mem hjl)
        have h1 := mostS_snoc (ss.take j) (ss[j]?.getD 0)
        have h2 := oddS_snoc (ss.take j) (ss[j]?.getD 0)
        rw [← htk] at h1 h2
        obtain ⟨y, hyy⟩ : ∃ y, y = ss[j]?.getD 0 := ⟨_, rfl⟩
        rw [← hyy] at hcc hy h1 h2
        obtain ⟨M, hM⟩ : ∃ M, M = mostS (ss.take j) := ⟨_, rfl⟩
        obtain ⟨D, hD⟩ : ∃ D, D = oddS (ss.take j) := ⟨_, rfl⟩
        rw [← hM] at h1 hM0 hM8 ⊢
        rw [← hD] at h2 ⊢
        have H1 := Lib.hid h1
        have H2 := Lib.hid h2
        obtain ⟨hy0, hy8⟩ := hy
        have hr : y.tmod 2 = 0 ∨ y.tmod 2 = 1 := by rw [Int.tmod_eq_emod_of_nonneg hy0]; omega
        clear htk h1 h2 hyy hM hD hjl
        rcases hr with hr | hr
        · have HE : Hid (oddS (ss.take (j + 1)) = D) := Lib.hid (by rw [H2.out, hr]; cases D <;> rfl)
          cases D
          · go_wp2
            go_round
            case rel => exact ⟨j + 1, by omega, by go_num, by rw [H1.out], by rw [HE.out]⟩
            case measure => simp [intOf]; omega
          · go_wp2
            go_round
            case rel => exact ⟨j + 1, by omega, by go_num, by rw [H1.out], by rw [HE.out]⟩
            case measure => simp [intOf]; omega
        · have HE : Hid (oddS (ss.take (j + 1)) = true) := Lib.hid (by rw [H2.out, hr]; cases D <;> rfl)
          cases D
          · go_wp2
            go_round
            case rel => exact ⟨j + 1, by omega, by go_num, by rw [H1.out], by rw [HE.out]⟩
            case measure => simp [intOf]; omega
          · go_wp2
            go_round
            case rel => exact ⟨j + 1, by omega, by go_num, by rw [H1.out], by rw [HE.out]⟩
            case measure => simp [intOf]; omega
      · obtain rfl : j = N := by omega
        have ht : ss.take j = ss := by rw [← HSL.out, List.take_length]
        rw [ht] at hM0 hM8 ⊢
        have e1 := HE1.out
        have E2 := HE2
        obtain ⟨M, hM⟩ : ∃ M, M = mostS ss := ⟨_, rfl⟩
        obtain ⟨D, hD⟩ : ∃ D, D = oddS ss := ⟨_, rfl⟩
        rw [← hM] at e1 hM0 hM8 ⊢
        rw [← hD] at E2 ⊢
        have hg1 : decide (O ≤ M) = true := decide_eq_true e1
        clear hM hD ht HE1 HE2 HTB HE6
        cases D
        · go_wp2_with fail
          refine (HFO.out _ f_f_6.out.ints (HT.out.below B6.out HT.out.lt)).mono ?_
          rintro e w7 ⟨rfl, hb7⟩
          have B7 := Lib.hid (B6.out.trans (hb7.mono B6.out.size))
          clear hb7
          cases G
          · go_wp2
            go_ret
            exact ⟨rfl, B7.out⟩
          · have e3 := HE3.out rfl
            have hg3 : decide (O ≤ 1) = true := decide_eq_true e3
            go_wp2
            go_ret
            exact ⟨rfl, B7.out⟩
        · have e2 := E2.out rfl
          have hg2 : decide (1 ≤ O) = true := decide_eq_true e2
          go_wp2_with fail
          refine (HFO.out _ f_f_6.out.ints (HT.out.below B6.out HT.out.lt)).mono ?_
          rintro e w7 ⟨rfl, hb7⟩
          have B7 := Lib.hid (B6.out.trans (hb7.mono B6.out.size))
          clear hb7
          cases G
          · go_wp2
            go_ret
            exact ⟨rfl, B7.out⟩
          · have e3 := HE3.out rfl
            have hg3 : decide (O ≤ 1) = true := decide_eq_true e3
            go_wp2
            go_ret
            exact ⟨rfl, B7.out⟩

end Go.Proofs.YtckbhhaigpajpaaDoor
