/- It is proved that the call of the law FnCover returns true; conditions: those of each statement. -/
import Derived.RowKit
import Derived.Laws.CopyRow
import Derived.Lib.SlBuf
import Derived.Deep.QuietTactic
import Derived.RangeFuncNested
import Derived.RangeFuncBound
import Derived.RangeFuncCalls
import Derived.RangeFuncLeaves
import Derived.RangeFuncBox
import Derived.RangeFuncWrites
import Derived.StillTailTactics
import Derived.Maps.OwnIn
import Derived.Maps.Ext
import Derived.DeepKeys4
import Derived.MapKept
import Derived.Test.YtmojkeokkebbfaaDoorRows
import Derived.WalkKit
import Derived.WalkSpells
import Derived.ProofKit
import Derived.OpenShut
import Derived.ShutString
import Derived.ChangeOld
import Derived.Below
import Derived.Deep.RegionHeld3
import Derived.BigQuiet
import Derived.Lib.Hide
import Derived.Lib.SmallJoins
import Derived.Outline
import Derived.Laws.MakeOwn
import Derived.Laws.OwnMore
import Derived.IntWalk
import Derived.Deep.RegionLaw
import Derived.Deep.AppendLies
import Derived.Deep.RegionWith
import Derived.Lib.AppendZeros
import Derived.Maps.AppendAt
import Derived.OwnWalk
import Derived.Lib.SlicesCompact
import Derived.Lib.OwnBridge
import Derived.OrdersIn
import Derived.TacticsIn
import Derived.Shelf.Sort.Plain
import Derived.Shelf.Slices.In.SortNone
import Derived.Shelf.Slices.CompactI
import Derived.Ground.Names2Prog
import Derived.Lib.SliceRun
import Derived.Shelf.Abstract
import Derived.Shelf.RegionOpen
import Derived.OwnWalkIn
import Derived.TacticsInMore
import Derived.LoopNIn
import Derived.LoopIn
import Derived.StillTail
import Derived.StillTactics
import Derived.Shelf.Spec.TrailingZeros
import Derived.Test.YtmojkeokkebbfaaDoorAm
import Derived.Test.YtmojkeokkebbfaaDoorMzad
import Derived.Test.YtmojkeokkebbfaaDoorMzab
import Derived.Test.YtmojkeokkebbfaaDoorDb
import Derived.Test.YtmojkeokkebbfaaDoorMzae
import Derived.Test.YtmojkeokkebbfaaDoorMzaf
import Derived.Test.YtmojkeokkebbfaaDoorMzao
import Derived.Test.YtmojkeokkebbfaaDoorMzaw
import Derived.Test.YtmojkeokkebbfaaDoorMzax
import Derived.Test.YtmojkeokkebbfaaDoorLb
import Derived.Test.YtmojkeokkebbfaaDoorPzB
import Derived.Test.YtmojkeokkebbfaaDoorMzaa
import Derived.Test.YtmojkeokkebbfaaDoorMzam
namespace Go.Proofs.YtmojkeokkebbfaaDoor
open Go.RowKit

set_option maxRecDepth 100000 in
theorem wo_zero_fin : ∀ t s : Fin 64, t.val &&& s.val = t.val → bits .andNot .i64 (t.val : Int) (s.val : Int) = 0 := by decide +kernel

theorem wo_zero {t s : Nat} (ht : t < 64) (hs : s < 64) (h : t &&& s = t) : bits .andNot .i64 (t : Int) (s : Int) = 0 := wo_zero_fin ⟨t, ht⟩ ⟨s, hs⟩ h
theorem sub_full {k s : Nat} (h : s < 2 ^ k) : s &&& (2 ^ k - 1) = s := by
  rw [Nat.and_two_pow_sub_one_eq_mod, Nat.mod_eq_of_lt h]

theorem cover_facts {m x : Int} {zs : List Int} (h : inCov m zs x = true) :
    famIn m zs = true ∧ 1 ≤ m ∧ m ≤ 6 ∧ ((lcZ m zs).any fun z => bits .andNot .i64 z x == 0) = true ∧ inCov m zs (fullI m) = true := by
  unfold inCov at h
  simp only [Bool.and_eq_true] at h
  obtain ⟨h1, h2, h3⟩ := h
  obtain ⟨k, rfl, hk1, hk6, -, -⟩ := fam_nat h1
  obtain ⟨s, rfl, hs⟩ := set_nat h2
  rw [Int.toNat_natCast] at h3
  refine ⟨h1, by omega, by omega, ?_, ?_⟩
  · obtain ⟨t, ht1, ht2, ht3⟩ := min_below hk6 s s (Nat.le_refl _) hs h3
    rw [List.any_eq_true]
    refine ⟨((t : Nat) : Int), ?_, ?_⟩
    · unfold lcZ
      rw [h1, if_pos rfl, Int.toNat_natCast]
      exact lcL_mem.2 ⟨t, rfl, ht2, ht3⟩
    · rw [wo_zero (p64 hk6 ht2) (p64 hk6 hs) ht1]
      rfl
  · unfold inCov
    have hp := Nat.two_pow_pos k
    rw [h1, full_nat, Int.toNat_natCast, covB_mono h3 (sub_full hs)]
    simp [inB, hp]

set_option maxRecDepth 100000 in
set_option maxHeartbeats 8000000 in
theorem walkFnCover (a : Option Addr) (n cap : Nat) (w : World) (hb : Bys w w.heap.size a n) (hT : Tab w) (hn : n ≤ 1048576) (hc : n ≤ cap) (hc2 : cap ≤ 9223372036854775807) :
    Calls Tryd.prog 3 #[.slice a n cap] w fun e w' => e = .returned (.bool true) ∧ Below w.heap.size w w' := by
  have HBy := Lib.hid hb
  have HT := Lib.hid hT
  clear hb hT
  go_enter Tryd.func3, Tryd.ntmps3
  go_wp2_with fail
  refine (drawCoverIn_any a n cap w HBy.out hn hc hc2).mono ?_
  rintro e w1 ⟨m, a1, zs, c1, x, rfl, hl, ho1, hb1⟩
  have F1 := FB.start (m := m) (c := c1) (own_ints ho1)
  have B1 := Lib.hid (hb1.trans ((below1 w1 (.cells #[.int .i64 m, .slice a1 zs.length c1] 25)).mono hb1.size))
  have hln : zs.length ≤ 1048576 := by omega
  have f_f_1 := Lib.hid F1
  clear F1 ho1 hb1
  have f_0 := f_f_1.out.x0
  have f_1 := f_f_1.out.x1
  obtain ⟨A, hA⟩ : ∃ A, A = inCov m zs x := ⟨_, rfl⟩
  have HA := Lib.hid hA
  clear hA
  go_wp2_with fail
  refine (implCoverIn_any m a1 c1 zs x _ f_f_1.out.ints hln).mono ?_
  rw [← HA.out]
  rintro e w2 ⟨rfl, hb2⟩
  have B2 := Lib.hid (B1.out.trans (hb2.mono B1.out.size))
  have f_f_2 := Lib.hid (f_f_1.out.step hb2)
  clear hb2 B1 f_f_1
  clear f_0 f_1
  have f_0 := f_f_2.out.x0
  have f_1 := f_f_2.out.x1
  go_wp2_with fail
  refine (specCoverIn_any m a1 c1 zs x _ f_f_2.out.ints hln).mono ?_
  rw [← HA.out]
  rintro e w3 ⟨rfl, hb3⟩
  have B3 := Lib.hid (B2.out.trans (hb3.mono B2.out.size))
  have f_f_3 := Lib.hid (f_f_2.out.step hb3)
  clear hb3 B2 f_f_2
  clear f_0 f_1
  have f_0 := f_f_3.out.x0
  have f_1 := f_f_3.out.x1
  cases hd : A
  · clear hd HA
    go_wp2
    go_ret
    exact ⟨rfl, B3.out⟩
  · have HD : Hid (inCov m zs x = true) := Lib.hid (HA.out.symm.trans hd)
    clear hd HA
    obtain ⟨e1, hm1, hm6, e2, e3⟩ := cover_facts HD.out
    obtain ⟨qs, hqs⟩ : ∃ qs, qs = lcZ m zs := ⟨_, rfl⟩
    have hql : qs.length ≤ 1048576 := by rw [hqs]; exact lcZ_len m zs
    rw [← hqs] at e2
    have HQS := Lib.hid hqs
    have HF := Lib.hid e1
    have HE := Lib.hid e2
    have HW := Lib.hid e3
    clear hqs e1 e2 e3 HD
    go_wp2_with fail
    refine (implCoverSets_any m a1 c1 zs _ f_f_3.out.ints hln).mono ?_
    rw [HF.out]
    rw [← HQS.out]
    rintro e w4 ⟨a4, c4, rfl, ho4, hb4⟩
    have G4 := Lib.hid (own_ints ho4)
    have B4 := Lib.hid (B3.out.trans (hb4.mono B3.out.size))
    have f_f_4 := Lib.hid (f_f_3.out.step hb4)
    clear ho4 hb4 B3 f_f_3
    clear f_0 f_1
    obtain ⟨Z, hZ⟩ : ∃ Z, Z = qs.length := ⟨_, rfl⟩
    have HZ := Lib.hid hZ
    have hZ1 : Z ≤ 1048576 := by rw [hZ]; exact hql
    rw [← hZ]
    have hs1 : w1.heap.size < w4.heap.size := lt_of_some f_f_4.out.blk
    clear hZ hql hl HQS HF
    go_wp2
    go_loopw [9, 10] (fun v i wr => ∃ (k : Nat) (b' : Bool), k ≤ Z ∧ i = .int .i64 (k : Int) ∧ v = .bool b' ∧ b' = (qs.take k).any (fun z => bits .andNot .i64 z x == 0) ∧ Below w4.heap.size w4 wr) (fun _ i _ => Z - (intOf i).toNat)
    case atStart => exact ⟨0, false, Nat.zero_le _, rfl, rfl, by simp, Below.refl _ _⟩
    case round =>
      obtain ⟨k, bb, hk, rfl, rfl, hbb, hB⟩ := hrel
      have HBI := Lib.hid hbb
      clear hbb
      by_cases hlt : k < Z
      · have hkq : k < qs.length := by rw [← HZ.out]; exact hlt
        have HNX : Hid ((qs.take (k + 1)).any (fun z => bits .andNot .i64 z x == 0) = (bb || (bits .andNot .i64 (qs[k]?.getD 0) x == 0))) := Lib.hid (by rw [List.take_succ_eq_append_getElem hkq, List.any_append, ← HBI.out]; simp [hkq])
        cases bb
        · obtain ⟨b1, o1, ha1, hb1, hc1⟩ := G4.out.at_ (k := k) hkq
          subst ha1
          have v1 := (hB.cell (p := ⟨b1, o1 + k, none⟩) hb1).trans hc1
          obtain ⟨q, hq⟩ : ∃ q, q = qs[k]?.getD 0 := ⟨_, rfl⟩
          rw [← hq] at v1 HNX
          have HB := Lib.hid hB
          clear hB hc1 hq hkq
          cases hp : (bits .andNot .i64 q x == 0)
          · have HP := Lib.hid hp
            go_wp2
            go_roundw
            case rel => exact ⟨k + 1, false, by omega, by go_num, rfl, by rw [HNX.out, HP.out]; rfl, HB.out⟩
            case measure => simp [intOf]; omega
          · have HP := Lib.hid hp
            go_wp2
            go_roundw
            case rel => exact ⟨k + 1, true, by omega, by go_num, rfl, by rw [HNX.out, HP.out]; rfl, HB.out⟩
            case measure => simp [intOf]; omega
        · have HB := Lib.hid hB
          clear hB hkq
          go_wp2
          go_roundw
          case rel => exact ⟨k + 1, true, by omega, by go_num, rfl, by rw [HNX.out]; rfl, HB.out⟩
          case measure => simp [intOf]; omega
      · obtain rfl : k = Z := by omega
        obtain rfl : bb = true := by rw [HBI.out, List.take_of_length_le (by have := HZ.out; omega)]; exact HE.out
        have HBW := Lib.hid (B4.out.trans (hB.mono B4.out.size))
        have hD : Below wr.heap.size wr wr.drew := ⟨rfl, rfl, rfl, Nat.le_refl _, fun _ _ => rfl⟩
        have FR := Lib.hid ((f_f_4.out.step hB).step hD)
        have g0 := FR.out.x0
        have g1 := FR.out.x1
        have hlt2 : w1.heap.size < wr.drew.heap.size := lt_of_some FR.out.blk
        have HBD := Lib.hid (HBW.out.trans (hD.mono HBW.out.size))
        clear hB HBI HE
        go_wp2
        go_region_held3 (fun w' => w'.cell? ⟨w1.heap.size, 0, none⟩ = some (.int .i64 m) ∧ w'.cell? ⟨w1.heap.size, 1, none⟩ = some (.slice a1 zs.length c1))
          (first
            | exact ⟨g0, g1⟩
            | exact ⟨(hb6.cell (p := ⟨w1.heap.size, 0, none⟩) hlt2).trans g0, (hb6.cell (p := ⟨w1.heap.size, 1, none⟩) hlt2).trans g1⟩
            | exact ⟨(hb7.cell (p := ⟨w1.heap.size, 0, none⟩) hlt2).trans g0, (hb7.cell (p := ⟨w1.heap.size, 1, none⟩) hlt2).trans g1⟩)
          (first
            | (go_at_call 16; refine (whole_any m a1 zs.length c1 _ hm1 hm6).mono ?_; rintro e w6 ⟨rfl, hb6⟩)
            | (go_at_call 13; refine (implCoverIn_any m a1 c1 zs (fullI m) _ (FR.out.step hb6).ints hln).mono ?_; rw [HW.out]; rintro e w7 ⟨rfl, hb7'⟩; have hb7 := hb6.trans (hb7'.mono hb6.size)))
        all_goals
          go_wp2
          go_ret
          exact ⟨rfl, HBD.out.trans (hb7.mono HBD.out.size)⟩

end Go.Proofs.YtmojkeokkebbfaaDoor
