/- It is proved what CoverPack of the reference model returns; conditions: those of each statement. -/
import Derived.RowKit
import Derived.Laws.CopyRow
import Derived.Lib.SlBuf
import Derived.Deep.QuietTactic
import Derived.RangeFuncNested
import Derived.RangeFuncBound
import Derived.RangeFuncCalls
import Derived.RangeFuncLeaves
import Derived.RangeFuncBox
import Derived.RangeFuncWrites
import Derived.StillTailTactics
import Derived.Maps.OwnIn
import Derived.Maps.Ext
import Derived.DeepKeys4
import Derived.MapKept
import Derived.Test.YtmojkeokkebbfaaDoorRows
import Derived.WalkKit
import Derived.WalkSpells
import Derived.ProofKit
import Derived.OpenShut
import Derived.ShutString
import Derived.ChangeOld
import Derived.Below
import Derived.Deep.RegionHeld3
import Derived.BigQuiet
import Derived.Lib.Hide
import Derived.Lib.SmallJoins
import Derived.Outline
import Derived.Laws.MakeOwn
import Derived.Laws.OwnMore
import Derived.IntWalk
import Derived.Lib.AppendZeros
import Derived.Maps.AppendAt
import Derived.Deep.AppendLies
import Derived.OwnWalk
import Derived.Lib.SlicesCompact
import Derived.Lib.OwnBridge
import Derived.OrdersIn
import Derived.TacticsIn
import Derived.Shelf.Sort.Plain
import Derived.Shelf.Slices.In.SortNone
import Derived.Shelf.Slices.CompactI
import Derived.Ground.Names2Prog
import Derived.Lib.SliceRun
import Derived.Shelf.Abstract
import Derived.Shelf.RegionOpen
import Derived.OwnWalkIn
import Derived.TacticsInMore
import Derived.LoopNIn
import Derived.LoopIn
import Derived.StillTail
import Derived.StillTactics
import Derived.Shelf.Spec.TrailingZeros
import Derived.Test.YtmojkeokkebbfaaDoorMzaa
import Derived.Test.YtmojkeokkebbfaaDoorMzad
import Derived.Test.YtmojkeokkebbfaaDoorMzae
import Derived.Test.YtmojkeokkebbfaaDoorMzaw
import Derived.Test.YtmojkeokkebbfaaDoorMzaf
import Derived.Test.YtmojkeokkebbfaaDoorMzao
import Derived.Test.YtmojkeokkebbfaaDoorMzax
import Derived.Test.YtmojkeokkebbfaaDoorKs
import Derived.Test.YtmojkeokkebbfaaDoorMzay
import Derived.Test.YtmojkeokkebbfaaDoorMzaq
namespace Go.Proofs.YtmojkeokkebbfaaDoor
open Go.RowKit

set_option maxRecDepth 100000 in
set_option maxHeartbeats 4000000 in
theorem l4Pack_any (a : Option Addr) (c : Nat) (zs : List Int) (w : World) (ha : Ints w w.heap.size a zs) (hx : zs.length ≤ 8) (hz : ∀ z ∈ zs, 0 ≤ z ∧ z.toNat < 64) :
    ∀ (rs : List Int) (p : Nat), rs = zs.drop p → p ≤ zs.length → ∀ (u : Nat), u < 64 →
    Calls Tryd.prog 66 #[.slice a zs.length c, .int .i64 (p : Int), .int .i64 (u : Int)] w fun e w' => e = .returned (.int .i64 ((packM rs u : Nat) : Int)) ∧ w = w'
  | [], p, hrs, hp, u, hu => by
    have hpn : p = zs.length := by
      have := congrArg List.length hrs
      rw [List.length_drop] at this
      simp at this; omega
    obtain ⟨n, hn⟩ : ∃ n, n = zs.length := ⟨_, rfl⟩
    rw [← hn] at hpn ⊢
    have hpI : ((p : Int) == (n : Int)) = true := by rw [beq_iff_eq]; omega
    clear hpn hn hrs
    go_enter Tryd.func66, Tryd.ntmps66
    go_wp2
    go_ret
    exact ⟨rfl, rfl⟩
  | z :: rs, p, hrs, hp, u, hu => by
    have hlt : p < zs.length := by
      have := congrArg List.length hrs
      rw [List.length_drop, List.length_cons] at this
      omega
    have hzp : zs[p]?.getD 0 = z := by
      have := congrArg (fun l : List Int => l[0]?.getD 0) hrs
      simp at this
      simp [this]
    have hrs2 : rs = zs.drop (p + 1) := by
      have := congrArg List.tail hrs
      simpa using this
    have hin : z ∈ zs := by rw [← hzp, List.getElem?_eq_getElem hlt]; exact List.getElem_mem _
    obtain ⟨hz0, hz6⟩ := hz z hin
    obtain ⟨y, rfl⟩ : ∃ y : Nat, z = (y : Int) := ⟨z.toNat, by omega⟩
    rw [Int.toNat_natCast] at hz6
    have I1 := Lib.hid (l4Pack_any a c zs w ha hx hz rs (p + 1) hrs2 (by omega) u hu)
    have hor : u ||| y < 64 := Nat.or_lt_two_pow (n := 6) hu hz6
    have HOR := or6_at u y hu hz6
    have hpm : packM ((y : Int) :: rs) u = if y &&& u = 0 then max (packM rs u) (1 + packM rs (u ||| y)) else packM rs u := by rw [packM, Int.toNat_natCast]
    obtain ⟨v, hv⟩ : ∃ v, v = u ||| y := ⟨_, rfl⟩
    rw [← hv] at hor HOR hpm
    have I2 := Lib.hid (l4Pack_any a c zs w ha hx hz rs (p + 1) hrs2 (by omega) v hor)
    have HAND := and6_at y u hz6 hu
    obtain ⟨t, ht⟩ : ∃ t, t = y &&& u := ⟨_, rfl⟩
    rw [← ht] at HAND hpm
    obtain ⟨b1, o1, rfl, hb1, hc1⟩ := ha.at_ hlt
    rw [hzp] at hc1
    have HPM := Lib.hid hpm
    have HL1 : Hid (packM rs u ≤ 8 ∧ packM rs v ≤ 8) := Lib.hid (by
      have h1 := packM_le rs u
      have h2 := packM_le rs v
      have := congrArg List.length hrs2
      rw [List.length_drop] at this
      omega)
    obtain ⟨P1, hP1⟩ : ∃ P1, P1 = packM rs u := ⟨_, rfl⟩
    obtain ⟨P2, hP2⟩ : ∃ P2, P2 = packM rs v := ⟨_, rfl⟩
    rw [← hP1] at I1 HPM HL1
    rw [← hP2] at I2 HPM HL1
    obtain ⟨hP18, hP28⟩ := HL1.out
    obtain ⟨n, hn⟩ : ∃ n, n = zs.length := ⟨_, rfl⟩
    rw [← hn] at I1 I2 ⊢
    have hpI : ((p : Int) == (n : Int)) = false := by rw [beq_eq_false_iff_ne]; omega
    have hpI2 : (p : Int) < (n : Int) := by omega
    have hn8 : (n : Int) ≤ 8 := by omega
    rw [show ((p + 1 : Nat) : Int) = (p : Int) + 1 by omega] at I1 I2
    clear hrs hrs2 hin hzp hz hP1 hP2 hn ha hz0 hv ht hpm
    by_cases h0 : t = 0
    · have HE : Hid (packM ((y : Int) :: rs) u = max P1 (1 + P2)) := Lib.hid (by rw [HPM.out, if_pos h0])
      rw [h0] at HAND
      clear h0
      go_enter Tryd.func66, Tryd.ntmps66
      go_wp2_with fail
      refine I1.out.mono ?_
      rintro e w' ⟨rfl, rfl⟩
      go_wp2_with fail
      refine I2.out.mono ?_
      rintro e w' ⟨rfl, rfl⟩
      have hP2I : (1 : Int) + (P2 : Int) ≤ 100 := by omega
      have HMX : Hid ((max (P1 : Int) (1 + (P2 : Int))) = ((max P1 (1 + P2) : Nat) : Int)) := Lib.hid (by omega)
      go_wp2
      go_ret
      exact ⟨by rw [HE.out, ← HMX.out]; rfl, rfl⟩
    · have HE : Hid (packM ((y : Int) :: rs) u = P1) := Lib.hid (by rw [HPM.out, if_neg h0])
      have h0I : ((t : Int) == 0) = false := by rw [beq_eq_false_iff_ne]; omega
      clear h0
      go_enter Tryd.func66, Tryd.ntmps66
      go_wp2_with fail
      refine I1.out.mono ?_
      rintro e w' ⟨rfl, rfl⟩
      go_wp2
      go_ret
      exact ⟨by rw [HE.out]; rfl, rfl⟩

set_option maxRecDepth 100000 in
theorem specCoverPack_any (m : Int) (a : Option Addr) (c : Nat) (zs : List Int) (w : World) (ha : Ints w w.heap.size a zs) (hx : zs.length ≤ 1048576) :
    Calls Tryd.prog 33 #[.agg #[.int .i64 m, .slice a zs.length c]] w (RetIB w (packZ m zs) (famIn m zs)) := by
  have HB0 := Lib.hid (below1 w (.cells #[.int .i64 m, .slice a zs.length c] 25))
  have HA := Lib.hid (ha.below HB0.out)
  clear ha
  cases hf : famIn m zs
  · have HF := Lib.hid hf
    have HZ : Hid (packZ m zs = 0) := Lib.hid (by unfold packZ; rw [hf]; rfl)
    clear hf
    go_enter Tryd.func33, Tryd.ntmps33
    go_wp2_with fail
    refine (specFamilyIn_any _ _ _ zs _ (HA.out.mono (by simp)) hx).mono ?_
    rintro e w1 ⟨rfl, hb⟩
    rw [HF.out]
    have HB := Lib.hid (HB0.out.trans (hb.mono (by simp)))
    clear hb
    go_wp2
    go_ret2
    exact ⟨by rw [HZ.out]; rfl, HB.out⟩
  · have HF := Lib.hid hf
    obtain ⟨k, rfl, hk1, hk6, hset, hl8⟩ := fam_nat2 hf
    have HZ : Hid (packZ (k : Int) zs = ((packM zs 0 : Nat) : Int)) := Lib.hid (by unfold packZ; rw [hf]; rfl)
    clear hf
    go_enter Tryd.func33, Tryd.ntmps33
    go_wp2_with fail
    refine (specFamilyIn_any _ _ _ zs _ (HA.out.mono (by simp)) hx).mono ?_
    rintro e w1 ⟨rfl, hb⟩
    rw [HF.out]
    have b0 : w1.heap[w.heap.size]? = some (.cells #[.int .i64 (k : Int), .slice a zs.length c] 25 (0, 0)) := (hb.block _ (by simp)).trans (alloc_new w _)
    have x0 := (blk_cell b0 0).trans (cell2_0 _ _)
    have x1 := (blk_cell b0 1).trans (cell2_1 _ _)
    have z1 : w.heap.size < w1.heap.size := lt_of_some b0
    have HC := Lib.hid (l4Pack_any a c zs w1 ((HA.out.below (hb.mono (by simp))).mono (by omega)) hl8 (fun z h => ⟨(hset z h).1, p64 hk6 (hset z h).2⟩) zs 0 rfl (Nat.zero_le _) 0 (by decide))
    have HB := Lib.hid (HB0.out.trans (hb.mono (by simp)))
    clear hb b0
    go_wp2_with fail
    refine HC.out.mono ?_
    rintro e w2 ⟨rfl, rfl⟩
    go_wp2
    go_ret2
    exact ⟨by rw [HZ.out]; rfl, HB.out⟩

end Go.Proofs.YtmojkeokkebbfaaDoor
