/- It is proved what FamilyParts of the model and of the program return for all families; conditions: those of each statement. -/
import Derived.Test.YtgpgocijacgkhaaDoorRows
import Derived.WalkKit
import Derived.WalkSpells
import Derived.ProofKit
import Derived.OpenShut
import Derived.ShutString
import Derived.ChangeOld
import Derived.Below
import Derived.Deep.RegionHeld3
import Derived.Deep.QuietTactic
import Derived.BigQuiet
import Derived.Lib.Hide
import Derived.Lib.SmallJoins
import Derived.Outline
import Derived.Laws.MakeOwn
import Derived.Laws.OwnMore
import Derived.IntWalk
import Derived.RangeFuncNested
import Derived.RangeFuncBound
import Derived.RangeFuncCalls
import Derived.RangeFuncLeaves
import Derived.RangeFuncBox
import Derived.Shelf.Abstract
import Derived.Shelf.RegionOpen
import Derived.OwnWalkIn
import Derived.TacticsInMore
import Derived.LoopNIn
import Derived.LoopIn
import Derived.Maps.AppendAt
import Derived.Deep.AppendLies
import Derived.OwnWalk
import Derived.StillTail
import Derived.StillTactics
import Derived.OrdersIn
import Derived.TacticsIn
import Derived.Shelf.Spec.TrailingZeros
import Derived.StillTailTactics
import Derived.Test.YtgpgocijacgkhaaDoorRaaa
import Derived.Test.YtgpgocijacgkhaaDoorRaab
import Derived.Test.YtgpgocijacgkhaaDoorRaai
import Derived.Test.YtgpgocijacgkhaaDoorPa
import Derived.Test.YtgpgocijacgkhaaDoorRaau
import Derived.Test.YtgpgocijacgkhaaDoorPc
import Derived.Test.YtgpgocijacgkhaaDoorPd
import Derived.Test.YtgpgocijacgkhaaDoorPe
import Derived.Test.YtgpgocijacgkhaaDoorPf
import Derived.Test.YtgpgocijacgkhaaDoorRaac
import Derived.Test.YtgpgocijacgkhaaDoorRaae
namespace Go.Proofs.YtgpgocijacgkhaaDoor
open Go.RowKit

theorem first_cond (m : Nat) (ks : List Nat) (v : Nat) (hv : v < 6) (h : partP m ks v < 64) : (bits BinOp.and IntKind.i64 ((partP m ks v : Nat) : Int) (IntKind.i64.wrap (IntKind.i64.wrap ((2 : Int) ^ v) - 1)) == 0) = firstP m ks v := by
  obtain ⟨h1q, h2q⟩ := p2_small v (by omega)
  have h1 : (1 : Nat) ≤ 2 ^ v := Nat.one_le_two_pow
  have h2 : 2 ^ v ≤ 2 ^ 6 := Nat.pow_le_pow_right (by decide) (by omega)
  have h3 : (2 : Int) ^ v - 1 = ((2 ^ v - 1 : Nat) : Int) := by
    have : (2 : Int) ^ v = ((2 ^ v : Nat) : Int) := by simp
    omega
  have h4 : IntKind.i64.wrap (IntKind.i64.wrap ((2 : Int) ^ v) - 1) = (2 : Int) ^ v - 1 := by
    have h5 : IntKind.i64.wrap ((2 : Int) ^ v) = (2 : Int) ^ v := by rw [IntKind.wrap_i64]; omega
    rw [h5, IntKind.wrap_i64]; omega
  rw [h4, h3, and6_at _ _ h (by omega)]
  unfold firstP
  by_cases h0 : partP m ks v &&& (2 ^ v - 1) = 0
  · rw [h0]; rfl
  · rw [decide_eq_false h0]
    exact beq_eq_false_iff_ne.2 (by omega)

set_option maxRecDepth 100000 in
set_option maxHeartbeats 2000000 in
theorem specParts_yes (m : Nat) (a : Option Addr) (c : Nat) (zs : List Int) (w : World) (ha : Ints w w.heap.size a zs) (hx : zs.length ≤ 1048576) (hf : famIn (m : Int) zs = true) :
    Calls Tryd.prog 26 #[.agg #[.int .i64 (m : Int), .slice a zs.length c]] w (RetIB w ((cntP m (ksOf zs) m : Nat) : Int) true) := by
  have HA := Lib.hid ((ha.below (below1 w (.cells #[.int .i64 (m : Int), .slice a zs.length c] 25))).mono (B' := (w.alloc (.cells #[.int .i64 (m : Int), .slice a zs.length c] 25)).heap.size) (by simp))
  have HI := Lib.hid ha
  have HF := Lib.hid hf
  have HK := Lib.hid (ksm_of hf)
  obtain ⟨hm1, hm6, -, -⟩ := famIn_out hf
  have hm6' : m ≤ 6 := by omega
  clear hf ha
  go_enter Tryd.func26, Tryd.ntmps26
  go_wp2_with fail
  refine (specFamilyIn_any _ _ _ zs _ HA.out hx).mono ?_
  rintro e w1 ⟨rfl, hb⟩
  rw [HF.out]
  have x0 : w1.cell? ⟨w.heap.size, 0, none⟩ = some (.int .i64 (m : Int)) := (hb.cell (p := ⟨w.heap.size, 0, none⟩) (by simp)).trans (blk_cell (alloc_new w _) 0)
  have x1 : w1.cell? ⟨w.heap.size, 1, none⟩ = some (.slice a zs.length c) := (hb.cell (p := ⟨w.heap.size, 1, none⟩) (by simp)).trans (blk_cell (alloc_new w _) 1)
  have X0 := Lib.hid x0
  have X1 := Lib.hid x1
  have hs1 : w.heap.size + 1 ≤ w1.heap.size := by have := hb.size; simpa using this
  have HB := Lib.hid ((below1 w _).trans (hb.mono (by simp)))
  clear hb
  go_wp2
  go_loopw [4, 5] (fun n i wr => ∃ v : Nat, v ≤ m ∧ i = .int .i64 (v : Int) ∧ n = .int .i64 ((cntP m (ksOf zs) v : Nat) : Int) ∧ Below w1.heap.size w1 wr) (fun _ i _ => m - (intOf i).toNat)
  case atStart => exact ⟨0, Nat.zero_le _, rfl, rfl, Below.refl _ _⟩
  case round =>
    obtain ⟨v, hv, rfl, rfl, hb⟩ := hrel
    obtain ⟨wo, hwo⟩ : ∃ wo, wo = wr := ⟨wr, rfl⟩
    subst hwo
    have y0 := (hb.cell (p := ⟨w.heap.size, 0, none⟩) (by show w.heap.size < _; omega)).trans X0.out
    have y1 := (hb.cell (p := ⟨w.heap.size, 1, none⟩) (by show w.heap.size < _; omega)).trans X1.out
    have hws := hb.size
    obtain ⟨k, hk⟩ : ∃ k, k = cntP m (ksOf zs) v := ⟨_, rfl⟩
    have hk6 : k ≤ v := by rw [hk]; exact cntP_le _ _ _
    have hkb : (k : Int) ≤ 6 := by omega
    rw [← hk]
    by_cases hlt : v < m
    · obtain ⟨h1q, h2q⟩ := p2_small v (by omega)
      have hp64 : partP m (ksOf zs) v < 64 := Nat.lt_of_lt_of_le (partP_lt HK.out hlt) (Nat.pow_le_pow_right (by decide) hm6' : 2 ^ m ≤ 2 ^ 6)
      have HC := Lib.hid (first_cond m (ksOf zs) v (by omega) hp64)
      have HSu : Hid (cntP m (ksOf zs) (v + 1) = k + (if firstP m (ksOf zs) v = true then 1 else 0)) := Lib.hid (by rw [cntP_succ, hk])
      have HBr := Lib.hid hb
      have HIW : Hid (Ints wo wo.heap.size a zs) := Lib.hid ((HI.out.below (HB.out.trans (hb.mono (by omega)))).mono (by omega))
      clear hb hk
      go_wp2
      go_region_with (go_at_call 63; refine (l1Part_any m v hlt _ _ zs wo.drew HIW.out HF.out).mono ?_; rintro e w5 ⟨rfl, hb5⟩)
      rw [HC.out]
      have HB5 : Hid (Below w1.heap.size w1 w5) := Lib.hid (HBr.out.trans ((show Below wo.heap.size wo w5 from ⟨hb5.os, hb5.tape, hb5.output, hb5.size, hb5.block⟩).mono hws))
      clear hb5
      cases hfp : firstP m (ksOf zs) v
      · have HS2 : Hid (cntP m (ksOf zs) (v + 1) = k) := Lib.hid (by rw [HSu.out, hfp]; rfl)
        clear hfp
        go_wp2
        go_roundw
        case rel => exact ⟨v + 1, by omega, by go_num, by rw [HS2.out], HB5.out⟩
        case measure => simp [intOf]; omega
      · have HS2 : Hid (cntP m (ksOf zs) (v + 1) = k + 1) := Lib.hid (by rw [HSu.out, hfp]; rfl)
        clear hfp
        go_wp2
        go_roundw
        case rel => exact ⟨v + 1, by omega, by go_num, by rw [HS2.out]; go_num, HB5.out⟩
        case measure => simp [intOf]; omega
    · obtain rfl : v = m := by omega
      have HBr := Lib.hid hb
      have HKK := Lib.hid hk
      clear hb hk
      go_wp2
      go_ret2
      exact ⟨by rw [← HKK.out]; rfl, HB.out.trans (HBr.out.mono (by omega))⟩

set_option maxRecDepth 100000 in
set_option maxHeartbeats 1000000 in
theorem specParts_no (m : Int) (a : Option Addr) (c : Nat) (zs : List Int) (w : World) (ha : Ints w w.heap.size a zs) (hx : zs.length ≤ 1048576) (hf : famIn m zs = false) :
    Calls Tryd.prog 26 #[.agg #[.int .i64 m, .slice a zs.length c]] w (RetIB w 0 false) := by
  have HA := Lib.hid ((ha.below (below1 w (.cells #[.int .i64 m, .slice a zs.length c] 25))).mono (B' := (w.alloc (.cells #[.int .i64 m, .slice a zs.length c] 25)).heap.size) (by simp))
  have HF := Lib.hid hf
  clear hf ha
  go_enter Tryd.func26, Tryd.ntmps26
  go_wp2_with (go_at_call 12; refine (specFamilyIn_any _ _ _ zs _ HA.out hx).mono ?_; rintro e w1 ⟨rfl, hb⟩; rw [HF.out]; have HB := Lib.hid hb; clear hb)
  go_ret2
  exact ⟨rfl, (below1 _ _).trans (HB.out.mono (by simp))⟩

theorem specParts_any (m : Int) (a : Option Addr) (c : Nat) (zs : List Int) (w : World) (ha : Ints w w.heap.size a zs) (hx : zs.length ≤ 1048576) :
    Calls Tryd.prog 26 #[.agg #[.int .i64 m, .slice a zs.length c]] w (RetIB w (partsZ m zs) (famIn m zs)) := by
  cases hf : famIn m zs
  · rw [show partsZ m zs = 0 from by simp [partsZ, hf]]
    exact specParts_no m a c zs w ha hx hf
  · obtain ⟨hm1, hm6, -, -⟩ := famIn_out hf
    obtain ⟨k, rfl⟩ : ∃ k : Nat, m = (k : Int) := ⟨m.toNat, by omega⟩
    rw [show partsZ (k : Int) zs = ((cntP k (ksOf zs) k : Nat) : Int) from by simp [partsZ, hf]]
    exact specParts_yes k a c zs w ha hx hf

theorem implParts_any (m : Int) (a : Option Addr) (c : Nat) (zs : List Int) (w : World) (ha : Ints w w.heap.size a zs) (hT : Tab w) (hx : zs.length ≤ 1048576) :
    Calls Tryd.prog 25 #[.agg #[.int .i64 m, .slice a zs.length c]] w (RetIB w (partsZ m zs) (famIn m zs)) := by
  cases hf : famIn m zs
  · rw [show partsZ m zs = 0 from by simp [partsZ, hf]]
    exact implParts_no m a c zs w ha hx hf
  · obtain ⟨hm1, hm6, -, -⟩ := famIn_out hf
    obtain ⟨k, rfl⟩ : ∃ k : Nat, m = (k : Int) := ⟨m.toNat, by omega⟩
    rw [show partsZ (k : Int) zs = ((cntP k (ksOf zs) k : Nat) : Int) from by simp [partsZ, hf]]
    exact implParts_yes k a c zs w ha hT hx hf

end Go.Proofs.YtgpgocijacgkhaaDoor
