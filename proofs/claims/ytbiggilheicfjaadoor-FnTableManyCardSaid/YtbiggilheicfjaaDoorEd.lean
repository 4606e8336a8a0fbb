/- It is proved what TableSteps of the program returns; conditions: those of each statement. -/
import Derived.Laws.CopyRow
import Derived.Lib.SlBuf
import Derived.Test.YtbiggilheicfjaaDoorRows
import Derived.WalkKit
import Derived.WalkSpells
import Derived.ProofKit
import Derived.OpenShut
import Derived.ShutString
import Derived.ChangeOld
import Derived.Below
import Derived.Deep.RegionHeld3
import Derived.Deep.QuietTactic
import Derived.BigQuiet
import Derived.Lib.Hide
import Derived.Lib.SmallJoins
import Derived.Outline
import Derived.Laws.MakeOwn
import Derived.Laws.OwnMore
import Derived.IntWalk
import Derived.StillTailTactics
import Derived.Lib.AppendZeros
import Derived.Maps.AppendAt
import Derived.Deep.AppendLies
import Derived.OwnWalk
import Derived.RangeFuncNested
import Derived.RangeFuncBound
import Derived.RangeFuncCalls
import Derived.RangeFuncLeaves
import Derived.RangeFuncBox
import Derived.Shelf.Abstract
import Derived.Shelf.RegionOpen
import Derived.OwnWalkIn
import Derived.TacticsInMore
import Derived.LoopNIn
import Derived.LoopIn
import Derived.Shelf.Spec.TrailingZeros
import Derived.Test.YtbiggilheicfjaaDoorMva
import Derived.Test.YtbiggilheicfjaaDoorEb
import Derived.Test.YtbiggilheicfjaaDoorEc
import Derived.Test.YtbiggilheicfjaaDoorZa
import Derived.Test.YtbiggilheicfjaaDoorZd
namespace Go.Proofs.YtbiggilheicfjaaDoor
open Go.RowKit Go.Shelf

def set5 (b0 b1 b2 b3 b4 : Bool) : Nat :=
  (if b0 then 1 else 0) ||| (if b1 then 2 else 0) ||| (if b2 then 4 else 0) ||| (if b3 then 8 else 0) ||| (if b4 then 16 else 0)

theorem pop_set5 : ∀ b0 b1 b2 b3 b4 : Bool, pop ((set5 b0 b1 b2 b3 b4 : Nat) : Int) = (b0.toNat + b1.toNat + b2.toNat + b3.toNat + b4.toNat : Nat) := by decide +kernel
theorem atL_set5 (x0 x1 x2 x3 x4 k : Int) : atL [x0, x1, x2, x3, x4] k 5 = set5 (decide (k ≤ x0)) (decide (k ≤ x1)) (decide (k ≤ x2)) (decide (k ≤ x3)) (decide (k ≤ x4)) := by
  rw [atL_succ, atL_succ, atL_succ, atL_succ, atL_succ]
  simp only [atL, List.range_zero, List.foldl_nil, set5]
  by_cases h0 : k ≤ x0 <;> by_cases h1 : k ≤ x1 <;> by_cases h2 : k ≤ x2 <;> by_cases h3 : k ≤ x3 <;> by_cases h4 : k ≤ x4 <;> simp [h0, h1, h2, h3, h4]

theorem pop_atL (xs : List Int) (hl : xs.length = 5) (k : Nat) : pop ((atL xs (k : Int) 5 : Nat) : Int) = ((cntN xs k : Nat) : Int) := by
  obtain ⟨x0, x1, x2, x3, x4, rfl⟩ := five hl
  rw [atL_set5, pop_set5, cntN]
  simp only [List.countP_cons, List.countP_nil]
  by_cases h0 : (k : Int) ≤ x0 <;> by_cases h1 : (k : Int) ≤ x1 <;> by_cases h2 : (k : Int) ≤ x2 <;> by_cases h3 : (k : Int) ≤ x3 <;> by_cases h4 : (k : Int) ≤ x4 <;> simp [h0, h1, h2, h3, h4]

theorem cnt_pad (zs : List Int) (k : Nat) (hk : 1 ≤ k) : cntN (pad5 zs) k = cntN zs k := by
  rw [pad5, cntN, List.countP_append, List.countP_replicate]
  have : decide ((k : Int) ≤ 0) = false := by simp; omega
  rw [this]
  rfl

theorem steps_at (zs : List Int) (k : Nat) (hk : k < 5) (hl : zs.length ≤ 5) : (stepsL zs).take (k + 1) = (stepsL zs).take k ++ [pop ((atL (pad5 zs) ((k : Int) + 1) 5 : Nat) : Int)] := by
  have h1 := pop_atL (pad5 zs) (pad5_len hl) (k + 1)
  rw [cnt_pad zs (k + 1) (by omega)] at h1
  rw [List.take_succ_eq_append_getElem (by rw [stepsL_length]; exact hk)]
  rw [show ((k : Int) + 1) = ((k + 1 : Nat) : Int) from by omega, h1]
  simp [stepsL]

set_option maxRecDepth 100000 in
set_option maxHeartbeats 1600000 in
theorem implSteps_no (a : Option Addr) (c : Nat) (zs : List Int) (w : World) (ha : Ints w w.heap.size a zs) (hx : zs.length ≤ 1048576) (hf : degIn zs = false) :
    Calls Tryd.prog 27 #[.slice a zs.length c] w (RetSB w [] false) := by
  have H := degreesIn_any a c zs w ha hx
  rw [hf] at H
  go_enter Tryd.func27, Tryd.ntmps27
  go_wp2_with fail
  refine H.mono ?_
  rintro e w1 ⟨rfl, rfl⟩
  go_wp2
  go_ret2
  exact ⟨none, 0, rfl, World.ownsRow_nil _ _ 3 1, Below.refl _ _⟩

set_option maxRecDepth 100000 in
set_option maxHeartbeats 3200000 in
theorem implSteps_yes (a : Option Addr) (c : Nat) (zs : List Int) (w : World) (ha : Ints w w.heap.size a zs) (hx : zs.length ≤ 1048576) (hf : degIn zs = true) :
    Calls Tryd.prog 27 #[.slice a zs.length c] w (RetSB w (stepsL zs) true) := by
  obtain ⟨i0, hi0, hz0, hz1, hz2⟩ := info_parts Tryd.info3
  have H := degreesIn_any a c zs w ha hx
  rw [hf] at H
  obtain ⟨hl1, hl5, -⟩ := degIn_out hf
  have HI := Lib.hid ha
  have HL := Lib.hid (pad5_len hl5)
  clear hf ha
  go_enter Tryd.func27, Tryd.ntmps27
  go_wp2_with fail
  refine H.mono ?_
  rintro e w1 ⟨rfl, rfl⟩
  clear H
  go_wp2_with (refine wpList_make_own _ rfl _ _ 23 rfl w.heap.size 3 i0 (.int .i64 0) 1 Tryd.underlying23 hi0 hz0 hz1 .i64 .i64 5 5 rfl rfl rfl (by rw [hz2]; omega) (by simp only [maxLen]; omega) (Nat.le_refl _) ?_; intro w2 hown hgrow)
  have HO2 := Lib.hid hown
  have HB2 : Hid (Below w.heap.size w w2) := Lib.hid ((Below.refl _ _).grown hgrow (Nat.le_refl _) (by simp))
  clear hown hgrow
  go_loopw [4, 5] (fun v i wr => ∃ (k : Nat) (a' : Option Addr) (c' : Nat), k ≤ 5 ∧ i = .int .i64 ((k : Int) + 1) ∧ v = .slice a' k c' ∧ wr.ownsRow w.heap.size 3 1 (.slice a' k c') k (((stepsL zs).take k).map (Value.int .i64)) ∧ Below w.heap.size w wr) (fun _ i _ => 6 - (intOf i).toNat)
  case atStart => exact ⟨0, _, _, Nat.zero_le _, rfl, rfl, by simpa using HO2.out, HB2.out⟩
  case round =>
    obtain ⟨k, a', c', hk, rfl, rfl, ho, hb⟩ := hrel
    by_cases hlt : k < 5
    · have hk1 : (k : Int) + 1 ≤ 5 := by omega
      have HO := Lib.hid ho
      have HB := Lib.hid hb
      obtain ⟨s, hs⟩ : ∃ s, s = atL (pad5 zs) ((k : Int) + 1) 5 := ⟨_, rfl⟩
      have hs32 : s < 32 := by rw [hs]; exact atL_lt _ _ 5 (Nat.le_refl _)
      have hs63 : (s : Int) ≤ 63 := by omega
      have HS := Lib.hid hs
      clear ho hb hs
      go_wp2_with fail
      refine (wantedBy_any a c zs wr ((HI.out.below HB.out).mono HB.out.size) hl1 hl5).mono ?_
      rintro e w3 ⟨rfl, hb3⟩
      have HB3 := Lib.hid (HB.out.trans (hb3.mono HB.out.size))
      have HO3 := Lib.hid (ownsRow_below HO.out hb3)
      clear hb3
      go_wp2_with fail
      refine (atLeast_any (pad5 zs) HL.out _ w3).mono ?_
      rintro e w4 ⟨rfl, hb4⟩
      have HB4 := Lib.hid (HB3.out.trans (hb4.mono HB3.out.size))
      have HO4 := Lib.hid (ownsRow_below HO3.out hb4)
      rw [← HS.out]
      clear hb4
      go_wp2_with fail
      refine (size_any _ _ (by omega) hs63).mono ?_
      rintro e w5 ⟨rfl, rfl⟩
      have hsz := HB4.out.size
      go_wp2_with (at_builtin; refine wpList_append_own _ rfl _ _ 23 rfl w.heap.size 3 i0 (.int .i64 0) 1 8 Tryd.underlying23 hi0 hz0 hz1 hz2 rfl (by decide) _ _ _ rfl (HO4.out.alloc _) ⟨w4.heap.size, 0, none⟩ 1 1 [.int .i64 (pop (s : Int))] rfl rfl (cell_one_new _ _ _) (by simp [Value.oneCell']) (by simp only [maxLen]; omega) (by omega) (by simp; omega) ?_; intro v' w9 hown hgrow _; obtain ⟨g', cap', rfl, _, _⟩ := World.ownsRow.form hown (by omega))
      go_roundw
      case rel => exact ⟨k + 1, _, _, by omega, by go_num, rfl, by rw [steps_at zs k hlt hl5, ← HS.out, List.map_append]; simpa using hown, (HB4.out.alloc (by omega) _).grown hgrow (by simp; omega) (fun g e => (World.ownsRow.lt HO4.out g e).1)⟩
      case measure => simp [intOf]; omega
    · obtain rfl : k = 5 := by omega
      have HD : Hid (RetSB w (stepsL zs) true (.returned (.tuple #[.slice a' 5 c', .bool true])) wr) := by
        refine ⟨a', c', by rw [stepsL_length], ?_, hb⟩
        have h1 := ho
        rw [List.take_of_length_le (by rw [stepsL_length]; exact Nat.le_refl _)] at h1
        unfold OwnI
        rw [stepsL_length]
        exact h1
      clear ho hb
      go_wp2
      go_ret2
      exact HD.out

theorem implSteps_any (a : Option Addr) (c : Nat) (zs : List Int) (w : World) (ha : Ints w w.heap.size a zs) (hx : zs.length ≤ 1048576) :
    Calls Tryd.prog 27 #[.slice a zs.length c] w (RetSB w (stepsZ zs) (degIn zs)) := by
  unfold stepsZ
  cases h : degIn zs
  · exact implSteps_no a c zs w ha hx h
  · exact implSteps_yes a c zs w ha hx h

end Go.Proofs.YtbiggilheicfjaaDoor
