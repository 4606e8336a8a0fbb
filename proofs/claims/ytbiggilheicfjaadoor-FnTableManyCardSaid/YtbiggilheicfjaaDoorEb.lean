/- It is proved what TableSteps of the model returns; conditions: those of each statement. -/
import Derived.StillTailTactics
import Derived.Test.YtbiggilheicfjaaDoorRows
import Derived.WalkKit
import Derived.WalkSpells
import Derived.ProofKit
import Derived.OpenShut
import Derived.ShutString
import Derived.ChangeOld
import Derived.Below
import Derived.Deep.RegionHeld3
import Derived.Deep.QuietTactic
import Derived.BigQuiet
import Derived.Lib.Hide
import Derived.Lib.SmallJoins
import Derived.Outline
import Derived.Laws.MakeOwn
import Derived.Laws.OwnMore
import Derived.IntWalk
import Derived.RangeFuncNested
import Derived.RangeFuncBound
import Derived.RangeFuncCalls
import Derived.RangeFuncLeaves
import Derived.RangeFuncBox
import Derived.Shelf.Abstract
import Derived.Shelf.RegionOpen
import Derived.OwnWalkIn
import Derived.TacticsInMore
import Derived.LoopNIn
import Derived.LoopIn
import Derived.Maps.AppendAt
import Derived.Deep.AppendLies
import Derived.Shelf.Spec.TrailingZeros
import Derived.OwnWalk
import Derived.Test.YtbiggilheicfjaaDoorMva
import Derived.Test.YtbiggilheicfjaaDoorZd
namespace Go.Proofs.YtbiggilheicfjaaDoor
open Go.RowKit

/-- How many numbers are at least k. -/
def cntN (zs : List Int) (k : Nat) : Nat := zs.countP fun z => decide ((k : Int) ≤ z)

def stepsL (zs : List Int) : List Int := (List.range 5).map fun i => ((cntN zs (i + 1) : Nat) : Int)
def stepsZ (zs : List Int) : List Int := if degIn zs then stepsL zs else []
/-- The row while number v is looked at for the place j. -/
def stS (zs : List Int) (j v : Nat) : List Int := (List.range 5).map fun i => (((if i < j then cntN zs (i + 1) else if i = j then cntN (zs.take v) (i + 1) else 0) : Nat) : Int)

theorem stepsZ_len (zs : List Int) : (stepsZ zs).length ≤ 1048576 := by
  unfold stepsZ
  split <;> simp [stepsL]

theorem stepsL_length (zs : List Int) : (stepsL zs).length = 5 := by simp [stepsL]
theorem stS_zero (zs : List Int) : stS zs 0 0 = List.replicate 5 0 := by
  apply List.ext_getElem
  · simp [stS]
  · intro i h1 h2
    rw [List.getElem_replicate]
    simp [stS, cntN]

theorem stS_next (zs : List Int) (j : Nat) : stS zs j zs.length = stS zs (j + 1) 0 := by
  apply List.ext_getElem
  · simp [stS]
  · intro i h1 h2
    simp only [stS, List.getElem_map, List.getElem_range, List.take_length, List.take_zero]
    by_cases h : i < j
    · rw [if_pos h, if_pos (by omega)]
    · by_cases h' : i = j
      · rw [if_neg h, if_pos h', if_pos (by omega)]
      · rw [if_neg h, if_neg h', if_neg (by omega)]
        split <;> simp [cntN]

theorem stS_all (zs : List Int) : stS zs 5 0 = stepsL zs := by
  apply List.ext_getElem
  · simp [stS, stepsL]
  · intro i h1 h2
    have hi : i < 5 := by simpa [stS] using h1
    simp only [stS, stepsL, List.getElem_map, List.getElem_range, if_pos hi]

theorem stS_at (zs : List Int) (j v : Nat) (h : j < 5) : (stS zs j v)[j]? = some ((cntN (zs.take v) (j + 1) : Nat) : Int) := by
  simp [stS, h]

theorem cnt_step (zs : List Int) (v k : Nat) (hv : v < zs.length) : cntN (zs.take (v + 1)) k = cntN (zs.take v) k + (if (k : Int) ≤ zs[v]?.getD 0 then 1 else 0) := by
  rw [List.take_succ_eq_append_getElem hv, cntN, cntN, List.countP_append]
  simp [hv]

theorem cnt_le (zs : List Int) (k : Nat) : cntN zs k ≤ zs.length := List.countP_le_length
theorem stS_yes (zs : List Int) (j v : Nat) (hv : v < zs.length) (h : ((j + 1 : Nat) : Int) ≤ zs[v]?.getD 0) :
    stS zs j (v + 1) = (stS zs j v).set j ((cntN (zs.take v) (j + 1) + 1 : Nat) : Int) := by
  apply List.ext_getElem
  · simp [stS]
  · intro i h1 h2
    simp only [stS, List.getElem_map, List.getElem_range, List.getElem_set]
    by_cases hj : j = i
    · subst hj
      rw [if_neg (by omega), if_pos rfl, if_pos rfl, cnt_step zs v _ hv, if_pos h]
    · rw [if_neg hj]
      by_cases h3 : i < j
      · rw [if_pos h3, if_pos h3]
      · rw [if_neg h3, if_neg h3, if_neg (by omega), if_neg (by omega)]

theorem stS_no (zs : List Int) (j v : Nat) (hv : v < zs.length) (h : ¬ ((j + 1 : Nat) : Int) ≤ zs[v]?.getD 0) : stS zs j (v + 1) = stS zs j v := by
  apply List.ext_getElem
  · simp [stS]
  · intro i h1 h2
    simp only [stS, List.getElem_map, List.getElem_range]
    by_cases hj : i = j
    · subst hj
      rw [if_neg (by omega), if_pos rfl, if_neg (by omega), if_pos rfl, cnt_step zs v _ hv, if_neg h, Nat.add_zero]
    · by_cases h3 : i < j
      · rw [if_pos h3, if_pos h3]
      · rw [if_neg h3, if_neg h3, if_neg hj, if_neg hj]

set_option maxRecDepth 100000 in
set_option maxHeartbeats 1600000 in
theorem specSteps_no (a : Option Addr) (c : Nat) (zs : List Int) (w : World) (ha : Ints w w.heap.size a zs) (hx : zs.length ≤ 1048576) (hf : degIn zs = false) :
    Calls Tryd.prog 28 #[.slice a zs.length c] w (RetSB w [] false) := by
  have HA := Lib.hid ((ha.below (below1 w (.cells #[] 3))).mono (B' := (w.alloc (.cells #[] 3)).heap.size) (by simp))
  have HF : Hid (tabIn [] zs = false) := Lib.hid (by rw [tabIn, hf]; simp)
  obtain ⟨n, hn⟩ : ∃ n, n = zs.length := ⟨_, rfl⟩
  have HN := Lib.hid hn
  rw [← hn]
  clear hf ha hn
  go_enter Tryd.func28, Tryd.ntmps28
  go_wp2_with fail
  rw [HN.out]
  refine (given_any _ _ _ _ [] zs _ (.inl rfl) HA.out (by simp) hx).mono ?_
  rintro e w1 ⟨rfl, rfl⟩
  rw [HF.out]
  have hsz : w.heap.size ≤ (w.alloc (.cells #[] 3)).heap.size := by simp
  have HB := Lib.hid (below1 w (.cells #[] 3))
  go_wp2
  go_ret2
  exact ⟨some ⟨w.heap.size + 1, 0, none⟩, 0, rfl, by have h1 := own_empty (alloc_new (w.alloc (.cells #[] 3)) (.cells #[] 3)) hsz; simpa using h1, HB.out.alloc hsz _⟩

set_option maxRecDepth 100000 in
set_option maxHeartbeats 3200000 in
theorem specSteps_yes (a : Option Addr) (c : Nat) (zs : List Int) (w : World) (ha : Ints w w.heap.size a zs) (hx : zs.length ≤ 1048576) (hf : degIn zs = true) :
    Calls Tryd.prog 28 #[.slice a zs.length c] w (RetSB w (stepsL zs) true) := by
  obtain ⟨i0, hi0, hz0, hz1, hz2⟩ := info_parts Tryd.info3
  have HA := Lib.hid ((ha.below (below1 w (.cells #[] 3))).mono (B' := (w.alloc (.cells #[] 3)).heap.size) (by simp))
  have HI := Lib.hid ha
  have HF : Hid (tabIn [] zs = true) := Lib.hid (by rw [tabIn, hf]; rfl)
  obtain ⟨hl1, hl5, hz⟩ := degIn_out hf
  obtain ⟨n, hn⟩ : ∃ n, n = zs.length := ⟨_, rfl⟩
  have HN := Lib.hid hn
  have HZ := Lib.hid hz
  have hn5 : n ≤ 5 := by omega
  rw [← hn]
  clear hf ha hn hl1 hl5 hz
  go_enter Tryd.func28, Tryd.ntmps28
  go_wp2_with fail
  rw [HN.out]
  refine (given_any _ _ _ _ [] zs _ (.inl rfl) HA.out (by simp) hx).mono ?_
  rintro e w1 ⟨rfl, rfl⟩
  rw [HF.out, ← HN.out]
  go_wp2_with (refine wpList_make_full _ rfl _ _ 23 rfl (w.heap.size + 1) 3 i0 _ 1 Tryd.underlying23 hi0 hz0 hz1 .i64 .i64 _ _ 5 rfl rfl rfl rfl (by rw [hz2]; omega) (by simp only [maxLen]; omega) (by simp) ?_; intro w1 hown hg)
  have HB1 : Hid (Below (w.heap.size + 1) (w.alloc (.cells #[] 3)) w1) := Lib.hid ((Below.refl _ _).grown hg (by simp) (by simp))
  have HO1 : Hid (OwnN w1 w.heap.size (some ⟨w.heap.size + 1, 0, none⟩) 5 5 (stS zs 0 0)) := Lib.hid (by
    rw [stS_zero]
    have h1 := ownsRow_base hown (B := w.heap.size) (by omega)
    rw [show (Value.int .i64 0).cells = #[Value.int .i64 0] from rfl, toList_madeCells_one] at h1
    unfold OwnN
    simpa using h1)
  clear hown hg
  go_loopw [5] (fun i wr => ∃ j : Nat, j ≤ 5 ∧ i = .int .i64 ((j : Int) + 1) ∧ OwnN wr w.heap.size (some ⟨w.heap.size + 1, 0, none⟩) 5 5 (stS zs j 0) ∧ Below (w.heap.size + 1) (w.alloc (.cells #[] 3)) wr) (fun i _ => 6 - (intOf i).toNat)
  case atStart => exact ⟨0, Nat.zero_le _, rfl, HO1.out, HB1.out⟩
  case round =>
    obtain ⟨j, hj, rfl, ho, hb⟩ := hrel
    obtain ⟨wo, hwo⟩ : ∃ wo, wo = wr := ⟨wr, rfl⟩
    subst hwo
    have HO := Lib.hid ho
    have HB := Lib.hid hb
    clear ho hb
    by_cases hlt : j < 5
    · have hj1 : (j : Int) + 1 ≤ 5 := by omega
      go_wp2
      go_loopw [6] (fun i wr => ∃ v : Nat, v ≤ n ∧ i = .int .i64 v ∧ OwnN wr w.heap.size (some ⟨w.heap.size + 1, 0, none⟩) 5 5 (stS zs j v) ∧ Below (w.heap.size + 1) (w.alloc (.cells #[] 3)) wr) (fun i _ => n - (intOf i).toNat)
      case atStart => exact ⟨0, Nat.zero_le _, rfl, HO.out, HB.out⟩
      case round =>
        obtain ⟨v, hv, rfl, ho, hb⟩ := hrel
        by_cases hvm : v < n
        · have hvz : v < zs.length := by have := HN.out; omega
          obtain ⟨b1, o1, rfl, hb1, hc1⟩ := HI.out.at_ hvz
          have y2 := (hb.cell (p := ⟨b1, o1 + v, none⟩) (by simp; omega)).trans ((World.cell?_alloc_lt _ _ _ hb1).trans hc1)
          obtain ⟨z, hzz⟩ : ∃ z, z = zs[v]?.getD 0 := ⟨_, rfl⟩
          rw [← hzz] at y2
          obtain ⟨d, hd⟩ : ∃ d, d = cntN (zs.take v) (j + 1) := ⟨_, rfl⟩
          have hd5 : d ≤ 5 := by rw [hd]; refine Nat.le_trans (cnt_le _ _) ?_; rw [List.length_take]; omega
          have y3 : wr.cell? ⟨w.heap.size + 1, j, none⟩ = some (.int .i64 (d : Int)) := by
            rw [World.ownsRow.cellAt ho j (by omega), List.getElem?_map, stS_at _ _ _ hlt, hd]; rfl
          have hfz := World.ownsRow.frozenAt ho j
          have HS3 := Lib.hid (fun x => (World.ownsRow.stored ho j x).1)
          have HO3 := Lib.hid ho
          have HB3 := Lib.hid hb
          have HD := Lib.hid hd
          have HZZ := Lib.hid hzz
          clear ho hb hd hc1 hzz
          by_cases hge : (j : Int) + 1 ≤ z
          · have HST : Hid (stS zs j (v + 1) = (stS zs j v).set j ((d + 1 : Nat) : Int)) := Lib.hid (by rw [HD.out]; exact stS_yes zs j v hvz (by rw [← HZZ.out]; push_cast; exact hge))
            go_wp2
            refine ⟨⟨v + 1, by omega, by go_num, ?_, HB3.out.setCell (p := ⟨w.heap.size + 1, j, none⟩) (by simp) _⟩, by simp [intOf]; omega⟩
            rw [HST.out, show ((d : Int) + 1) = ((d + 1 : Nat) : Int) from by omega]
            have h1 := HS3.out (.int .i64 ((d + 1 : Nat) : Int))
            rw [← List.map_set] at h1
            exact h1
          · have HST : Hid (stS zs j (v + 1) = stS zs j v) := Lib.hid (stS_no zs j v hvz (by rw [← HZZ.out]; push_cast; exact hge))
            have hlt' : z < (j : Int) + 1 := by omega
            go_wp2
            go_roundw
            case rel => exact ⟨v + 1, by omega, by go_num, by rw [HST.out]; exact HO3.out, HB3.out⟩
            case measure => simp [intOf]; omega
        · obtain rfl : v = n := by omega
          have HOE : Hid (OwnN wr w.heap.size (some ⟨w.heap.size + 1, 0, none⟩) 5 5 (stS zs (j + 1) 0)) := Lib.hid (by
            rw [← stS_next, ← HN.out]; exact ho)
          have HBE := Lib.hid hb
          clear ho hb
          go_wp2
          go_roundw
          case rel => exact ⟨j + 1, by omega, by go_num, HOE.out, HBE.out⟩
          case measure => simp [intOf]; omega
    · obtain rfl : j = 5 := by omega
      have HD : Hid (RetSB w (stepsL zs) true (.returned (.tuple #[.slice (some ⟨w.heap.size + 1, 0, none⟩) 5 5, .bool true])) wo) := by
        refine ⟨_, _, by rw [stepsL_length], ?_, (below1 w _).trans (HB.out.mono (by omega))⟩
        have h1 := HO.out
        rw [stS_all] at h1
        unfold OwnI
        rw [stepsL_length]
        exact h1
      go_wp2
      go_ret2
      exact HD.out

theorem specSteps_any (a : Option Addr) (c : Nat) (zs : List Int) (w : World) (ha : Ints w w.heap.size a zs) (hx : zs.length ≤ 1048576) :
    Calls Tryd.prog 28 #[.slice a zs.length c] w (RetSB w (stepsZ zs) (degIn zs)) := by
  unfold stepsZ
  cases h : degIn zs
  · exact specSteps_no a c zs w ha hx h
  · exact specSteps_yes a c zs w ha hx h

end Go.Proofs.YtbiggilheicfjaaDoor
