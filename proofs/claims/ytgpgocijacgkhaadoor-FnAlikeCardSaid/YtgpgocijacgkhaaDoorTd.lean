/- It is proved what FamilyDegrees of the model returns; conditions: those of each statement. -/
import Derived.StillTailTactics
import Derived.Test.YtgpgocijacgkhaaDoorRows
import Derived.WalkKit
import Derived.WalkSpells
import Derived.ProofKit
import Derived.OpenShut
import Derived.ShutString
import Derived.ChangeOld
import Derived.Below
import Derived.Deep.RegionHeld3
import Derived.Deep.QuietTactic
import Derived.BigQuiet
import Derived.Lib.Hide
import Derived.Lib.SmallJoins
import Derived.Outline
import Derived.Laws.MakeOwn
import Derived.Laws.OwnMore
import Derived.IntWalk
import Derived.RangeFuncNested
import Derived.RangeFuncBound
import Derived.RangeFuncCalls
import Derived.RangeFuncLeaves
import Derived.RangeFuncBox
import Derived.Shelf.Abstract
import Derived.Shelf.RegionOpen
import Derived.OwnWalkIn
import Derived.TacticsInMore
import Derived.LoopNIn
import Derived.LoopIn
import Derived.Maps.AppendAt
import Derived.Deep.AppendLies
import Derived.OwnWalk
import Derived.Shelf.Spec.TrailingZeros
import Derived.Test.YtgpgocijacgkhaaDoorRaaa
import Derived.Test.YtgpgocijacgkhaaDoorRaab
import Derived.Test.YtgpgocijacgkhaaDoorRaai
import Derived.Test.YtgpgocijacgkhaaDoorRaac
import Derived.Test.YtgpgocijacgkhaaDoorTb
import Derived.Test.YtgpgocijacgkhaaDoorTc
namespace Go.Proofs.YtgpgocijacgkhaaDoor
open Go.RowKit

/-- The row while a club is counted: the first j members are through. -/
def degS (m : Nat) (us : List Nat) (s j : Nat) : List Int := (List.range m).map fun v => ((us.count v + (if v < j then (s >>> v) &&& 1 else 0) : Nat) : Int)

theorem degS_zero (m : Nat) (us : List Nat) (s : Nat) : degS m us s 0 = degL m us := by simp [degS, degL]
theorem degS_at (m : Nat) (us : List Nat) (s j : Nat) (h : j < m) : (degS m us s j)[j]? = some ((us.count j : Nat) : Int) := by simp [degS, h]
theorem degS_all (m : Nat) (us : List Nat) (s : Nat) (hm : m ≤ 6) (hs : s < 64) : degS m us s m = degL m (us ++ mem s) := by
  apply List.ext_getElem
  · simp [degS, degL]
  · intro v h1 h2
    have hv : v < m := by simpa [degS] using h1
    simp only [degS, degL, List.getElem_map, List.getElem_range, List.count_append, if_pos hv]
    rw [mem_count s hs v (by omega)]

theorem degS_succ (m : Nat) (us : List Nat) (s j : Nat) : degS m us s (j + 1) = (degS m us s j).set j (((us.count j + ((s >>> j) &&& 1) : Nat)) : Int) := by
  apply List.ext_getElem
  · simp [degS]
  · intro v h1 h2
    have hv : v < m := by simpa [degS] using h1
    simp only [degS, List.getElem_map, List.getElem_range, List.getElem_set]
    by_cases h : j = v
    · subst h; simp
    · rw [if_neg h]
      have : (v < j + 1) ↔ (v < j) := by omega
      simp [this]

theorem allMem_take (zs : List Int) (k : Nat) (h : k < zs.length) : allMem (zs.take (k + 1)) = allMem (zs.take k) ++ mem (zs[k]?.getD 0).toNat := by
  rw [List.take_succ_eq_append_getElem h, allMem_snoc]; simp [h]

set_option maxRecDepth 100000 in
theorem bit_fin : ∀ s : Fin 64, ∀ v : Fin 6, bits BinOp.and IntKind.i64 ((s.val : Int) / 2 ^ v.val) 1 = (((s.val >>> v.val) &&& 1 : Nat) : Int) := by decide +kernel

theorem bit_at (s v : Nat) (hs : s < 64) (hv : v < 6) : bits BinOp.and IntKind.i64 ((s : Int) / 2 ^ v) 1 = (((s >>> v) &&& 1 : Nat) : Int) := bit_fin ⟨s, hs⟩ ⟨v, hv⟩
set_option maxRecDepth 100000 in
set_option maxHeartbeats 1000000 in
theorem l1Degrees_any (m : Nat) (a : Option Addr) (c : Nat) (zs : List Int) (w : World) (ha : Ints w w.heap.size a zs) (hf : famIn (m : Int) zs = true) :
    Calls Tryd.prog 49 #[.agg #[.int .i64 (m : Int), .slice a zs.length c]] w (RetInts w (degL m (allMem zs))) := by
  obtain ⟨i0, hi0, hz0, hz1, hz2⟩ := info_parts Tryd.info3
  have HI := Lib.hid ha
  have hPc := isClub_all hf
  obtain ⟨hm1, hm6, hl8, -⟩ := famIn_out hf
  have hm6' : m ≤ 6 := by omega
  clear ha hf
  go_enter Tryd.func49, Tryd.ntmps49
  go_wp2_with (refine wpList_make_full _ rfl _ _ 23 rfl (w.heap.size + 1) 3 i0 _ 1 Tryd.underlying23 hi0 hz0 hz1 .i64 .i64 _ _ m rfl rfl rfl rfl (by rw [hz2]; omega) (by simp only [maxLen]; omega) (by simp) ?_; intro w1 hown hg)
  have HB1 : Hid (Below (w.heap.size + 1) (w.alloc (.cells #[.int .i64 (m : Int), .slice a zs.length c] 25)) w1) := Lib.hid ((Below.refl _ _).grown hg (by simp) (by simp))
  have HO1 : Hid (OwnN w1 w.heap.size (some ⟨w.heap.size + 1, 0, none⟩) m m (degL m (allMem (zs.take 0)))) := Lib.hid (by
    rw [show degL m (allMem (zs.take 0)) = List.replicate m 0 from degL_nil m]
    have h1 := ownsRow_base hown (B := w.heap.size) (by omega)
    rw [show (Value.int .i64 0).cells = #[Value.int .i64 0] from rfl, toList_madeCells_one] at h1
    unfold OwnN
    simpa using h1)
  clear hown hg
  go_loopw [4] (fun i wr => ∃ k : Nat, k ≤ zs.length ∧ i = .int .i64 k ∧ OwnN wr w.heap.size (some ⟨w.heap.size + 1, 0, none⟩) m m (degL m (allMem (zs.take k))) ∧ Below (w.heap.size + 1) (w.alloc (.cells #[.int .i64 (m : Int), .slice a zs.length c] 25)) wr) (fun i _ => zs.length - (intOf i).toNat)
  case atStart => exact ⟨0, Nat.zero_le _, rfl, HO1.out, HB1.out⟩
  case round =>
    obtain ⟨k, hk, rfl, ho, hb⟩ := hrel
    obtain ⟨wo, hwo⟩ : ∃ wo, wo = wr := ⟨wr, rfl⟩
    subst hwo
    have x0 : wo.cell? ⟨w.heap.size, 0, none⟩ = some (.int .i64 (m : Int)) := (hb.cell (p := ⟨w.heap.size, 0, none⟩) (by simp)).trans (blk_cell (alloc_new w _) 0)
    have x1 : wo.cell? ⟨w.heap.size, 1, none⟩ = some (.slice a zs.length c) := (hb.cell (p := ⟨w.heap.size, 1, none⟩) (by simp)).trans (blk_cell (alloc_new w _) 1)
    have HO := Lib.hid ho
    have HB := Lib.hid hb
    clear ho hb
    by_cases hlt : k < zs.length
    · obtain ⟨s, hs⟩ : ∃ s : Nat, zs[k]?.getD 0 = (s : Int) := ⟨(zs[k]?.getD 0).toNat, by have := (hPc k hlt).2.1; simp only at this; omega⟩
      have hs64 : s < 64 := by have := (hPc k hlt).small hm6'; simp only [hs] at this; simpa using this
      obtain ⟨b1, o1, rfl, hb1, hc1⟩ := HI.out.at_ hlt
      rw [hs] at hc1
      have HC1 := Lib.hid hc1
      have HS := Lib.hid hs
      obtain ⟨U, hU⟩ : ∃ U, U = allMem (zs.take k) := ⟨_, rfl⟩
      have hUl : U.length ≤ 48 := by
        have h1 := allMem_len (zs.take k) (by
          intro z hz
          obtain ⟨j, hj, rfl⟩ := List.getElem_of_mem hz
          have hjl : j < zs.length := by have h3 := hj; simp at h3; omega
          have h2 := (hPc j hjl).small hm6'
          rw [show zs[j]?.getD 0 = zs[j] from by simp [hjl]] at h2
          simpa using h2)
        rw [hU]; simp at h1; omega
      have HU := Lib.hid hU
      have HO2 : Hid (OwnN wo w.heap.size (some ⟨w.heap.size + 1, 0, none⟩) m m (degS m U s 0)) := Lib.hid (by rw [degS_zero, HU.out]; exact HO.out)
      clear hc1 hs hU
      go_wp2
      go_loopw [5] (fun i wr => ∃ v : Nat, v ≤ m ∧ i = .int .i64 v ∧ OwnN wr w.heap.size (some ⟨w.heap.size + 1, 0, none⟩) m m (degS m U s v) ∧ Below (w.heap.size + 1) (w.alloc (.cells #[.int .i64 (m : Int), .slice (some ⟨b1, o1, none⟩) zs.length c] 25)) wr) (fun i _ => m - (intOf i).toNat)
      case atStart => exact ⟨0, Nat.zero_le _, rfl, HO2.out, HB.out⟩
      case round =>
        obtain ⟨v, hv, rfl, ho, hb⟩ := hrel
        have y0 : wr.cell? ⟨w.heap.size, 0, none⟩ = some (.int .i64 (m : Int)) := (hb.cell (p := ⟨w.heap.size, 0, none⟩) (by simp)).trans (blk_cell (alloc_new w _) 0)
        have y1 : wr.cell? ⟨w.heap.size, 1, none⟩ = some (.slice (some ⟨b1, o1, none⟩) zs.length c) := (hb.cell (p := ⟨w.heap.size, 1, none⟩) (by simp)).trans (blk_cell (alloc_new w _) 1)
        by_cases hvm : v < m
        · have y2 : wr.cell? ⟨b1, o1 + k, none⟩ = some (.int .i64 (s : Int)) := (hb.cell (p := ⟨b1, o1 + k, none⟩) (by simp; omega)).trans ((World.cell?_alloc_lt _ _ _ hb1).trans HC1.out)
          obtain ⟨d, hd⟩ : ∃ d, d = U.count v := ⟨_, rfl⟩
          have hd60 : d ≤ 48 := by rw [hd]; exact Nat.le_trans List.count_le_length hUl
          have y3 : wr.cell? ⟨w.heap.size + 1, v, none⟩ = some (.int .i64 (d : Int)) := by
            rw [World.ownsRow.cellAt ho v (by simp; omega), List.getElem?_map, degS_at _ _ _ _ hvm, hd]; rfl
          have hfz := World.ownsRow.frozenAt ho v
          have HS3 := Lib.hid (fun x => (World.ownsRow.stored ho v x).1)
          have HB3 := Lib.hid hb
          have HD := Lib.hid hd
          obtain ⟨e, he⟩ : ∃ e, e = (s >>> v) &&& 1 := ⟨_, rfl⟩
          have he1 : e ≤ 1 := by rw [he]; exact Nat.and_le_right
          have HW : Hid (IntKind.i64.wrap ((d : Int) + bits BinOp.and IntKind.i64 ((s : Int) / 2 ^ v) 1) = ((d + e : Nat) : Int)) := Lib.hid (by
            rw [bit_at s v hs64 (by omega), ← he, IntKind.wrap_i64]; omega)
          have HE := Lib.hid he
          clear ho hb hd he
          go_wp2
          go_still_tail 16, (by kernel_rfl)
          rw [HW.out]
          change wpList _ _ _ _ _ wr.drew
          go_wp2
          go_roundw
          case rel => exact ⟨v + 1, by omega, by go_num, by rw [degS_succ, ← HE.out, ← HD.out]; have h1 := HS3.out (.int .i64 ((d + e : Nat) : Int)); rw [← List.map_set] at h1; exact h1, (HB3.out.drew).setCell (p := ⟨w.heap.size + 1, v, none⟩) (by simp) _⟩
          case measure => simp [intOf]; omega
        · obtain rfl : v = m := by omega
          have HOE : Hid (OwnN wr w.heap.size (some ⟨w.heap.size + 1, 0, none⟩) v v (degL v (allMem (zs.take (k + 1))))) := Lib.hid (by
            rw [allMem_take zs k hlt, HS.out, Int.toNat_natCast, ← HU.out, ← degS_all v U s hm6' hs64]; exact ho)
          have HBE := Lib.hid hb
          clear ho hb
          go_wp2
          go_roundw
          case rel => exact ⟨k + 1, by omega, by go_num, HOE.out, HBE.out⟩
          case measure => simp [intOf]; omega
    · obtain rfl : k = zs.length := by omega
      have HD : Hid (RetInts w (degL m (allMem zs)) (.returned (.slice (some ⟨w.heap.size + 1, 0, none⟩) m m)) wo) := by
        refine ⟨_, _, by rw [degL_length], ?_, (below1 w _).trans (HB.out.mono (by omega))⟩
        have h1 := HO.out
        rw [List.take_length] at h1
        unfold OwnI
        rw [degL_length]
        exact h1
      go_wp2
      go_ret
      exact HD.out

set_option maxRecDepth 100000 in
set_option maxHeartbeats 1000000 in
theorem specDegrees_any (m : Int) (a : Option Addr) (c : Nat) (zs : List Int) (w : World) (ha : Ints w w.heap.size a zs) (hx : zs.length ≤ 1048576) :
    Calls Tryd.prog 17 #[.agg #[.int .i64 m, .slice a zs.length c]] w (RetSB w (famDeg m zs) (famIn m zs)) := by
  have HA := Lib.hid ((ha.below (below1 w (.cells #[.int .i64 m, .slice a zs.length c] 25))).mono (B' := (w.alloc (.cells #[.int .i64 m, .slice a zs.length c] 25)).heap.size) (by simp))
  cases hf : famIn m zs
  · have HF := Lib.hid hf
    have HR : Hid (famDeg m zs = []) := Lib.hid (by simp [famDeg, hf])
    clear hf ha
    go_enter Tryd.func17, Tryd.ntmps17
    go_wp2_with (go_at_call 12; refine (specFamilyIn_any _ _ _ zs _ HA.out hx).mono ?_; rintro e w1 ⟨rfl, hb⟩; rw [HF.out]; have HB := Lib.hid hb; clear hb)
    rw [HR.out]
    have HB1 := Lib.hid ((below1 w (.cells #[.int .i64 m, .slice a zs.length c] 25)).trans (HB.out.mono (by simp)))
    have hsz := HB1.out.size
    clear HB
    go_ret2
    exact ⟨some ⟨w1.heap.size, 0, none⟩, 0, rfl, own_empty (alloc_new w1 _) hsz, HB1.out.alloc hsz _⟩
  · have HF := Lib.hid hf
    obtain ⟨hm1, hm6, -, -⟩ := famIn_out hf
    obtain ⟨k, rfl⟩ : ∃ k : Nat, m = (k : Int) := ⟨m.toNat, by omega⟩
    have HR : Hid (famDeg (k : Int) zs = degL k (allMem zs)) := Lib.hid (by simp [famDeg, hf])
    clear hf ha
    go_enter Tryd.func17, Tryd.ntmps17
    go_wp2_with fail
    refine (specFamilyIn_any _ _ _ zs _ HA.out hx).mono ?_
    rintro e w1 ⟨rfl, hb⟩
    rw [HF.out, HR.out]
    have x0 : w1.cell? ⟨w.heap.size, 0, none⟩ = some (.int .i64 (k : Int)) := (hb.cell (p := ⟨w.heap.size, 0, none⟩) (by simp)).trans (blk_cell (alloc_new w _) 0)
    have x1 : w1.cell? ⟨w.heap.size, 1, none⟩ = some (.slice a zs.length c) := (hb.cell (p := ⟨w.heap.size, 1, none⟩) (by simp)).trans (blk_cell (alloc_new w _) 1)
    have HI := Lib.hid ((HA.out.below hb).mono hb.size)
    have HB := Lib.hid ((below1 w _).trans (hb.mono (by simp)))
    have hsz := HB.out.size
    clear hb
    go_wp2_with fail
    refine (l1Degrees_any k _ _ zs _ HI.out HF.out).mono ?_
    rintro e w2 ⟨a2, c2, rfl, ho2, hb2⟩
    have HD : Hid (RetSB w (degL k (allMem zs)) true (.returned (.tuple #[.slice a2 (degL k (allMem zs)).length c2, .bool true])) w2) := Lib.hid ⟨_, _, rfl, own_mono ho2 hsz, HB.out.trans (hb2.mono hsz)⟩
    clear ho2 hb2
    go_wp2
    go_ret2
    rw [HR.out]
    exact HD.out

theorem implDegrees_any (m : Int) (a : Option Addr) (c : Nat) (zs : List Int) (w : World) (ha : Ints w w.heap.size a zs) (hT : Tab w) (hx : zs.length ≤ 1048576) :
    Calls Tryd.prog 13 #[.agg #[.int .i64 m, .slice a zs.length c]] w (RetSB w (famDeg m zs) (famIn m zs)) := by
  cases hf : famIn m zs
  · rw [show famDeg m zs = [] from by simp [famDeg, hf]]
    exact implDegrees_no m a c zs w ha hx hf
  · obtain ⟨hm1, hm6, -, -⟩ := famIn_out hf
    obtain ⟨k, rfl⟩ : ∃ k : Nat, m = (k : Int) := ⟨m.toNat, by omega⟩
    rw [show famDeg (k : Int) zs = degL k (allMem zs) from by simp [famDeg, hf]]
    exact implDegrees_yes k a c zs w ha hT hx hf

theorem famDeg_len (m : Int) (zs : List Int) : (famDeg m zs).length ≤ 1048576 := by
  unfold famDeg
  split
  · rename_i h
    have := (famIn_out h).2.1
    rw [degL_length]; omega
  · simp

end Go.Proofs.YtgpgocijacgkhaaDoor
