/- It is proved what slices.Reverse does with a list of the call's own, what room returns, and TableIs of the program; conditions: those of each statement. -/
import Derived.Shelf.Slices.Reverse
import Derived.RowKit
import Derived.Laws.CopyRow
import Derived.Lib.SlBuf
import Derived.Deep.QuietTactic
import Derived.RangeFuncNested
import Derived.RangeFuncBound
import Derived.RangeFuncCalls
import Derived.RangeFuncLeaves
import Derived.RangeFuncBox
import Derived.RangeFuncWrites
import Derived.StillTailTactics
import Derived.Maps.OwnIn
import Derived.Maps.Ext
import Derived.DeepKeys4
import Derived.MapKept
import Derived.Test.YtbiggilheicfjaaDoorRows
import Derived.WalkKit
import Derived.WalkSpells
import Derived.ProofKit
import Derived.OpenShut
import Derived.ShutString
import Derived.ChangeOld
import Derived.Below
import Derived.Deep.RegionHeld3
import Derived.BigQuiet
import Derived.Lib.Hide
import Derived.Lib.SmallJoins
import Derived.Outline
import Derived.Laws.MakeOwn
import Derived.Laws.OwnMore
import Derived.IntWalk
import Derived.Maps.AppendAt
import Derived.Sort.MapsRangeIn
import Derived.Lib.AppendZeros
import Derived.Deep.AppendLies
import Derived.OwnWalk
import Derived.Lib.SlicesCompact
import Derived.Lib.OwnBridge
import Derived.OrdersIn
import Derived.TacticsIn
import Derived.Shelf.Sort.Plain
import Derived.Shelf.Slices.In.SortNone
import Derived.Shelf.Slices.CompactI
import Derived.Ground.Names2Prog
import Derived.Shelf.Abstract
import Derived.Shelf.RegionOpen
import Derived.OwnWalkIn
import Derived.TacticsInMore
import Derived.LoopNIn
import Derived.LoopIn
import Derived.StillTail
import Derived.StillTactics
import Derived.Shelf.Spec.TrailingZeros
import Derived.Test.YtbiggilheicfjaaDoorMva
import Derived.Test.YtbiggilheicfjaaDoorHs
namespace Go.Proofs.YtbiggilheicfjaaDoor
open Go.RowKit

def revLays_ren : Go.Shelf.Ren := ⟨fun | 112 => 54 | n => n, fun | 28 => 23 | 3 => 3 | 4 => 4 | 0 => 0 | n => n, fun | n => n⟩
theorem revLays : Go.Proofs.Lays.n112 Tryd.prog revLays_ren := {
  mixed := by kernel_rfl
  f112 := Tryd.func54.trans (congrArg some (by kernel_rfl))
  t0 := Tryd.underlying0
  a0 := Tryd.isAgg0
  z0 := Tryd.sizeOf0
  v0 := Tryd.zeroValue0
  t3 := Tryd.underlying3
  a3 := Tryd.isAgg3
  z3 := Tryd.sizeOf3
  v3 := Tryd.zeroValue3
  t4 := Tryd.underlying4
  a4 := Tryd.isAgg4
  z4 := Tryd.sizeOf4
  v4 := Tryd.zeroValue4
  t28 := Tryd.underlying23
  a28 := Tryd.isAgg23
  z28 := Tryd.sizeOf23
  v28 := Tryd.zeroValue23 }

theorem reverse_any (g n cap B : Nat) (zs : List Int) (w : World) (h : OwnN w B (some ⟨g, 0, none⟩) n cap zs) (hn : n ≤ 1048576) :
    Calls Tryd.prog 54 #[.slice (some ⟨g, 0, none⟩) n cap] w fun e w' => e = .returned (.tuple #[]) ∧ OwnN w' B (some ⟨g, 0, none⟩) n cap zs.reverse ∧ w.grownBy w' (some g) := by
  obtain ⟨g', cap', e, hbg, hgl, hnc, hcm, hl, hH⟩ := Lib.holds_of_ownsRow (enc := Value.int .i64) h (by simp)
  injection e with e1 e2 e3
  injection e1 with e1
  injection e1 with e1
  subst e1; subst e3
  have hc := Any.slices_Reverse_int revLays g 0 cap zs w hH (by omega)
  rw [hl] at hc
  refine hc.mono ?_
  rintro e w' ⟨rfl, q, rfl⟩
  refine ⟨rfl, ?_, grownBy_put w g q _⟩
  have h1 := Lib.ownsRow_putRow (enc := Value.int .i64) (q := q) (k := n) (ys := zs.reverse) h (by rw [List.length_reverse, hl]) (Nat.le_refl _)
  rw [List.take_of_length_le (by rw [List.length_reverse, hl]; exact Nat.le_refl _)] at h1
  exact h1

set_option maxRecDepth 100000 in
set_option maxHeartbeats 1600000 in
theorem room_any (a : Option Addr) (c : Nat) (ss : List Int) (w : World) (ha : Ints w w.heap.size a ss) (hs : numIn ss = true) (k : Int) (hk0 : 0 ≤ k) (hk5 : k ≤ 10) :
    Calls Tryd.prog 55 #[.slice a ss.length c, .int .i64 k] w fun e w' => e = .returned (.int .i64 (roomZ ss k)) ∧ w = w' := by
  obtain ⟨hm5, hsz⟩ := numIn_out hs
  have HRB : Hid (∀ j, 0 ≤ roomZ (ss.take j) k ∧ roomZ (ss.take j) k ≤ 28) := Lib.hid (fun j => room_bd hsz hm5 hk0 j)
  have HSZ := Lib.hid hsz
  have HI := Lib.hid ha
  obtain ⟨m, hm⟩ : ∃ m, m = ss.length := ⟨_, rfl⟩
  have HM := Lib.hid hm
  rw [← hm] at hm5
  rw [← hm]
  clear ha hs hsz hm
  go_enter Tryd.func55, Tryd.ntmps55
  go_wp2
  go_loop [5, 10] (fun r i => ∃ j : Nat, j ≤ m ∧ i = .int .i64 (j : Int) ∧ r = .int .i64 (roomZ (ss.take j) k)) (fun _ i => m - (intOf i).toNat)
  case atStart => exact ⟨0, Nat.zero_le _, rfl, by simp [roomZ]⟩
  case round =>
    obtain ⟨j, hj, rfl, rfl⟩ := hrel
    obtain ⟨hr0, hr25⟩ := HRB.out j
    obtain ⟨r, hr⟩ : ∃ r, r = roomZ (ss.take j) k := ⟨_, rfl⟩
    have HR := Lib.hid hr
    rw [← hr] at hr0 hr25 ⊢
    clear hr
    by_cases hkm : j < m
    · have hks : j < ss.length := by have := HM.out; omega
      have hkm' : (j : Int) < (m : Int) := by omega
      obtain ⟨b1, o1, rfl, hb1, hc1⟩ := HI.out.at_ hks
      have hz5 := HSZ.out ss[j] (List.getElem_mem hks)
      obtain ⟨z, hz⟩ : ∃ z, z = ss[j]?.getD 0 := ⟨_, rfl⟩
      have hz0 : 0 ≤ z := by rw [hz]; simp [hks]; exact hz5.1
      have hz6 : z ≤ 5 := by rw [hz]; simp [hks]; exact hz5.2
      rw [← hz] at hc1
      have HRS : Hid (roomZ (ss.take (j + 1)) k = r + min k z) := Lib.hid (by rw [room_succ _ _ _ hks, ← HR.out, ← hz])
      clear hz hz5
      by_cases hmin : k ≤ z
      · have HMI : Hid (min k z = k) := Lib.hid (by omega)
        go_wp2
        go_round
        case rel => exact ⟨j + 1, by omega, by go_num, by rw [HRS.out, HMI.out]⟩
        case measure => simp [intOf]; omega
      · have HMI : Hid (min k z = z) := Lib.hid (by omega)
        have hmin' : z < k := by omega
        go_wp2
        go_round
        case rel => exact ⟨j + 1, by omega, by go_num, by rw [HRS.out, HMI.out]⟩
        case measure => simp [intOf]; omega
    · obtain rfl : j = m := by omega
      have HRA : Hid (r = roomZ ss k) := Lib.hid (by have := HR.out; rw [HM.out, List.take_length] at this; exact this)
      go_wp2
      go_ret
      exact ⟨by rw [← HRA.out]; rfl, rfl⟩

theorem room_all : ∀ ss : List Int, (∀ z ∈ ss, 0 ≤ z ∧ z ≤ 5) → roomZ ss 5 = ss.sum
  | [], _ => by simp [roomZ]
  | z :: ss, h => by
    have h1 := h z (by simp)
    have h2 := room_all ss (fun y hy => h y (by simp [hy]))
    simp only [roomZ, List.map_cons, List.sum_cons] at h2 ⊢
    omega

theorem room_zero : ∀ ss : List Int, (∀ z ∈ ss, 0 ≤ z ∧ z ≤ 5) → roomZ ss 0 = 0
  | [], _ => by simp [roomZ]
  | z :: ss, h => by
    have h1 := h z (by simp)
    have h2 := room_zero ss (fun y hy => h y (by simp [hy]))
    simp only [roomZ, List.map_cons, List.sum_cons] at h2 ⊢
    omega

theorem fit_zero (ss D : List Int) (h : ∀ z ∈ ss, 0 ≤ z ∧ z ≤ 5) : fitZ ss D 0 = true := by
  rw [fitZ, decide_eq_true_iff, preZ]
  have := room_zero ss h
  simp [this]

end Go.Proofs.YtbiggilheicfjaaDoor
