/- It is proved what the reference model's l4In and l4Sets return; conditions: those of each statement. -/
import Derived.RowKit
import Derived.Laws.CopyRow
import Derived.Lib.SlBuf
import Derived.Deep.QuietTactic
import Derived.RangeFuncNested
import Derived.RangeFuncBound
import Derived.RangeFuncCalls
import Derived.RangeFuncLeaves
import Derived.RangeFuncBox
import Derived.RangeFuncWrites
import Derived.StillTailTactics
import Derived.Maps.OwnIn
import Derived.Maps.Ext
import Derived.DeepKeys4
import Derived.MapKept
import Derived.Test.YtnpfdgbbcapnkaaDoorRows
import Derived.WalkKit
import Derived.WalkSpells
import Derived.ProofKit
import Derived.OpenShut
import Derived.ShutString
import Derived.ChangeOld
import Derived.Below
import Derived.Deep.RegionHeld3
import Derived.BigQuiet
import Derived.Lib.Hide
import Derived.Lib.SmallJoins
import Derived.Outline
import Derived.Laws.MakeOwn
import Derived.Laws.OwnMore
import Derived.IntWalk
import Derived.Lib.AppendZeros
import Derived.Maps.AppendAt
import Derived.Deep.AppendLies
import Derived.OwnWalk
import Derived.Lib.SlicesCompact
import Derived.Lib.OwnBridge
import Derived.OrdersIn
import Derived.TacticsIn
import Derived.Shelf.Sort.Plain
import Derived.Shelf.Slices.In.SortNone
import Derived.Shelf.Slices.CompactI
import Derived.Ground.Names2Prog
import Derived.Lib.SliceRun
import Derived.Shelf.Abstract
import Derived.Shelf.RegionOpen
import Derived.OwnWalkIn
import Derived.TacticsInMore
import Derived.LoopNIn
import Derived.LoopIn
import Derived.StillTail
import Derived.StillTactics
import Derived.Shelf.Spec.TrailingZeros
import Derived.Test.YtnpfdgbbcapnkaaDoorRbaa
import Derived.Test.YtnpfdgbbcapnkaaDoorRbab
import Derived.Test.YtnpfdgbbcapnkaaDoorRbaf
import Derived.Test.YtnpfdgbbcapnkaaDoorRbag
namespace Go.Proofs.YtnpfdgbbcapnkaaDoor
open Go.RowKit

theorem covTo {zs : List Int} {s k : Nat} (hk : k < zs.length) (h : (zs[k]?.getD 0).toNat &&& s = 0) : covB zs s = false := by
  rw [Bool.eq_false_iff]
  intro hc
  refine covB_iff.1 hc _ (List.getElem_mem hk) ?_
  rwa [List.getElem?_eq_getElem hk] at h

theorem cov_all {zs : List Int} {s : Nat} (h : ∀ j, j < zs.length → (zs[j]?.getD 0).toNat &&& s ≠ 0) : covB zs s = true := by
  rw [covB_iff]
  intro z hz
  obtain ⟨j, hj, rfl⟩ := List.getElem_of_mem hz
  have := h j hj
  rwa [List.getElem?_eq_getElem hj] at this

set_option maxRecDepth 100000 in
set_option maxHeartbeats 1600000 in
theorem l4In_any (a : Option Addr) (c : Nat) (zs : List Int) (s : Nat) (w : World) (ha : Ints w w.heap.size a zs) (hx : zs.length ≤ 1048576) (hz : ∀ z ∈ zs, 0 ≤ z ∧ z.toNat < 64) (hs : s < 64) :
    Calls Tryd.prog 83 #[.slice a zs.length c, .int .i64 (s : Int)] w fun e w' => e = .returned (.bool (covB zs s)) ∧ w = w' := by
  obtain ⟨n, hn⟩ : ∃ n, n = zs.length := ⟨_, rfl⟩
  have HN := Lib.hid hn
  have HA := Lib.hid ha
  have HZ := Lib.hid hz
  rw [← hn] at hx ⊢
  clear ha hz hn
  go_enter Tryd.func83, Tryd.ntmps83
  go_wp2
  go_loop [5] (fun i => ∃ k : Nat, k ≤ n ∧ i = .int .i64 k ∧ ∀ j, j < k → (zs[j]?.getD 0).toNat &&& s ≠ 0) (fun i => n - (intOf i).toNat)
  case atStart => exact ⟨0, Nat.zero_le _, rfl, fun j hj => by omega⟩
  case round =>
    obtain ⟨k, hk, rfl, he⟩ := hrel
    by_cases hlt : k < n
    · obtain ⟨b1, o1, rfl, hb1, hc1⟩ := HA.out.at_ (k := k) (by rw [← HN.out]; exact hlt)
      have hm : zs[k]?.getD 0 ∈ zs := by
        rw [List.getElem?_eq_getElem (by rw [← HN.out]; exact hlt)]; exact List.getElem_mem _
      obtain ⟨z0, z1⟩ := HZ.out _ hm
      obtain ⟨z, hzz⟩ : ∃ z : Nat, zs[k]?.getD 0 = (z : Int) := ⟨(zs[k]?.getD 0).toNat, by omega⟩
      rw [hzz, Int.toNat_natCast] at z1
      rw [hzz] at hc1
      have HA6 := and6_at z s z1 hs
      have hk1 : (k : Int) < (n : Int) := by omega
      have HE := Lib.hid he
      have HZZ := Lib.hid hzz
      clear he hm z0 hzz
      by_cases h0 : z &&& s = 0
      · have HC : Hid (covB zs s = false) := Lib.hid (covTo (by rw [← HN.out]; exact hlt) (by rw [HZZ.out, Int.toNat_natCast]; exact h0))
        rw [h0] at HA6
        clear h0
        go_wp2
        go_ret
        exact ⟨by rw [HC.out]; rfl, rfl⟩
      · have HP : Hid (∀ j, j < k + 1 → (zs[j]?.getD 0).toNat &&& s ≠ 0) := Lib.hid (fun j hj => by
          by_cases e : j = k
          · subst e; rw [HZZ.out, Int.toNat_natCast]; exact h0
          · exact HE.out j (by omega))
        obtain ⟨u, hu⟩ : ∃ u : Nat, u = z &&& s := ⟨_, rfl⟩
        rw [← hu] at HA6 h0
        have hu0 : ((u : Int) == 0) = false := by rw [beq_eq_false_iff_ne]; omega
        clear h0 hu
        go_wp2
        go_round
        case rel => exact ⟨k + 1, by omega, by go_num, HP.out⟩
        case measure => simp [intOf]; omega
    · obtain rfl : k = n := by omega
      have HC : Hid (covB zs s = true) := Lib.hid (cov_all (by rw [← HN.out]; exact he))
      clear he
      go_wp2
      go_ret
      exact ⟨by rw [HC.out]; rfl, rfl⟩

end Go.Proofs.YtnpfdgbbcapnkaaDoor
