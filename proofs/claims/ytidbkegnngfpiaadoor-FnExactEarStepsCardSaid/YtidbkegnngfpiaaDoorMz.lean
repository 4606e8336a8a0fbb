/- It is proved that FamilyAll of the program returns what the reference model's returns; conditions: those of each statement. -/
import Derived.RowKit
import Derived.Laws.CopyRow
import Derived.Lib.SlBuf
import Derived.Deep.QuietTactic
import Derived.RangeFuncNested
import Derived.RangeFuncBound
import Derived.RangeFuncCalls
import Derived.RangeFuncLeaves
import Derived.RangeFuncBox
import Derived.RangeFuncWrites
import Derived.StillTailTactics
import Derived.Maps.OwnIn
import Derived.Maps.Ext
import Derived.DeepKeys4
import Derived.MapKept
import Derived.Test.YtidbkegnngfpiaaDoorRows
import Derived.WalkKit
import Derived.WalkSpells
import Derived.ProofKit
import Derived.OpenShut
import Derived.ShutString
import Derived.ChangeOld
import Derived.Below
import Derived.Deep.RegionHeld3
import Derived.BigQuiet
import Derived.Lib.Hide
import Derived.Lib.SmallJoins
import Derived.Outline
import Derived.Laws.MakeOwn
import Derived.Laws.OwnMore
import Derived.IntWalk
import Derived.Maps.AppendAt
import Derived.Deep.RegionLaw
import Derived.Deep.AppendLies
import Derived.Lib.AppendZeros
import Derived.OwnWalk
import Derived.Lib.SlicesCompact
import Derived.Lib.OwnBridge
import Derived.OrdersIn
import Derived.TacticsIn
import Derived.Shelf.Sort.Plain
import Derived.Shelf.Slices.In.SortNone
import Derived.Shelf.Slices.CompactI
import Derived.Ground.Names2Prog
import Derived.Lib.SliceRun
import Derived.Shelf.RegionOpen
import Derived.Shelf.Abstract
import Derived.OwnWalkIn
import Derived.TacticsInMore
import Derived.LoopNIn
import Derived.LoopIn
import Derived.StillTail
import Derived.StillTactics
import Derived.Shelf.Spec.TrailingZeros
import Derived.Test.YtidbkegnngfpiaaDoorRaab
import Derived.Test.YtidbkegnngfpiaaDoorKb
import Derived.Test.YtidbkegnngfpiaaDoorRaap
import Derived.Test.YtidbkegnngfpiaaDoorRaar
import Derived.Test.YtidbkegnngfpiaaDoorKr
import Derived.Test.YtidbkegnngfpiaaDoorMa
import Derived.Test.YtidbkegnngfpiaaDoorMv
import Derived.Test.YtidbkegnngfpiaaDoorPb
import Derived.Test.YtidbkegnngfpiaaDoorTO
namespace Go.Proofs.YtidbkegnngfpiaaDoor
open Go.RowKit

theorem memK_full (n : Nat) : memK n (2 ^ n - 1) = List.range n := by
  unfold memK
  rw [List.filter_eq_self.2]
  intro i hi
  rw [Nat.testBit_two_pow_sub_one, decide_eq_true_eq]
  exact List.mem_range.1 hi

theorem or_met {zs : List Int} (h6 : ∀ z ∈ zs, 0 ≤ z ∧ z.toNat < 64) : ∀ n, n ≤ zs.length → orAll (zs.take n) = ((metU zs 0 (List.range n) : Nat) : Int)
  | 0, _ => rfl
  | n + 1, h => by
      rw [orAll_take zs n (by omega), or_met h6 n (by omega), List.range_succ, metU_snoc]
      obtain ⟨z0, z1⟩ := h6 _ (at_in (k := n) (by omega))
      obtain ⟨z, hzz⟩ : ∃ z : Nat, zs[n]?.getD 0 = (z : Int) := ⟨(zs[n]?.getD 0).toNat, by omega⟩
      rw [hzz, Int.toNat_natCast] at z1
      rw [hzz, Int.toNat_natCast]
      exact or6_at _ z (metU_lt (fun z h => (h6 z h).2) _ 0 (by decide)) z1

theorem allZ_famAll (m : Int) (zs : List Int) : allZ m zs = famAll m zs := by
  unfold allZ famAll
  cases hf : famIn m zs
  · rfl
  · obtain ⟨k, rfl, hk1, hk6, hset, hl8⟩ := fam_nat2 hf
    have hp6 : 2 ^ k ≤ 64 := Nat.pow_le_pow_right (n := 2) (by decide) hk6
    have hz6 : ∀ z ∈ zs, 0 ≤ z ∧ z.toNat < 64 := fun z hm => ⟨(hset z hm).1, Nat.lt_of_lt_of_le (hset z hm).2 hp6⟩
    rw [if_pos rfl, if_pos rfl]
    have := or_met hz6 zs.length (Nat.le_refl _)
    rw [List.take_length] at this
    rw [this]
    unfold togK
    rw [memK_full]

end Go.Proofs.YtidbkegnngfpiaaDoor
