/- It is proved what slices.Index, slices.Contains and slices.Max of ints return; conditions: those of each statement. -/
import Derived.RowKit
import Derived.Laws.CopyRow
import Derived.Lib.SlBuf
import Derived.Deep.QuietTactic
import Derived.RangeFuncNested
import Derived.RangeFuncBound
import Derived.RangeFuncCalls
import Derived.RangeFuncLeaves
import Derived.RangeFuncBox
import Derived.RangeFuncWrites
import Derived.StillTailTactics
import Derived.Maps.OwnIn
import Derived.Maps.Ext
import Derived.DeepKeys4
import Derived.MapKept
import Derived.Test.YtgjcjllhkkkioaaDoorRows
import Derived.WalkKit
import Derived.WalkSpells
import Derived.ProofKit
import Derived.OpenShut
import Derived.ShutString
import Derived.ChangeOld
import Derived.Below
import Derived.Deep.RegionHeld3
import Derived.BigQuiet
import Derived.Lib.Hide
import Derived.Lib.SmallJoins
import Derived.Outline
import Derived.Laws.MakeOwn
import Derived.Laws.OwnMore
import Derived.IntWalk
import Derived.Lib.AppendZeros
import Derived.Maps.AppendAt
import Derived.Deep.AppendLies
import Derived.OwnWalk
import Derived.Lib.SlicesCompact
import Derived.Lib.OwnBridge
import Derived.OrdersIn
import Derived.TacticsIn
import Derived.Shelf.Sort.Plain
import Derived.Shelf.Slices.In.SortNone
import Derived.Shelf.Slices.CompactI
import Derived.Ground.Names2Prog
import Derived.Lib.SliceRun
import Derived.Shelf.Abstract
import Derived.Shelf.RegionOpen
import Derived.OwnWalkIn
import Derived.TacticsInMore
import Derived.LoopNIn
import Derived.LoopIn
import Derived.StillTail
import Derived.StillTactics
import Derived.Shelf.Spec.TrailingZeros
import Derived.Test.YtgjcjllhkkkioaaDoorRaaa
import Derived.Test.YtgjcjllhkkkioaaDoorRaac
namespace Go.Proofs.YtgjcjllhkkkioaaDoor
open Go.RowKit

/-- Where a number first stands in a list, or -1. -/
def IdxR (x : Int) (zs : List Int) (r : Int) : Prop := (r = -1 ∧ ∀ j, j < zs.length → zs[j]?.getD 0 ≠ x) ∨ ∃ k : Nat, r = (k : Int) ∧ k < zs.length ∧ zs[k]?.getD 0 = x ∧ ∀ j, j < k → zs[j]?.getD 0 ≠ x

theorem idx_any {zs : List Int} {r : Int} (h : IdxR 0 zs r) : decide (0 ≤ r) = zs.any fun z => z == 0 := by
  rcases h with ⟨rfl, h⟩ | ⟨k, rfl, hk, hz, -⟩
  · have : (zs.any fun z => z == 0) = false := List.any_eq_false.2 fun z hz => by
      obtain ⟨j, hj, rfl⟩ := List.getElem_of_mem hz
      have := h j hj
      rw [List.getElem?_eq_getElem hj] at this
      simpa using this
    rw [this]; rfl
  · have : (zs.any fun z => z == 0) = true := List.any_eq_true.2 ⟨zs[k], List.getElem_mem _, by
      rw [List.getElem?_eq_getElem hk] at hz
      simpa using hz⟩
    rw [this, decide_eq_true (by omega)]

/-- The greatest number of a list. -/
def MaxR (zs : List Int) (n : Nat) (M : Int) : Prop := (∀ j, j < n → zs[j]?.getD 0 ≤ M) ∧ ∃ j, j < n ∧ zs[j]?.getD 0 = M

set_option maxRecDepth 100000 in
set_option maxHeartbeats 1600000 in
theorem maxI_any (a : Option Addr) (c : Nat) (zs : List Int) (w : World) (ha : Ints w w.heap.size a zs) (h1 : 1 ≤ zs.length) (hx : zs.length ≤ 1048576) :
    Calls Tryd.prog 60 #[.slice a zs.length c] w fun e w' => (∃ M, e = .returned (.int .i64 M) ∧ MaxR zs zs.length M) ∧ w = w' := by
  obtain ⟨n, hn⟩ : ∃ n, n = zs.length := ⟨_, rfl⟩
  have HN := Lib.hid hn
  have HA := Lib.hid ha
  rw [← hn] at hx h1 ⊢
  obtain ⟨b0, o0, rfl, hb0, hc0⟩ := ha.at_ (k := 0) (by rw [← hn]; omega)
  obtain ⟨z0, hz0⟩ : ∃ z, z = zs[0]?.getD 0 := ⟨_, rfl⟩
  rw [← hz0] at hc0
  have HZ0 := Lib.hid hz0
  have hn1 : (1 : Int) ≤ (n : Int) := by omega
  rw [Nat.add_zero] at hc0
  clear ha hn hz0
  go_enter Tryd.func60, Tryd.ntmps60
  go_wp2
  go_loop [3, 4] (fun m i => ∃ (k : Nat) (M : Int), 1 ≤ k ∧ k ≤ n ∧ i = .int .i64 k ∧ m = .int .i64 M ∧ MaxR zs k M) (fun _ i => n - (intOf i).toNat)
  case atStart => exact ⟨1, z0, Nat.le_refl _, h1, rfl, rfl, fun j hj => by rw [show j = 0 by omega, ← HZ0.out]; exact Int.le_refl _, 0, by omega, HZ0.out.symm⟩
  case round =>
    obtain ⟨k, M, hk1, hk, rfl, rfl, he⟩ := hrel
    have HE := Lib.hid he
    clear he
    by_cases hlt : k < n
    · obtain ⟨b1, o1, e1, hb1, hc1⟩ := HA.out.at_ (k := k) (by rw [← HN.out]; exact hlt)
      obtain ⟨rfl, rfl⟩ : b1 = b0 ∧ o1 = o0 := by simpa using e1.symm
      obtain ⟨z, hz⟩ : ∃ z, z = zs[k]?.getD 0 := ⟨_, rfl⟩
      rw [← hz] at hc1
      have HZ := Lib.hid hz
      have hki : (k : Int) < (n : Int) := by omega
      have HP : Hid (MaxR zs (k + 1) (max M z)) := Lib.hid (by
        obtain ⟨g1, j, g2, g3⟩ := HE.out
        refine ⟨fun i hi => ?_, ?_⟩
        · by_cases e : i = k
          · subst e; rw [← HZ.out]; omega
          · have := g1 i (by omega); omega
        · by_cases e : M ≤ z
          · exact ⟨k, by omega, by rw [← HZ.out]; omega⟩
          · exact ⟨j, by omega, by omega⟩)
      clear hz e1
      go_wp2
      go_round
      case rel => exact ⟨k + 1, max M z, by omega, by omega, by go_num, rfl, HP.out⟩
      case measure => simp [intOf]; omega
    · obtain rfl : k = n := by omega
      go_wp2
      go_ret
      exact ⟨⟨_, rfl, HE.out⟩, rfl⟩

end Go.Proofs.YtgjcjllhkkkioaaDoor
