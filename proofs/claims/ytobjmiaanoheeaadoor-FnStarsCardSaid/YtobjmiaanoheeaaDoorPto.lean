/- It is proved what the laws' total returns, and what is drawn for FamilyIn; conditions: those of each statement. -/
import Derived.Test.YtobjmiaanoheeaaDoorRows
import Derived.WalkKit
import Derived.WalkSpells
import Derived.ProofKit
import Derived.OpenShut
import Derived.ShutString
import Derived.ChangeOld
import Derived.Below
import Derived.Deep.RegionHeld3
import Derived.Deep.QuietTactic
import Derived.BigQuiet
import Derived.Lib.Hide
import Derived.Lib.SmallJoins
import Derived.Outline
import Derived.Laws.MakeOwn
import Derived.Laws.OwnMore
import Derived.IntWalk
import Derived.Deep.RegionLaw
import Derived.Deep.AppendLies
import Derived.Deep.RegionWith
import Derived.RangeFuncNested
import Derived.RangeFuncBound
import Derived.RangeFuncCalls
import Derived.RangeFuncLeaves
import Derived.RangeFuncBox
import Derived.Shelf.Abstract
import Derived.Shelf.RegionOpen
import Derived.OwnWalkIn
import Derived.TacticsInMore
import Derived.LoopNIn
import Derived.LoopIn
import Derived.Maps.AppendAt
import Derived.OwnWalk
import Derived.Shelf.Spec.TrailingZeros
import Derived.Test.YtobjmiaanoheeaaDoorRaaa
import Derived.Test.YtobjmiaanoheeaaDoorRaab
import Derived.Test.YtobjmiaanoheeaaDoorRaam
import Derived.Test.YtobjmiaanoheeaaDoorRaao
namespace Go.Proofs.YtobjmiaanoheeaaDoor
open Go.RowKit

set_option maxRecDepth 100000 in
set_option maxHeartbeats 400000 in
theorem total_any (a : Option Addr) (c : Nat) (zs : List Int) (w : World) (ha : Ints w w.heap.size a zs) (hx : zs.length ≤ 1000) (hz : ∀ z ∈ zs, 0 ≤ z ∧ z ≤ 1000) :
    Calls Tryd.prog 42 #[.slice a zs.length c] w fun e w' => e = .returned (.int .i64 zs.sum) ∧ Below w.heap.size w w' := by
  obtain ⟨n, hn⟩ : ∃ n, n = zs.length := ⟨_, rfl⟩
  have HN := Lib.hid hn
  rw [← hn] at hx ⊢
  have HZ := Lib.hid hz
  clear hn hz
  go_enter Tryd.func42, Tryd.ntmps42
  go_wp2
  go_loop [3, 4] (fun s i => ∃ (k : Nat) (t : Int), k ≤ n ∧ i = .int .i64 (k : Int) ∧ s = .int .i64 t ∧ t = (zs.take k).sum ∧ 0 ≤ t ∧ t ≤ 1000 * (k : Int)) (fun _ i => n - (intOf i).toNat)
  case atStart => exact ⟨0, 0, Nat.zero_le _, rfl, rfl, by simp, by omega, by omega⟩
  case round =>
    obtain ⟨k, t, hk, rfl, rfl, ht, h0, h1⟩ := hrel
    have HT := Lib.hid ht
    clear ht
    by_cases hlt : k < n
    · obtain ⟨b, off, rfl, hb, hc⟩ := ha.at_ (k := k) (by rw [← HN.out]; exact hlt)
      have hkz : k < zs.length := by rw [← HN.out]; exact hlt
      have hzz := HZ.out zs[k] (List.getElem_mem hkz)
      obtain ⟨z, hz⟩ : ∃ z, z = zs[k]?.getD 0 := ⟨_, rfl⟩
      have ez : zs[k] = z := by rw [hz]; simp [hkz]
      rw [← hz] at hc
      rw [ez] at hzz
      obtain ⟨z0, z1⟩ := hzz
      have HS : Hid ((zs.take (k + 1)).sum = t + z) := Lib.hid (by rw [List.take_succ_eq_append_getElem hkz, List.sum_append, ← HT.out, ez]; simp)
      clear hz ez
      go_wp2
      go_round
      case rel => exact ⟨k + 1, t + z, by omega, by go_num, rfl, HS.out.symm, by omega, by omega⟩
      case measure => simp [intOf]; omega
    · have HS : Hid (t = zs.sum) := Lib.hid (by rw [HT.out, List.take_of_length_le (by have := HN.out; omega)])
      go_wp2
      go_ret
      exact ⟨ret_int HS.out, Below.refl _ _⟩

/-- A family of the call's own, ten clubs at most. -/
def DrawnTen (w : World) (e : Ending) (W : World) : Prop :=
  ∃ (m : Int) (a : Option Addr) (zs : List Int) (c : Nat), e = .returned (.agg #[.int .i64 m, .slice a zs.length c]) ∧ zs.length ≤ 10 ∧ OwnI W w.heap.size (.slice a zs.length c) zs ∧ Below w.heap.size w W

end Go.Proofs.YtobjmiaanoheeaaDoor
