/- It is proved what the reference model's l1Size tells of sets of eight, and l5Together; conditions: those of each statement. -/
import Derived.RowKit
import Derived.Laws.CopyRow
import Derived.Lib.SlBuf
import Derived.Deep.QuietTactic
import Derived.RangeFuncNested
import Derived.RangeFuncBound
import Derived.RangeFuncCalls
import Derived.RangeFuncLeaves
import Derived.RangeFuncBox
import Derived.RangeFuncWrites
import Derived.StillTailTactics
import Derived.Maps.OwnIn
import Derived.Maps.Ext
import Derived.DeepKeys4
import Derived.MapKept
import Derived.Test.YtgpgocijacgkhaaDoorRows
import Derived.WalkKit
import Derived.WalkSpells
import Derived.ProofKit
import Derived.OpenShut
import Derived.ShutString
import Derived.ChangeOld
import Derived.Below
import Derived.Deep.RegionHeld3
import Derived.BigQuiet
import Derived.Lib.Hide
import Derived.Lib.SmallJoins
import Derived.Outline
import Derived.Laws.MakeOwn
import Derived.Laws.OwnMore
import Derived.IntWalk
import Derived.Maps.AppendAt
import Derived.Deep.RegionLaw
import Derived.Deep.AppendLies
import Derived.Lib.AppendZeros
import Derived.OwnWalk
import Derived.Lib.SlicesCompact
import Derived.Lib.OwnBridge
import Derived.OrdersIn
import Derived.TacticsIn
import Derived.Shelf.Sort.Plain
import Derived.Shelf.Slices.In.SortNone
import Derived.Shelf.Slices.CompactI
import Derived.Ground.Names2Prog
import Derived.Lib.SliceRun
import Derived.Shelf.RegionOpen
import Derived.Shelf.Abstract
import Derived.OwnWalkIn
import Derived.TacticsInMore
import Derived.LoopNIn
import Derived.LoopIn
import Derived.StillTail
import Derived.StillTactics
import Derived.Shelf.Spec.TrailingZeros
import Derived.Test.YtgpgocijacgkhaaDoorRaax
import Derived.Test.YtgpgocijacgkhaaDoorMb
import Derived.Test.YtgpgocijacgkhaaDoorMc
namespace Go.Proofs.YtgpgocijacgkhaaDoor
open Go.RowKit

set_option maxRecDepth 100000 in
theorem cnt8_half : ∀ t : Fin 256, cntK 8 t.val = t.val % 2 + cntK 8 (t.val / 2) := by decide +kernel

set_option maxRecDepth 100000 in
theorem low8_fin : ∀ t : Fin 256, bits .and .i64 (t.val : Int) 1 = ((t.val % 2 : Nat) : Int) := by decide +kernel

set_option maxRecDepth 100000 in
theorem l1SizeW_any (z : Nat) (w : World) (h : z < 256) : Calls Tryd.prog 74 #[.int .i64 (z : Int)] w fun e w' => e = .returned (.int .i64 ((cntK 8 z : Nat) : Int)) ∧ w = w' := by
  go_enter Tryd.func74, Tryd.ntmps74
  go_wp2
  go_loop [0, 3] (fun s n => ∃ t k : Nat, t < 256 ∧ k + cntK 8 t = cntK 8 z ∧ s = .int .i64 (t : Int) ∧ n = .int .i64 (k : Int)) (fun s _ => (intOf s).toNat)
  case atStart => exact ⟨z, 0, h, by omega, rfl, rfl⟩
  case round =>
    obtain ⟨t, k, ht, hk, rfl, rfl⟩ := hrel
    have hz8 := cntK_bound 8 z
    have hk8 : k ≤ 8 := by omega
    have hlow := low8_fin ⟨t, ht⟩
    have hhf := cnt8_half ⟨t, ht⟩
    simp only at hlow hhf
    have HK := Lib.hid hk
    have HH := Lib.hid hhf
    have hm2 : t % 2 < 2 := Nat.mod_lt _ (by decide)
    obtain ⟨r, hr⟩ : ∃ r, r = t % 2 := ⟨_, rfl⟩
    rw [← hr] at hlow hm2
    have HR := Lib.hid hr
    have htI : (t : Int) ≤ 255 := by omega
    have hkI : (k : Int) ≤ 8 := by omega
    have hrI : (r : Int) ≤ 1 := by omega
    clear hk hhf hr
    by_cases h0 : 0 < t
    · have h0I : (0 : Int) < (t : Int) := by omega
      go_wp2
      go_round
      case rel => exact ⟨t / 2, k + r, by omega, by have := HK.out; have := HH.out; have := HR.out; omega, by go_num, by go_num⟩
      case measure => simp [intOf]; omega
    · have ht0 : t = 0 := by omega
      have e0 : cntK 8 t = 0 := by rw [ht0]; unfold cntK; rw [memK_zero]; rfl
      have HE : Hid (cntK 8 z = k) := Lib.hid (by have := HK.out; omega)
      have h0I : ¬ ((0 : Int) < (t : Int)) := by omega
      clear ht0 e0
      go_wp2
      go_ret
      exact ⟨by rw [HE.out]; rfl, rfl⟩

end Go.Proofs.YtgpgocijacgkhaaDoor
