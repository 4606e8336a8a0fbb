/- It is proved that the least number of lines is the number of pairs, and that the greatest lack of the sets of clubs tells both; conditions: those of each statement. -/
import Derived.RowKit
import Derived.Laws.CopyRow
import Derived.Lib.SlBuf
import Derived.Deep.QuietTactic
import Derived.RangeFuncNested
import Derived.RangeFuncBound
import Derived.RangeFuncCalls
import Derived.RangeFuncLeaves
import Derived.RangeFuncBox
import Derived.RangeFuncWrites
import Derived.StillTailTactics
import Derived.Maps.OwnIn
import Derived.Maps.Ext
import Derived.DeepKeys4
import Derived.MapKept
import Derived.Test.YtgaappbcekllhaaDoorRows
import Derived.WalkKit
import Derived.WalkSpells
import Derived.ProofKit
import Derived.OpenShut
import Derived.ShutString
import Derived.ChangeOld
import Derived.Below
import Derived.Deep.RegionHeld3
import Derived.BigQuiet
import Derived.Lib.Hide
import Derived.Lib.SmallJoins
import Derived.Outline
import Derived.Laws.MakeOwn
import Derived.Laws.OwnMore
import Derived.IntWalk
import Derived.Maps.AppendAt
import Derived.Lib.AppendZeros
import Derived.Deep.AppendLies
import Derived.OwnWalk
import Derived.Lib.SlicesCompact
import Derived.Lib.OwnBridge
import Derived.OrdersIn
import Derived.TacticsIn
import Derived.Shelf.Sort.Plain
import Derived.Shelf.Slices.In.SortNone
import Derived.Shelf.Slices.CompactI
import Derived.Ground.Names2Prog
import Derived.Lib.SliceRun
import Derived.Shelf.RegionOpen
import Derived.Shelf.Abstract
import Derived.OwnWalkIn
import Derived.TacticsInMore
import Derived.LoopNIn
import Derived.LoopIn
import Derived.StillTail
import Derived.StillTactics
import Derived.Shelf.Spec.TrailingZeros
import Derived.Test.YtgaappbcekllhaaDoorHu
namespace Go.Proofs.YtgaappbcekllhaaDoor
open Go.RowKit Go.Shelf

theorem leG_and_fin : ∀ o : Fin 64, ∀ z : Fin 64, leG (o.val : Int) (z.val : Int) = decide (o.val &&& z.val = o.val) := by decide +kernel
theorem leG_bits64 {z : Int} {t : Nat} (hz : 0 ≤ z) (hz6 : z.toNat < 64) (ht : t < 64) : leG z (t : Int) = true ↔ ∀ v, z.toNat.testBit v = true → t.testBit v = true := by
  obtain ⟨o, rfl⟩ : ∃ o : Nat, z = (o : Int) := ⟨z.toNat, by omega⟩
  rw [leG_and_fin ⟨o, by simpa using hz6⟩ ⟨t, ht⟩]
  simp only [decide_eq_true_eq, Int.toNat_natCast]
  constructor
  · intro h v hv
    have h2 := congrArg (·.testBit v) h
    simp only [Nat.testBit_and, hv, Bool.true_and] at h2
    exact h2
  · intro h
    apply Nat.eq_of_testBit_eq
    intro v
    rw [Nat.testBit_and]
    cases hv : o.testBit v
    · rfl
    · rw [h v hv]; rfl

end Go.Proofs.YtgaappbcekllhaaDoor
