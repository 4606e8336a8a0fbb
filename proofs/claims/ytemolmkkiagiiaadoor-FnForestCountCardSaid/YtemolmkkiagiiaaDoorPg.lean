/- It is proved what FamilyParts of the model and of the program return for all families; conditions: those of each statement. -/
import Derived.Test.YtemolmkkiagiiaaDoorRows
import Derived.WalkKit
import Derived.WalkSpells
import Derived.ProofKit
import Derived.OpenShut
import Derived.ShutString
import Derived.ChangeOld
import Derived.Below
import Derived.Deep.RegionHeld3
import Derived.Deep.QuietTactic
import Derived.BigQuiet
import Derived.Lib.Hide
import Derived.Lib.SmallJoins
import Derived.Outline
import Derived.Laws.MakeOwn
import Derived.Laws.OwnMore
import Derived.IntWalk
import Derived.RangeFuncNested
import Derived.RangeFuncBound
import Derived.RangeFuncCalls
import Derived.RangeFuncLeaves
import Derived.RangeFuncBox
import Derived.Shelf.Abstract
import Derived.Shelf.RegionOpen
import Derived.OwnWalkIn
import Derived.TacticsInMore
import Derived.LoopNIn
import Derived.LoopIn
import Derived.Maps.AppendAt
import Derived.Deep.AppendLies
import Derived.OwnWalk
import Derived.StillTail
import Derived.StillTactics
import Derived.OrdersIn
import Derived.TacticsIn
import Derived.Shelf.Spec.TrailingZeros
import Derived.StillTailTactics
import Derived.Test.YtemolmkkiagiiaaDoorPaaa
import Derived.Test.YtemolmkkiagiiaaDoorPaac
import Derived.Test.YtemolmkkiagiiaaDoorPaav
import Derived.Test.YtemolmkkiagiiaaDoorPa
import Derived.Test.YtemolmkkiagiiaaDoorPaat
import Derived.Test.YtemolmkkiagiiaaDoorPc
import Derived.Test.YtemolmkkiagiiaaDoorPd
import Derived.Test.YtemolmkkiagiiaaDoorPe
import Derived.Test.YtemolmkkiagiiaaDoorPaae
import Derived.Test.YtemolmkkiagiiaaDoorPaad
namespace Go.Proofs.YtemolmkkiagiiaaDoor
open Go.RowKit

theorem first_cond (m : Nat) (ks : List Nat) (v : Nat) (hv : v < 6) (h : partP m ks v < 64) : (bits BinOp.and IntKind.i64 ((partP m ks v : Nat) : Int) (IntKind.i64.wrap (IntKind.i64.wrap ((2 : Int) ^ v) - 1)) == 0) = firstP m ks v := by
  obtain ⟨h1q, h2q⟩ := p2_small v (by omega)
  have h1 : (1 : Nat) ≤ 2 ^ v := Nat.one_le_two_pow
  have h2 : 2 ^ v ≤ 2 ^ 6 := Nat.pow_le_pow_right (by decide) (by omega)
  have h3 : (2 : Int) ^ v - 1 = ((2 ^ v - 1 : Nat) : Int) := by
    have : (2 : Int) ^ v = ((2 ^ v : Nat) : Int) := by simp
    omega
  have h4 : IntKind.i64.wrap (IntKind.i64.wrap ((2 : Int) ^ v) - 1) = (2 : Int) ^ v - 1 := by
    have h5 : IntKind.i64.wrap ((2 : Int) ^ v) = (2 : Int) ^ v := by rw [IntKind.wrap_i64]; omega
    rw [h5, IntKind.wrap_i64]; omega
  rw [h4, h3, and6_at _ _ h (by omega)]
  unfold firstP
  by_cases h0 : partP m ks v &&& (2 ^ v - 1) = 0
  · rw [h0]; rfl
  · rw [decide_eq_false h0]
    exact beq_eq_false_iff_ne.2 (by omega)

theorem implParts_any (m : Int) (a : Option Addr) (c : Nat) (zs : List Int) (w : World) (ha : Ints w w.heap.size a zs) (hT : Tab w) (hx : zs.length ≤ 1048576) :
    Calls Tryd.prog 31 #[.agg #[.int .i64 m, .slice a zs.length c]] w (RetIB w (partsZ m zs) (famIn m zs)) := by
  cases hf : famIn m zs
  · rw [show partsZ m zs = 0 from by simp [partsZ, hf]]
    exact implParts_no m a c zs w ha hx hf
  · obtain ⟨hm1, hm6, -, -⟩ := famIn_out hf
    obtain ⟨k, rfl⟩ : ∃ k : Nat, m = (k : Int) := ⟨m.toNat, by omega⟩
    rw [show partsZ (k : Int) zs = ((cntP k (ksOf zs) k : Nat) : Int) from by simp [partsZ, hf]]
    exact implParts_yes k a c zs w ha hT hx hf

end Go.Proofs.YtemolmkkiagiiaaDoor
