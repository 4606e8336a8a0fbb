/- It is proved how sums of degrees, sizes, unions and meetings of clubs count their members; conditions: those of each statement. -/
import Derived.Test.YtjclfpcnfmpjdaaDoorRows
import Derived.WalkKit
import Derived.WalkSpells
import Derived.ProofKit
import Derived.OpenShut
import Derived.ShutString
import Derived.ChangeOld
import Derived.Below
import Derived.Deep.RegionHeld3
import Derived.Deep.QuietTactic
import Derived.BigQuiet
import Derived.Lib.Hide
import Derived.Lib.SmallJoins
import Derived.Outline
import Derived.Laws.MakeOwn
import Derived.Laws.OwnMore
import Derived.IntWalk
import Derived.RangeFuncNested
import Derived.RangeFuncBound
import Derived.RangeFuncCalls
import Derived.RangeFuncLeaves
import Derived.RangeFuncBox
import Derived.Shelf.Abstract
import Derived.Shelf.RegionOpen
import Derived.OwnWalkIn
import Derived.TacticsInMore
import Derived.LoopNIn
import Derived.LoopIn
import Derived.Maps.AppendAt
import Derived.Deep.AppendLies
import Derived.OwnWalk
import Derived.StillTail
import Derived.StillTactics
import Derived.OrdersIn
import Derived.TacticsIn
import Derived.Shelf.Spec.TrailingZeros
import Derived.StillTailTactics
import Derived.Test.YtjclfpcnfmpjdaaDoorMsa
import Derived.Test.YtjclfpcnfmpjdaaDoorZa
namespace Go.Proofs.YtjclfpcnfmpjdaaDoor
open Go.RowKit

set_option maxRecDepth 100000 in
theorem pop_mem_fin : ∀ s : Fin 64, pop (s.val : Int) = ((mem s.val).length : Int) := by decide +kernel

theorem pop_mem {s : Nat} (h : s < 64) : pop (s : Int) = ((mem s).length : Int) := pop_mem_fin ⟨s, h⟩
theorem allMem_cons (z : Int) (zs : List Int) : allMem (z :: zs) = mem z.toNat ++ allMem zs := by simp [allMem]
theorem small63 {m : Int} {zs : List Int} (h : famIn m zs = true) : ∀ z ∈ zs, 0 ≤ z ∧ z ≤ 63 := fun z hz => by
  obtain ⟨h1, h2, h3, h4⟩ := famIn_out h
  have := h4 z hz
  have h5 : fullI m ≤ 63 := by rcases m16 h1 h2 with rfl | rfl | rfl | rfl | rfl | rfl <;> decide
  omega

set_option maxRecDepth 100000 in
theorem mem_one_fin : ∀ s : Fin 64, ∀ v : Fin 6, (mem s.val).count v.val = if s.val.testBit v.val then 1 else 0 := by decide +kernel

theorem mem_one {s v : Nat} (hs : s < 64) (hv : v < 6) : (mem s).count v = if s.testBit v then 1 else 0 := mem_one_fin ⟨s, hs⟩ ⟨v, hv⟩
/-- A club has a member. -/
def hasM (v : Nat) (z : Int) : Bool := z.toNat.testBit v

theorem count_all {v : Nat} (hv : v < 6) : ∀ zs : List Int, (∀ z ∈ zs, 0 ≤ z ∧ z ≤ 63) → (allMem zs).count v = zs.countP (hasM v)
  | [], _ => by simp [allMem]
  | z :: zs, h => by
    have ih := count_all hv zs (fun x hx => h x (by simp [hx]))
    have hz := h z (by simp)
    rw [allMem_cons, List.count_append, ih, mem_one (by omega) hv, List.countP_cons]
    unfold hasM
    omega

theorem bit_val {S v : Nat} (hS : S < 64) (hv : v < 6) : bits BinOp.and IntKind.i64 ((S : Int) / 2 ^ v) 1 = if S.testBit v then 1 else 0 := by
  rw [bit_at S v hS hv]
  have h1 : (S >>> v) &&& 1 = if S.testBit v then 1 else 0 := by
    rw [Nat.testBit, Nat.and_comm]
    have : 1 &&& (S >>> v) ≤ 1 := Nat.and_le_left
    by_cases h0 : 1 &&& (S >>> v) = 0
    · rw [h0]; rfl
    · rw [show 1 &&& (S >>> v) = 1 by omega]; rfl
  rw [h1]
  cases S.testBit v <;> rfl

end Go.Proofs.YtjclfpcnfmpjdaaDoor
