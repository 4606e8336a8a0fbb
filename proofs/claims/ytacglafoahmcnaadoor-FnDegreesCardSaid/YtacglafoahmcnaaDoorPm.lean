/- It is proved how sums of degrees, sizes, unions and meetings of clubs count their members; conditions: those of each statement. -/
import Derived.Test.YtacglafoahmcnaaDoorRows
import Derived.WalkKit
import Derived.WalkSpells
import Derived.ProofKit
import Derived.OpenShut
import Derived.ShutString
import Derived.ChangeOld
import Derived.Below
import Derived.Deep.RegionHeld3
import Derived.Deep.QuietTactic
import Derived.BigQuiet
import Derived.Lib.Hide
import Derived.Lib.SmallJoins
import Derived.Outline
import Derived.Laws.MakeOwn
import Derived.Laws.OwnMore
import Derived.IntWalk
import Derived.RangeFuncNested
import Derived.RangeFuncBound
import Derived.RangeFuncCalls
import Derived.RangeFuncLeaves
import Derived.RangeFuncBox
import Derived.Shelf.Abstract
import Derived.Shelf.RegionOpen
import Derived.OwnWalkIn
import Derived.TacticsInMore
import Derived.LoopNIn
import Derived.LoopIn
import Derived.Maps.AppendAt
import Derived.Deep.AppendLies
import Derived.OwnWalk
import Derived.StillTail
import Derived.StillTactics
import Derived.OrdersIn
import Derived.TacticsIn
import Derived.Shelf.Spec.TrailingZeros
import Derived.StillTailTactics
import Derived.Test.YtacglafoahmcnaaDoorD
import Derived.Test.YtacglafoahmcnaaDoorDg
import Derived.Test.YtacglafoahmcnaaDoorN
import Derived.Test.YtacglafoahmcnaaDoorT
import Derived.Test.YtacglafoahmcnaaDoorTb
import Derived.Test.YtacglafoahmcnaaDoorUa
import Derived.Test.YtacglafoahmcnaaDoorZa
namespace Go.Proofs.YtacglafoahmcnaaDoor
open Go.RowKit

set_option maxRecDepth 100000 in
theorem pop_mem_fin : ∀ s : Fin 64, pop (s.val : Int) = ((mem s.val).length : Int) := by decide +kernel

theorem pop_mem {s : Nat} (h : s < 64) : pop (s : Int) = ((mem s).length : Int) := pop_mem_fin ⟨s, h⟩
theorem allMem_cons (z : Int) (zs : List Int) : allMem (z :: zs) = mem z.toNat ++ allMem zs := by simp [allMem]
theorem small63 {m : Int} {zs : List Int} (h : famIn m zs = true) : ∀ z ∈ zs, 0 ≤ z ∧ z ≤ 63 := fun z hz => by
  obtain ⟨h1, h2, h3, h4⟩ := famIn_out h
  have := h4 z hz
  have h5 : fullI m ≤ 63 := by rcases m16 h1 h2 with rfl | rfl | rfl | rfl | rfl | rfl <;> decide
  omega

set_option maxRecDepth 100000 in
theorem mem_one_fin : ∀ s : Fin 64, ∀ v : Fin 6, (mem s.val).count v.val = if s.val.testBit v.val then 1 else 0 := by decide +kernel

theorem mem_one {s v : Nat} (hs : s < 64) (hv : v < 6) : (mem s).count v = if s.testBit v then 1 else 0 := mem_one_fin ⟨s, hs⟩ ⟨v, hv⟩
/-- A club has a member. -/
def hasM (v : Nat) (z : Int) : Bool := z.toNat.testBit v

theorem count_all {v : Nat} (hv : v < 6) : ∀ zs : List Int, (∀ z ∈ zs, 0 ≤ z ∧ z ≤ 63) → (allMem zs).count v = zs.countP (hasM v)
  | [], _ => by simp [allMem]
  | z :: zs, h => by
    have ih := count_all hv zs (fun x hx => h x (by simp [hx]))
    have hz := h z (by simp)
    rw [allMem_cons, List.count_append, ih, mem_one (by omega) hv, List.countP_cons]
    unfold hasM
    omega

theorem range_countP (P : Int → Bool) (zs : List Int) : ∀ m, ((List.range m).filter fun i => decide (i < zs.length) && P (zs[i]?.getD 0)).length = (zs.take m).countP P
  | 0 => by simp
  | m + 1 => by
    rw [List.range_succ, List.filter_append, List.length_append, range_countP P zs m]
    by_cases h : m < zs.length
    · rw [List.take_succ_eq_append_getElem h, List.countP_append]
      simp [h, List.filter_cons, List.countP_cons]
      split <;> simp
    · rw [List.take_of_length_le (by omega), List.take_of_length_le (by omega)]
      simp [h]

theorem dual_sizes {k : Nat} {zs : List Int} (h : famIn (k : Int) zs = true) (h6 : zs.length ≤ 6) : (dualL k (prsP (pairs zs zs.length))).map pop = degL k (allMem zs) := by
  obtain ⟨h1, h2, h3, h4⟩ := famIn_out h
  unfold dualL degL
  rw [List.map_map]
  apply List.map_congr_left
  intro v hv
  have hvk : v < k := List.mem_range.1 hv
  have hs : dualBits (prsP (pairs zs zs.length)) v < 64 := Nat.lt_of_lt_of_le (dualBits_pow zs zs.length v) (Nat.pow_le_pow_right (by decide) h6 : 2 ^ zs.length ≤ 2 ^ 6)
  simp only [Function.comp]
  rw [pop_mem hs, count_all (by omega) zs (small63 h)]
  have e := range_countP (hasM v) zs 6
  rw [List.take_of_length_le h6] at e
  rw [← e]
  unfold mem
  congr 2
  apply List.filter_congr
  intro i _
  rw [dualBits_test, Bool.eq_iff_iff]
  simp only [decide_eq_true_eq, Bool.and_eq_true, prs_mem, mem_mem, hasM]
  constructor
  · rintro ⟨h1, -, h2⟩; exact ⟨h1, h2⟩
  · rintro ⟨h1, h2⟩; exact ⟨h1, by omega, h2⟩

end Go.Proofs.YtacglafoahmcnaaDoor
