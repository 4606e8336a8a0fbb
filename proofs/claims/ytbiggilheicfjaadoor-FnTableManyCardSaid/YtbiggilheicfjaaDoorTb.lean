/- It is proved what the iterator over a family's clubs yields where each club is a set of members; conditions: those of each statement. -/
import Derived.Test.YtbiggilheicfjaaDoorRows
import Derived.WalkKit
import Derived.WalkSpells
import Derived.ProofKit
import Derived.OpenShut
import Derived.ShutString
import Derived.ChangeOld
import Derived.Below
import Derived.Deep.RegionHeld3
import Derived.Deep.QuietTactic
import Derived.BigQuiet
import Derived.Lib.Hide
import Derived.Lib.SmallJoins
import Derived.Outline
import Derived.Laws.MakeOwn
import Derived.Laws.OwnMore
import Derived.IntWalk
import Derived.RangeFuncNested
import Derived.RangeFuncBound
import Derived.RangeFuncCalls
import Derived.RangeFuncLeaves
import Derived.RangeFuncBox
import Derived.Shelf.Abstract
import Derived.Shelf.RegionOpen
import Derived.OwnWalkIn
import Derived.TacticsInMore
import Derived.LoopNIn
import Derived.LoopIn
import Derived.Maps.AppendAt
import Derived.Deep.AppendLies
import Derived.Shelf.Spec.TrailingZeros
import Derived.Test.YtbiggilheicfjaaDoorMva
import Derived.Test.YtbiggilheicfjaaDoorT
namespace Go
end Go
namespace Go.Proofs.YtbiggilheicfjaaDoor
open Go.RowKit Go.Shelf

attribute [local go_sem] Oper.semAt_some

/-- All members of some clubs, one club behind the other. -/
def allMem (zs : List Int) : List Nat := zs.flatMap fun z => mem z.toNat

theorem allMem_snoc (zs : List Int) (z : Int) : allMem (zs ++ [z]) = allMem zs ++ mem z.toNat := by simp [allMem]
theorem allMem_len (zs : List Int) (h : ∀ z ∈ zs, z.toNat < 64) : (allMem zs).length ≤ 6 * zs.length := by
  induction zs with
  | nil => simp [allMem]
  | cons z zs ih =>
    have h1 := mem_length z.toNat (h z (by simp))
    have h2 := ih (fun y hy => h y (by simp [hy]))
    simp only [allMem, List.flatMap_cons, List.length_append, List.length_cons] at h2 ⊢
    omega

/-- What the body of a loop over clubs knows of a club. -/
def IsClub (m : Nat) (p : Nat × Int) : Prop := p.1 < 8 ∧ 0 ≤ p.2 ∧ p.2.toNat < 2 ^ m

theorem IsClub.small {m : Nat} (hm : m ≤ 6) {p : Nat × Int} (h : IsClub m p) : p.2.toNat < 64 := Nat.lt_of_lt_of_le h.2.2 (Nat.pow_le_pow_right (by decide) hm : 2 ^ m ≤ 2 ^ 6)
theorem isClub_all {m : Nat} {zs : List Int} (h : famIn (m : Int) zs = true) : ∀ k, k < zs.length → IsClub m (k, zs[k]?.getD 0) := by
  obtain ⟨h1, h2, h3, h4⟩ := famIn_out h
  intro k hk
  have h5 := h4 zs[k] (List.getElem_mem _)
  have h6 : zs[k]?.getD 0 = zs[k] := by simp [hk]
  refine ⟨by show k < 8; omega, ?_, ?_⟩
  · show 0 ≤ zs[k]?.getD 0
    omega
  · show (zs[k]?.getD 0).toNat < 2 ^ m
    have h7 : fullI (m : Int) = ((2 ^ m : Nat) : Int) - 1 := by simp [fullI]
    rw [h6]
    omega

end Go.Proofs.YtbiggilheicfjaaDoor
