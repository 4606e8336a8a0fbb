/- It is proved that a family of chapter 5, drawn from bytes and written again, is the call's own; conditions: those of each statement. -/
import Derived.StillTailTactics
import Derived.Test.YtphddemilibooaaDoorRows
import Derived.WalkKit
import Derived.WalkSpells
import Derived.ProofKit
import Derived.OpenShut
import Derived.ShutString
import Derived.ChangeOld
import Derived.Below
import Derived.Deep.RegionHeld3
import Derived.Deep.QuietTactic
import Derived.BigQuiet
import Derived.Lib.Hide
import Derived.Lib.SmallJoins
import Derived.Outline
import Derived.Laws.MakeOwn
import Derived.Laws.OwnMore
import Derived.IntWalk
import Derived.Deep.RegionLaw
import Derived.Deep.AppendLies
import Derived.RangeFuncNested
import Derived.RangeFuncBound
import Derived.RangeFuncCalls
import Derived.RangeFuncLeaves
import Derived.RangeFuncBox
import Derived.Shelf.Abstract
import Derived.Shelf.RegionOpen
import Derived.OwnWalkIn
import Derived.TacticsInMore
import Derived.LoopNIn
import Derived.LoopIn
import Derived.Maps.AppendAt
import Derived.OwnWalk
import Derived.Shelf.Spec.TrailingZeros
import Derived.Test.YtphddemilibooaaDoorRaaa
import Derived.Test.YtphddemilibooaaDoorRaab
namespace Go.Proofs.YtphddemilibooaaDoor
open Go.RowKit

theorem own_wr {w : World} {B : Nat} {a : Option Addr} {n c k : Nat} {zs : List Int} (h : OwnI w B (.slice a n c) zs) (hk : k < zs.length) :
    ∃ g, a = some ⟨g, 0, none⟩ ∧ B ≤ g ∧ g < w.heap.size ∧ w.cell? ⟨g, k, none⟩ = some (.int .i64 (zs[k]?.getD 0)) ∧ w.frozen? ⟨g, k, none⟩ = false ∧
      ∀ x, OwnI (w.setCell ⟨g, k, none⟩ (.int .i64 x)) B (.slice a n c) (zs.set k x) := by
  have h' := h
  rcases h.2 with ⟨h2, hn⟩ | ⟨g, cap, cur, e, hb, hg, hnc, hcm, hcs, hct⟩
  · omega
  · injection e with e1 e2 e3
    subst e1
    simp only [Nat.mul_one] at hct hcs
    have hcell : cur[k]? = some (.int .i64 (zs[k]?.getD 0)) := by
      have : (cur.toList.take zs.length)[k]? = (zs.map (Value.int .i64))[k]? := by rw [hct]
      rw [List.getElem?_take_of_lt hk, Array.getElem?_toList] at this
      rw [this, List.getElem?_map]
      simp [hk]
    refine ⟨g, rfl, hb, (Array.getElem?_eq_some_iff.1 hg).1, ?_, ?_, fun x => ?_⟩
    · exact (blk_cell hg k).trans hcell
    · exact blk_frozen hg _
    · refine ⟨by simp, .inr ⟨g, cap, cur.setIfInBounds k (.int .i64 x), by rw [List.length_set, e2, e3], hb, heap_setCell_same w g k cur 3 _ hg, by rw [List.length_set]; exact hnc, hcm, by simp [hcs], ?_⟩⟩
      rw [List.length_set, Nat.mul_one, Array.toList_setIfInBounds, List.take_set, hct, List.map_set]

end Go.Proofs.YtphddemilibooaaDoor
