/- It is proved what the method ask leaves in its map; conditions: those of each statement. -/
import Derived.RowKit
import Derived.Laws.CopyRow
import Derived.Lib.SlBuf
import Derived.Deep.QuietTactic
import Derived.RangeFuncNested
import Derived.RangeFuncBound
import Derived.RangeFuncCalls
import Derived.RangeFuncLeaves
import Derived.RangeFuncBox
import Derived.RangeFuncWrites
import Derived.StillTailTactics
import Derived.Maps.OwnIn
import Derived.Maps.Ext
import Derived.DeepKeys4
import Derived.MapKept
import Derived.Test.YtjclfpcnfmpjdaaDoorRows
import Derived.WalkKit
import Derived.WalkSpells
import Derived.ProofKit
import Derived.OpenShut
import Derived.ShutString
import Derived.ChangeOld
import Derived.Below
import Derived.Deep.RegionHeld3
import Derived.BigQuiet
import Derived.Lib.Hide
import Derived.Lib.SmallJoins
import Derived.Outline
import Derived.Laws.MakeOwn
import Derived.Laws.OwnMore
import Derived.IntWalk
import Derived.Lib.AppendZeros
import Derived.Maps.AppendAt
import Derived.Deep.AppendLies
import Derived.OwnWalk
import Derived.Lib.SlicesCompact
import Derived.Lib.OwnBridge
import Derived.OrdersIn
import Derived.TacticsIn
import Derived.Shelf.Sort.Plain
import Derived.Shelf.Slices.In.SortNone
import Derived.Shelf.Slices.CompactI
import Derived.Ground.Names2Prog
import Derived.Shelf.Abstract
import Derived.Shelf.RegionOpen
import Derived.OwnWalkIn
import Derived.TacticsInMore
import Derived.LoopNIn
import Derived.LoopIn
import Derived.StillTail
import Derived.StillTactics
import Derived.Shelf.Spec.TrailingZeros
import Derived.Test.YtjclfpcnfmpjdaaDoorMo
namespace Go.Proofs.YtjclfpcnfmpjdaaDoor
open Go.RowKit Go.Shelf Go.Maps

attribute [local go_sem] Oper.semAt_some

/-- allNames(members): the number is boxed; the function value holds the box. -/
theorem allNames_any (m : Int) (w : World) :
    Calls Tryd.prog 94 #[.int .i64 m] w fun e w' => e = .returned (.func (.func 105) #[] #[.pointer (some ⟨w.heap.size, 0, none⟩)]) ∧ w' = w.alloc (.cells #[.int .i64 m] 3) := by
  have hmf : ∀ (fn : Fn) (first cap : Array Value) (w : World), (Instr.makeFunc fn first cap).run Tryd.prog w = .ok (.func fn first cap) w := fun _ _ _ _ => rfl
  go_enter Tryd.func94, Tryd.ntmps94
  go_wp2
  go_ret
  exact ⟨rfl, rfl⟩

/-- The map of namings. -/
abbrev OwnT (W : World) (b n : Nat) (D : DataW Unit) : Prop := W.ownsMap Tryd.prog 57 rowR b n D

theorem OwnT.but {W W' : World} {b n : Nat} {D : DataW Unit} {X : Nat → Prop} (h : OwnT W b n D) (hb : But X W W') (hX : ¬ X b) : OwnT W' b n D := by
  obtain ⟨es, clock, hB, F, hs, hD⟩ := h
  exact ⟨es, clock, hb.keep hX hB, F, hs, hD⟩

theorem OwnT.blk {W : World} {b n : Nat} {D : DataW Unit} (h : OwnT W b n D) : ∃ es clock, W.heap[b]? = some (.map es clock) := by
  obtain ⟨es, clock, hB, _⟩ := h; exact ⟨es, clock, hB⟩

theorem ints_but {W W' : World} {b B : Nat} {a : Option Addr} {zs : List Int} (h : Ints W B a zs) (hB : B ≤ W.heap.size) (hb : But (fun k => k = b) W W') (hm : ∃ es clock, W.heap[b]? = some (.map es clock)) : Ints W' B a zs := by
  rcases h with h | ⟨g, off, e, hg, hc⟩
  · exact .inl h
  · by_cases hz : zs = []
    · exact .inl hz
    · refine .inr ⟨g, off, e, hg, fun j hj => ?_⟩
      have hne : g ≠ b := by
        rintro rfl
        obtain ⟨es, clock, hm⟩ := hm
        have := hc 0 (List.length_pos_iff.2 hz)
        simp [World.cell?, hm] at this
      exact (World.cell?_of_block (a := ⟨g, off + j, none⟩) (hb.same g (by omega) hne)).trans (hc j hj)

theorem clear_own {W : World} {b n : Nat} {D : DataW Unit} (h : OwnT W b n D) : ∃ W', (∀ ty, (Builtin.clear_ #[55] ty #[.map (some b)]).run Tryd.prog W = .ok (.tuple #[]) W') ∧ OwnT W' b 0 (.map []) ∧ W.grownBy W' (some b) := by
  obtain ⟨es, clock, hb, F, hs, hD⟩ := h
  refine ⟨ChangeMaps.setBlock W b (.map #[] clock), fun ty => ?_, ⟨#[], clock, ChangeMaps.heap_setBlock_same hb _, ⟨by simp, MapKept.stamped_empty _, by simp⟩, Nat.le_refl _, rfl⟩, ⟨rfl, rfl, rfl, by simp [ChangeMaps.setBlock], fun i _ hi => ChangeMaps.heap_setBlock_other hb _ (fun e => hi (by rw [e]))⟩⟩
  simp [Builtin.clear_, run_underlying Tryd.underlying55, MapKept.run_getObj_map hb, MapKept.run_setObj_map _ hb, Result.andThen]
  rfl

end Go.Proofs.YtjclfpcnfmpjdaaDoor
