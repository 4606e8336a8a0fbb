/- It is proved how a map from lists of clubs to namings is read; conditions: those of each statement. -/
import Derived.Maps.OwnIn
import Derived.Maps.Ext
import Derived.DeepKeys4
import Derived.MapKept
import Derived.Laws.CopyRow
import Derived.Lib.SlBuf
import Derived.Test.YtijhpfecbpkpdaaDoorRows
import Derived.WalkKit
import Derived.WalkSpells
import Derived.ProofKit
import Derived.OpenShut
import Derived.ShutString
import Derived.ChangeOld
import Derived.Below
import Derived.Deep.RegionHeld3
import Derived.Deep.QuietTactic
import Derived.BigQuiet
import Derived.Lib.Hide
import Derived.Lib.SmallJoins
import Derived.Outline
import Derived.Laws.MakeOwn
import Derived.Laws.OwnMore
import Derived.IntWalk
import Derived.Lib.AppendZeros
import Derived.Maps.AppendAt
import Derived.Deep.AppendLies
import Derived.OwnWalk
import Derived.Lib.SlicesCompact
import Derived.Lib.OwnBridge
import Derived.Shelf.Sort.Plain
import Derived.Shelf.Slices.In.SortNone
import Derived.Shelf.Slices.CompactI
import Derived.Ground.Names2Prog
import Derived.RangeFuncNested
import Derived.RangeFuncBound
import Derived.RangeFuncCalls
import Derived.RangeFuncLeaves
import Derived.RangeFuncBox
import Derived.Shelf.Abstract
import Derived.Shelf.RegionOpen
import Derived.OwnWalkIn
import Derived.TacticsInMore
import Derived.LoopNIn
import Derived.LoopIn
import Derived.StillTail
import Derived.StillTactics
import Derived.OrdersIn
import Derived.TacticsIn
import Derived.Shelf.Spec.TrailingZeros
import Derived.StillTailTactics
import Derived.Test.YtijhpfecbpkpdaaDoorMj
namespace Go.Proofs.YtijhpfecbpkpdaaDoor
open Go.RowKit Go.Shelf

/-! ### how an element reads -/
def cellI : Value → Option Int
  | .int .i64 x => some x
  | _ => none

def intsD (xs : List Int) : DataW Unit := .agg (xs.map fun x => .lit (.int .i64 x))
theorem intsD_inj {xs ys : List Int} (h : intsD xs = intsD ys) : xs = ys := by
  unfold intsD at h
  injection h with h
  exact (List.map_inj_right (fun a b e => by injection e with e; injection e)).1 h

def rowR (v : Value) : Option (DataW Unit × List MemPlace) :=
  match v with
  | .agg cs => (cs.toList.mapM cellI).map fun xs => (intsD xs, [])
  | _ => none

theorem mapM_cellI : ∀ xs : List Int, (xs.map (Value.int .i64)).mapM cellI = some xs
  | [] => rfl
  | x :: xs => by simp [List.mapM_cons, cellI, mapM_cellI xs]

theorem mapM_inv : ∀ (cs : List Value) (xs : List Int), cs.mapM cellI = some xs → cs = xs.map (Value.int .i64)
  | [], xs, h => by simp at h; simp [← h]
  | c :: cs, xs, h => by
    simp only [List.mapM_cons, Option.bind_eq_bind, Option.pure_def, Option.bind_eq_some_iff] at h
    obtain ⟨x, hx, ys, hy, e⟩ := h
    injection e with e
    subst e
    rw [List.map_cons, mapM_inv cs ys hy]
    unfold cellI at hx
    split at hx
    · injection hx with hx; rw [hx]
    · cases hx

theorem rowR_mk (xs : List Int) : rowR (.agg (iv xs)) = some (intsD xs, []) := by
  show ((xs.map (Value.int .i64)).mapM cellI).map (fun xs => (intsD xs, [])) = _
  rw [mapM_cellI]; rfl

theorem rowR_inv {v : Value} {xs : List Int} {ps : List MemPlace} (h : rowR v = some (intsD xs, ps)) : v = .agg (iv xs) := by
  unfold rowR at h
  split at h
  · rename_i cs
    cases hm : cs.toList.mapM cellI with
    | none => rw [hm] at h; cases h
    | some ys =>
      rw [hm] at h
      simp only [Option.map_some, Option.some.injEq, Prod.mk.injEq] at h
      have e := intsD_inj h.1
      subst e
      have := mapM_inv _ _ hm
      congr 1
      apply Array.toList_inj.1
      rw [this]; simp [iv]
  · cases h

/-! ### how a key reads -/
theorem Tryd.laidOutM : laidOutB Tryd.prog = true := by kernel_rfl
theorem keyLaw : Maps.Keyed Tryd.prog 81 := Maps.Keyed.of_law (deep_law_laid Tryd.laidOutM (m := 2) (by omega) (of_decide_eq_true (by kernel_rfl)) (by kernel_rfl) (by kernel_rfl))
/-- A number that an int may be. -/
def wfI (x : Int) : Prop := (Lit.int .i64 x).wf = true

theorem key_some {L : List Int} (hl : L.length = 8) (hw : ∀ x ∈ L, wfI x) : ∃ l, keyOf Tryd.prog 81 (.agg (iv L)) = some l := by
  obtain ⟨x0, x1, x2, x3, x4, x5, x6, x7, rfl⟩ : ∃ x0 x1 x2 x3 x4 x5 x6 x7 : Int, L = [x0, x1, x2, x3, x4, x5, x6, x7] := by
    match L, hl with
    | [x0, x1, x2, x3, x4, x5, x6, x7], _ => exact ⟨_, _, _, _, _, _, _, _, rfl⟩
  have w0 := hw x0 (by simp)
  have w1 := hw x1 (by simp)
  have w2 := hw x2 (by simp)
  have w3 := hw x3 (by simp)
  have w4 := hw x4 (by simp)
  have w5 := hw x5 (by simp)
  have w6 := hw x6 (by simp)
  have w7 := hw x7 (by simp)
  unfold wfI at w0 w1 w2 w3 w4 w5 w6 w7
  have ht : Tryd.prog.keyType 81 = true := by kernel_rfl
  have hc : Tryd.prog.cellsOf 81 = 8 := by kernel_rfl
  have hc3 : Tryd.prog.cellsOf 3 = 1 := by kernel_rfl
  obtain ⟨d, hd⟩ : ∃ d, Tryd.prog.types.size + 1 = d + 2 := ⟨Tryd.prog.types.size - 1, by have : 1 ≤ Tryd.prog.types.size := of_decide_eq_true (by kernel_rfl); omega⟩
  have k3 : ∀ x : Int, (Lit.int .i64 x).wf = true → Tryd.prog.keyLits (d + 1) 3 [.int .i64 x] = some [.int .i64 x] := by
    intro x hx
    simp [Program.keyLits, Tryd.underlying3, hx]
  refine ⟨.string (keyBytes [.int .i64 x0, .int .i64 x1, .int .i64 x2, .int .i64 x3, .int .i64 x4, .int .i64 x5, .int .i64 x6, .int .i64 x7]), ?_⟩
  unfold keyOf
  simp only [Tryd.underlying81, ht, Value.formed, hc, hd]
  simp [iv, Program.keyLits, Tryd.underlying81, hc, hc3, List.range_succ, k3, w0, w1, w2, w3, w4, w5, w6, w7, Value.cells]
  done

end Go.Proofs.YtijhpfecbpkpdaaDoor
