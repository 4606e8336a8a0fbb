/- It is proved what the least of the map's keys is when a family is asked about; conditions: those of each statement. -/
import Derived.RowKit
import Derived.Laws.CopyRow
import Derived.Lib.SlBuf
import Derived.Deep.QuietTactic
import Derived.RangeFuncNested
import Derived.RangeFuncBound
import Derived.RangeFuncCalls
import Derived.RangeFuncLeaves
import Derived.RangeFuncBox
import Derived.RangeFuncWrites
import Derived.StillTailTactics
import Derived.Maps.OwnIn
import Derived.Maps.Ext
import Derived.DeepKeys4
import Derived.MapKept
import Derived.Test.YtjclfpcnfmpjdaaDoorRows
import Derived.WalkKit
import Derived.WalkSpells
import Derived.ProofKit
import Derived.OpenShut
import Derived.ShutString
import Derived.ChangeOld
import Derived.Below
import Derived.Deep.RegionHeld3
import Derived.BigQuiet
import Derived.Lib.Hide
import Derived.Lib.SmallJoins
import Derived.Outline
import Derived.Laws.MakeOwn
import Derived.Laws.OwnMore
import Derived.IntWalk
import Derived.Maps.AppendAt
import Derived.Sort.MapsRangeIn
import Derived.Lib.AppendZeros
import Derived.Deep.AppendLies
import Derived.OwnWalk
import Derived.Lib.SlicesCompact
import Derived.Lib.OwnBridge
import Derived.OrdersIn
import Derived.TacticsIn
import Derived.Shelf.Sort.Plain
import Derived.Shelf.Slices.In.SortNone
import Derived.Shelf.Slices.CompactI
import Derived.Ground.Names2Prog
import Derived.Shelf.Abstract
import Derived.Shelf.RegionOpen
import Derived.OwnWalkIn
import Derived.TacticsInMore
import Derived.LoopNIn
import Derived.LoopIn
import Derived.StillTail
import Derived.StillTactics
import Derived.Shelf.Spec.TrailingZeros
import Derived.Test.YtjclfpcnfmpjdaaDoorMsa
import Derived.Test.YtjclfpcnfmpjdaaDoorMsb
import Derived.Test.YtjclfpcnfmpjdaaDoorBq
import Derived.Test.YtjclfpcnfmpjdaaDoorBr
namespace Go.Proofs.YtjclfpcnfmpjdaaDoor
open Go.RowKit Go.Shelf Go.Maps

theorem cellsK_at : ∀ (ys : List KeyS) (i j : Nat), i < ys.length → j < 8 → (cellsK ys)[i * 8 + j]? = some (.int .i64 (((valsK ys)[i]?.getD [])[j]?.getD 0))
  | [], i, j, h, _ => by simp at h
  | y :: ys, 0, j, _, hj => by
    have h1 : (cellsK (y :: ys)) = y.1.map (Value.int .i64) ++ cellsK ys := by simp [cellsK]
    have h8 := y.2.1
    rw [h1, Nat.zero_mul, Nat.zero_add, List.getElem?_append_left (by rw [List.length_map]; omega), List.getElem?_map]
    have : (valsK (y :: ys))[0]?.getD [] = y.1 := by simp [valsK]
    rw [this, List.getElem?_eq_getElem (by omega)]
    rfl
  | y :: ys, i + 1, j, hi, hj => by
    have h1 : (cellsK (y :: ys)) = y.1.map (Value.int .i64) ++ cellsK ys := by simp [cellsK]
    have h8 := y.2.1
    rw [h1, List.getElem?_append_right (by rw [List.length_map]; omega), List.length_map, h8, show (i + 1) * 8 + j - 8 = i * 8 + j from by omega, cellsK_at ys i j (by simpa using hi) hj]
    simp [valsK]

theorem arr_of_row {W : World} {B : Nat} {v : Value} {ys : List KeyS} (h : W.ownsRow B 57 8 v ys.length (cellsK ys)) (hn : 0 < ys.length) : ∃ g c, v = .slice (some ⟨g, 0, none⟩) ys.length c ∧ B ≤ g ∧ g < W.heap.size ∧ Arr8 W g (valsK ys) := by
  obtain ⟨g, c, rfl, -, -⟩ := World.ownsRow.form h hn
  obtain ⟨h1, h2⟩ := World.ownsRow.lt h g rfl
  refine ⟨g, c, rfl, h1, h2, fun i hi => ?_⟩
  have hil : i < ys.length := by simpa [valsK] using hi
  refine ⟨by simp only [valsK]; rw [List.getElem?_map, List.getElem?_eq_getElem hil]; exact ys[i].2.1, fun j hj => ?_⟩
  rw [World.ownsRow.cellAt h (i * 8 + j) (by omega), cellsK_at ys i j hil hj]

theorem ownT_same {W W' : World} {b n : Nat} {D : DataW Unit} (h : OwnT W b n D) (e : W'.heap[b]? = W.heap[b]?) : OwnT W' b n D := by
  obtain ⟨es, clock, hb, Ft, hs, hD⟩ := h
  exact ⟨es, clock, e.trans hb, Ft, hs, hD⟩

set_option maxRecDepth 100000 in
theorem keys_any (b : Nat) (w : World) : Calls Tryd.prog 79 #[.map (some b)] w fun e w' =>
    e = .returned (.func (.func 97) #[] #[.pointer (some ⟨w.heap.size, 0, none⟩)]) ∧ w' = w.alloc (.cells #[.map (some b)] 55) := by
  go_enter Tryd.func79, Tryd.ntmps79
  go_wp2
  go_ret
  exact ⟨rfl, rfl⟩

set_option maxRecDepth 100000 in
set_option maxHeartbeats 1000000 in
theorem collectKeys_any (Bm b nn : Nat) (D0 : DataW Unit) (zs : List Int) (L : List (List Nat)) (hTab : TabD zs D0 L) (hwf : ∀ p ∈ L, WfK (keyL zs (nI p))) (hsz : Maps.size D0 ≤ 100000) (w : World) (hBm : Bm < w.heap.size)
    (hm : w.cell? ⟨Bm, 0, none⟩ = some (.map (some b))) (hown : OwnT w b nn D0) :
    Calls Tryd.prog 78 #[.func (.func 97) #[] #[.pointer (some ⟨Bm, 0, none⟩)]] w fun e w' => ∃ v ys, e = .returned v ∧ CollE D0 (valsK ys) ∧
      w'.ownsRow w.heap.size 57 8 v ys.length (cellsK ys) ∧ Below w.heap.size w w' := by
  have hA := appendKeys_any Bm b nn D0 zs L hTab hwf hsz w hBm hm hown
  clear hm hown
  go_enter Tryd.func78, Tryd.ntmps78
  go_wp2_with (go_at_call 96; refine hA.mono ?_; rintro e w' ⟨v, ys, rfl, hC, ho, hb⟩)
  go_ret
  exact ⟨v, ys, rfl, hC, ho, hb⟩

end Go.Proofs.YtjclfpcnfmpjdaaDoor
