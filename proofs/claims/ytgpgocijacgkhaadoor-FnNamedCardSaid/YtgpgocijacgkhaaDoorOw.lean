/- It is proved how rows of ints of the call's own are read and kept; conditions: those of each statement. -/
import Derived.Test.YtgpgocijacgkhaaDoorRows
import Derived.WalkKit
import Derived.WalkSpells
import Derived.ProofKit
import Derived.OpenShut
import Derived.ShutString
import Derived.ChangeOld
import Derived.Below
import Derived.Deep.RegionHeld3
import Derived.Deep.QuietTactic
import Derived.BigQuiet
import Derived.Lib.Hide
import Derived.Lib.SmallJoins
import Derived.Outline
import Derived.Laws.MakeOwn
import Derived.Laws.OwnMore
import Derived.IntWalk
import Derived.RangeFuncNested
import Derived.RangeFuncBound
import Derived.RangeFuncCalls
import Derived.RangeFuncLeaves
import Derived.RangeFuncBox
import Derived.Shelf.Abstract
import Derived.Shelf.RegionOpen
import Derived.OwnWalkIn
import Derived.TacticsInMore
import Derived.LoopNIn
import Derived.LoopIn
import Derived.Maps.AppendAt
import Derived.Deep.AppendLies
import Derived.Test.YtgpgocijacgkhaaDoorRaaa
import Derived.Test.YtgpgocijacgkhaaDoorRaab
import Derived.Test.YtgpgocijacgkhaaDoorRaah
namespace Go.Proofs.YtgpgocijacgkhaaDoor
open Go.RowKit Go.Shelf

theorem ownsRow_below {w w' : World} {B n : Nat} {v : Value} {xs : List Value} (h : w.ownsRow B 3 1 v n xs) (hb : Below w.heap.size w w') : w'.ownsRow B 3 1 v n xs :=
  World.ownsRow.kept h (only_of_below hb none) (by cases v.ownBlock <;> simp)

theorem OwnN.cap_le {w : World} {B : Nat} {a : Option Addr} {n cap : Nat} {zs : List Int} (h : OwnN w B a n cap zs) : n ≤ cap := by
  rcases h.2 with ⟨e, hn⟩ | ⟨g, c, cur, e, hb, hg, hc, _⟩
  · omega
  · injection e with e1 e2 e3
    omega

theorem OwnN.len {w : World} {B : Nat} {a : Option Addr} {n cap : Nat} {zs : List Int} (h : OwnN w B a n cap zs) : zs.length = n := by
  have := h.1; simpa using this

theorem OwnN.ints {w : World} {B : Nat} {a : Option Addr} {n cap : Nat} {zs : List Int} (h : OwnN w B a n cap zs) : Ints w w.heap.size a zs := by
  have hl := h.len
  subst hl
  exact own_ints (n := zs.length) (cap := cap) (B := B) h

theorem OwnN.base {w : World} {B B' : Nat} {a : Option Addr} {n cap : Nat} {zs : List Int} (h : OwnN w B a n cap zs) (hB : B' ≤ B) : OwnN w B' a n cap zs := ownsRow_base h hB
theorem OwnN.below {w w' : World} {B : Nat} {a : Option Addr} {n cap : Nat} {zs : List Int} (h : OwnN w B a n cap zs) (hb : Below w.heap.size w w') : OwnN w' B a n cap zs := ownsRow_below h hb
theorem OwnN.ne {w : World} {B : Nat} {a : Option Addr} {n cap : Nat} {zs : List Int} (h : OwnN w B a n cap zs) {b : Nat} (hb : b < B ∨ w.heap.size ≤ b) : (Value.slice a n cap).ownBlock ≠ some b := by
  intro e
  have := World.ownsRow.lt h b e
  omega

theorem OwnN.cell {w : World} {B g n cap : Nat} {ys : List Int} (h : OwnN w B (some ⟨g, 0, none⟩) n cap ys) {j : Nat} (hj : j < n) : w.cell? ⟨g, j, none⟩ = some (.int .i64 (ys[j]?.getD 0)) := by
  have hl := h.len
  have := World.ownsRow.cellAt h j (by omega)
  rw [this]; simp [show j < ys.length by omega]

theorem OwnN.cellz {w : World} {B g n cap : Nat} {ys : List Int} (h : OwnN w B (some ⟨g, 0, none⟩) n cap ys) {j : Nat} (hj : j < n) : w.cell? ⟨g, j, none⟩ = some (.int .i64 (ys[j]?.getD 0)) := h.cell hj
end Go.Proofs.YtgpgocijacgkhaaDoor
