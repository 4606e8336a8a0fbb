/- It is proved what the FamilyDrop of the model returns; conditions: those of each statement. -/
import Derived.Test.YtckbhhaigpajpaaRows
import Derived.WalkKit
import Derived.WalkSpells
import Derived.ProofKit
import Derived.OpenShut
import Derived.ShutString
import Derived.ChangeOld
import Derived.Below
import Derived.Deep.RegionHeld3
import Derived.Deep.QuietTactic
import Derived.BigQuiet
import Derived.Lib.Hide
import Derived.Lib.SmallJoins
import Derived.Outline
import Derived.Laws.MakeOwn
import Derived.Laws.OwnMore
import Derived.IntWalk
import Derived.Lib.AppendZeros
import Derived.Maps.AppendAt
import Derived.Deep.AppendLies
import Derived.OwnWalk
import Derived.RangeFuncNested
import Derived.RangeFuncBound
import Derived.RangeFuncCalls
import Derived.RangeFuncLeaves
import Derived.RangeFuncBox
import Derived.Shelf.Abstract
import Derived.Shelf.RegionOpen
import Derived.OwnWalkIn
import Derived.TacticsInMore
import Derived.LoopNIn
import Derived.LoopIn
import Derived.Test.YtckbhhaigpajpaaRaaa
import Derived.Test.YtckbhhaigpajpaaRaae
import Derived.Test.YtckbhhaigpajpaaRaab
import Derived.Test.YtckbhhaigpajpaaRaac
import Derived.Test.YtckbhhaigpajpaaRaad
namespace Go.Proofs.Ytckbhhaigpajpaa
open Go.RowKit

theorem app_run_n {w : World} {B n k : Nat} {v : Value} {xs : List Value} (h : w.ownsRow B 3 1 v n xs) (hB : B ≤ w.heap.size) (a : Option Addr) (c : Nat) (zs : List Int) (hk : zs.length = k) (hz : Ints w w.heap.size a zs) (hn : n ≤ 1048576) (hzn : k ≤ 1048576) :
    ∃ a' c' w', (Builtin.append_ #[23, 23] 23 #[v, .slice a k c]).run Try.prog w = .ok (.slice a' (n + k) c') w' ∧
      w'.ownsRow B 3 1 (.slice a' (n + k) c') (n + k) (xs ++ zs.map (Value.int .i64)) ∧ w.grownBy w' v.ownBlock := by
  subst hk
  exact app_run h hB a c zs hz hn hzn

/-- An append whose run is known, as a step of a region that draws. -/
theorem step_run {P : Program} {w : World} {ops : Array Oper} {o : Oper} {a : Act} {K : Act → World → Prop} {Q : Exit → Act → World → Prop} {E : Prop} (hgd : o.guard = none) (s x : Operand) (t tn : TypeId)
    (ho : o.op = .call { callee := .builtin .append, args := #[s, x], argTypes := #[t, tn] }) (vs vx : Value) (hs : a.eval s = vs) (hx : a.eval x = vx)
    (v' : Value) (w' : World) (hr : (Builtin.append_ #[t, tn] o.type #[vs, vx]).run P w = .ok v' w') (h : K (a.put o.dst v') w') :
    if Region.wanted o (yielded ops a.tmps) = true then Oper.wp P o a w K Q else E := by
  rw [if_pos (by simp [Region.wanted, hgd])]
  exact Lib.wp_append_run w s x t tn ho vs vx hs hx v' w' hr h

theorem step_run2 {P : Program} {w : World} {ops : Array Oper} {o : Oper} {a : Act} {K : Act → World → Prop} {Q : Exit → Act → World → Prop} {E : Prop} (hgd : o.guard = none) (s x : Operand) (t tn : TypeId)
    (ho : o.op = .call { callee := .builtin .append, args := #[s, x], argTypes := #[t, tn] }) (vs vx : Value) (hs : a.eval s = vs) (hx : a.eval x = vx)
    (h : ∃ v' w', (Builtin.append_ #[t, tn] o.type #[vs, vx]).run P w = .ok v' w' ∧ K (a.put o.dst v') w') :
    if Region.wanted o (yielded ops a.tmps) = true then Oper.wp P o a w K Q else E := by
  obtain ⟨v', w', hr, hk⟩ := h
  exact step_run hgd s x t tn ho vs vx hs hx v' w' hr hk

end Go.Proofs.Ytckbhhaigpajpaa

/- It is proved what the FamilyPut of the model returns; conditions: those of each statement. -/
namespace Go.Proofs.Ytckbhhaigpajpaa
open Go.RowKit

theorem step_run3 {P : Program} {w : World} {ops : Array Oper} {o : Oper} {a : Act} {K : Act → World → Prop} {Q : Exit → Act → World → Prop} {E : Prop} (s x : Operand) (t tn : TypeId) (vs vx : Value) (hgd : o.guard = none)
    (ho : o.op = .call { callee := .builtin .append, args := #[s, x], argTypes := #[t, tn] }) (hs : a.eval s = vs) (hx : a.eval x = vx)
    (h : ∃ v' w', (Builtin.append_ #[t, tn] o.type #[vs, vx]).run P w = .ok v' w' ∧ K (a.put o.dst v') w') :
    if Region.wanted o (yielded ops a.tmps) = true then Oper.wp P o a w K Q else E := step_run2 hgd s x t tn ho vs vx hs hx h

theorem app_run0 {w : World} {B : Nat} {v : Value} (h : OwnI w B v []) (hB : B ≤ w.heap.size) (a : Option Addr) (c : Nat) (zs : List Int) (hz : Ints w w.heap.size a zs) (_hn : 0 ≤ 1048576) (hzn : zs.length ≤ 1048576) :
    ∃ a' c' w', (Builtin.append_ #[23, 23] 23 #[v, .slice a zs.length c]).run Try.prog w = .ok (.slice a' zs.length c') w' ∧
      w'.ownsRow B 3 1 (.slice a' zs.length c') zs.length (zs.map (Value.int .i64)) ∧ w.grownBy w' v.ownBlock := by
  have := app_run (n := 0) (xs := []) h hB a c zs hz (by omega) hzn
  simpa using this

theorem one_blk {w : World} {x : Int} {b : Nat} (h : w.heap[b]? = some (.cells #[.int .i64 x] 3 (0, 0))) : Ints w w.heap.size (some ⟨b, 0, none⟩) [x] := by
  refine .inr ⟨b, 0, rfl, lt_of_some h, fun j hj => ?_⟩
  obtain rfl : j = 0 := by simpa using hj
  exact blk_cell h 0

theorem one_ints0 (w : World) (x : Int) : Ints (w.alloc (.cells #[.int .i64 x] 3)) (w.alloc (.cells #[.int .i64 x] 3)).heap.size (some ⟨w.heap.size, 0, none⟩) [x] := one_blk (alloc_new w _)
end Go.Proofs.Ytckbhhaigpajpaa

/- It is proved how rows of ints of the call's own are read and kept; conditions: those of each statement. -/
namespace Go.Proofs.Ytckbhhaigpajpaa
open Go.RowKit Go.Shelf

theorem ownsRow_below {w w' : World} {B n : Nat} {v : Value} {xs : List Value} (h : w.ownsRow B 3 1 v n xs) (hb : Below w.heap.size w w') : w'.ownsRow B 3 1 v n xs :=
  World.ownsRow.kept h (only_of_below hb none) (by cases v.ownBlock <;> simp)

theorem OwnN.cap_le {w : World} {B : Nat} {a : Option Addr} {n cap : Nat} {zs : List Int} (h : OwnN w B a n cap zs) : n ≤ cap := by
  rcases h.2 with ⟨e, hn⟩ | ⟨g, c, cur, e, hb, hg, hc, _⟩
  · omega
  · injection e with e1 e2 e3
    omega

theorem OwnN.len {w : World} {B : Nat} {a : Option Addr} {n cap : Nat} {zs : List Int} (h : OwnN w B a n cap zs) : zs.length = n := by
  have := h.1; simpa using this

theorem OwnN.ints {w : World} {B : Nat} {a : Option Addr} {n cap : Nat} {zs : List Int} (h : OwnN w B a n cap zs) : Ints w w.heap.size a zs := by
  have hl := h.len
  subst hl
  exact own_ints (n := zs.length) (cap := cap) (B := B) h

theorem OwnN.base {w : World} {B B' : Nat} {a : Option Addr} {n cap : Nat} {zs : List Int} (h : OwnN w B a n cap zs) (hB : B' ≤ B) : OwnN w B' a n cap zs := ownsRow_base h hB
theorem OwnN.below {w w' : World} {B : Nat} {a : Option Addr} {n cap : Nat} {zs : List Int} (h : OwnN w B a n cap zs) (hb : Below w.heap.size w w') : OwnN w' B a n cap zs := ownsRow_below h hb
theorem OwnN.ne {w : World} {B : Nat} {a : Option Addr} {n cap : Nat} {zs : List Int} (h : OwnN w B a n cap zs) {b : Nat} (hb : b < B ∨ w.heap.size ≤ b) : (Value.slice a n cap).ownBlock ≠ some b := by
  intro e
  have := World.ownsRow.lt h b e
  omega

theorem OwnN.cell {w : World} {B g n cap : Nat} {ys : List Int} (h : OwnN w B (some ⟨g, 0, none⟩) n cap ys) {j : Nat} (hj : j < n) : w.cell? ⟨g, j, none⟩ = some (.int .i64 (ys[j]?.getD 0)) := by
  have hl := h.len
  have := World.ownsRow.cellAt h j (by omega)
  rw [this]; simp [show j < ys.length by omega]

theorem OwnN.cellz {w : World} {B g n cap : Nat} {ys : List Int} (h : OwnN w B (some ⟨g, 0, none⟩) n cap ys) {j : Nat} (hj : j < n) : w.cell? ⟨g, j, none⟩ = some (.int .i64 (ys[j]?.getD 0)) := h.cell hj
end Go.Proofs.Ytckbhhaigpajpaa
