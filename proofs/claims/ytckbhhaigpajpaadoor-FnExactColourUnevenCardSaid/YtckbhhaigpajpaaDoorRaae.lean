/- It is proved how the library's table is kept, and how the members of a set are counted; conditions: those of each statement. -/
import Derived.Shelf.Spec.TrailingZeros
import Derived.Test.YtckbhhaigpajpaaDoorRows
import Derived.WalkKit
import Derived.WalkSpells
import Derived.ProofKit
import Derived.OpenShut
import Derived.ShutString
import Derived.ChangeOld
import Derived.Below
import Derived.Deep.RegionHeld3
import Derived.Deep.QuietTactic
import Derived.BigQuiet
import Derived.Lib.Hide
import Derived.Lib.SmallJoins
import Derived.Outline
import Derived.Laws.MakeOwn
import Derived.Laws.OwnMore
import Derived.IntWalk
import Derived.RangeFuncNested
import Derived.RangeFuncBound
import Derived.RangeFuncCalls
import Derived.RangeFuncLeaves
import Derived.RangeFuncBox
import Derived.Shelf.Abstract
import Derived.Shelf.RegionOpen
import Derived.OwnWalkIn
import Derived.TacticsInMore
import Derived.LoopNIn
import Derived.LoopIn
import Derived.Maps.AppendAt
import Derived.RowKit
import Derived.RangeFuncWrites
import Derived.Laws.CopyRow
import Derived.Lib.SlBuf
import Derived.StillTailTactics
import Derived.Deep.AppendLies
import Derived.OwnWalk
import Derived.StillTail
import Derived.StillTactics
import Derived.OrdersIn
import Derived.TacticsIn
namespace Go.Proofs.YtckbhhaigpajpaaDoor
open Go.RowKit

/-- The library's table lies in its variable. -/
def Tab (w : World) : Prop := TabAt 1 Lib.deBruijn64tab w

theorem Tab.lt {w : World} (h : Tab w) : 1 < w.heap.size := World.block_lt_of_cell? w _ (h 0 (by decide))
theorem Tab.below {B : Nat} {w w' : World} (h : Tab w) (hb : Below B w w') (hB : 1 < B) : Tab w' := fun j hj => (hb.cell (p := ⟨1, j, none⟩) hB).trans (h j hj)
theorem Tab.step {w w' : World} (h : Tab w) (hb : Below w.heap.size w w') : Tab w' := h.below hb h.lt
/-- The members of a set. -/
def mem (s : Nat) : List Nat := (List.range 6).filter fun i => s.testBit i

set_option maxRecDepth 100000 in
theorem mem_cons : ∀ s, s < 64 → s ≠ 0 → mem s = Lib.ctz 64 s :: mem (s &&& (s - 1)) := by decide +kernel

set_option maxRecDepth 100000 in
theorem mem_count : ∀ s, s < 64 → ∀ v, v < 6 → (mem s).count v = (s >>> v) &&& 1 := by decide +kernel

theorem mem_zero : mem 0 = [] := by decide
theorem mem_length : ∀ s, s < 64 → (mem s).length ≤ 6 := by decide +kernel
theorem mem_lt : ∀ m, m ≤ 6 → ∀ s, s < 2 ^ m → ∀ v ∈ mem s, v < m := by decide +kernel
/-- How often each of 0, .., m - 1 stands in a list. -/
def degL (m : Nat) (us : List Nat) : List Int := (List.range m).map fun v => ((us.count v : Nat) : Int)

theorem degL_length (m : Nat) (us : List Nat) : (degL m us).length = m := by simp [degL]
theorem degL_at (m : Nat) (us : List Nat) (v : Nat) (h : v < m) : (degL m us)[v]? = some ((us.count v : Nat) : Int) := by simp [degL, h]
theorem degL_nil (m : Nat) : degL m [] = List.replicate m 0 := by
  apply List.ext_getElem <;> simp [degL]

theorem degL_snoc (m : Nat) (us : List Nat) (u : Nat) : degL m (us ++ [u]) = (degL m us).set u (((us.count u : Nat) : Int) + 1) := by
  apply List.ext_getElem
  · simp [degL]
  · intro i h1 h2
    have hi : i < m := by simpa [degL] using h1
    simp only [degL, List.getElem_map, List.getElem_range, List.getElem_set]
    by_cases h : u = i
    · subst h; simp
    · simp [h]
      

end Go.Proofs.YtckbhhaigpajpaaDoor

/- It is proved what TrailingZeros returns and what the iterator over a set's members yields; conditions: those of each statement. -/
namespace Go.Proofs.YtckbhhaigpajpaaDoor
open Go.RowKit Go.Shelf

attribute [local go_sem] Oper.semAt_some

set_option maxHeartbeats 1000000 in
theorem tz64_coreD (x k idx : Nat) (w : World) (hx0 : ((x : Int) == 0) = false)
    (key : IntKind.u64.wrap (bits BinOp.and IntKind.u64 (x : Int) (IntKind.u64.wrap (-(x : Int))) * 285870213051353865) / 288230376151711744 = (idx : Int))
    (hi : idx < 64) (hk : k < 64) (hcell : w.cell? ⟨1, idx, none⟩ = some (.int .u8 k)) :
    Calls Tryd.prog 110 #[.int .u64 x] w fun e w' => e = .returned (.int .i64 k) ∧ w = w' := by
  go_enter Tryd.func110, Tryd.ntmps110
  go_wp2_with (simp only [key])
  go_ret
  exact ⟨rfl, rfl⟩

theorem tz_any (x : Nat) (hx0 : x ≠ 0) (hx : x < 64) (w : World) (hT : Tab w) :
    Calls Tryd.prog 97 #[.int .u64 x] w fun e w' => e = .returned (.int .i64 (Lib.ctz 64 x : Nat)) ∧ w = w' := by
  obtain ⟨hlow, hk⟩ := Lib.lowest_bit 64 x hx0 (by omega)
  obtain ⟨hi, htab⟩ := Lib.deBruijn64_at _ hk
  have hcell := hT _ hi
  rw [htab] at hcell
  have H := tz64_coreD x _ _ w (by simp; omega) (tz64_key x _ (by omega) hx0 hlow) hi hk hcell
  clear hT hcell htab hi hlow
  go_enter Tryd.func97, Tryd.ntmps97
  go_wp2_with (go_at_call 110; refine H.mono ?_; rintro e w' ⟨rfl, rfl⟩)
  go_ret
  exact ⟨rfl, rfl⟩

/-- c.members(): the set is boxed; the function value holds the box. -/
theorem members_any (s : Int) (w : World) :
    Calls Tryd.prog 72 #[.int .i64 s] w fun e w' => e = .returned (.func (.func 96) #[] #[.pointer (some ⟨w.heap.size, 0, none⟩)]) ∧ w' = w.alloc (.cells #[.int .i64 s] 41) := by
  have hmf : ∀ (fn : Fn) (first cap : Array Value) (w : World), (Instr.makeFunc fn first cap).run Tryd.prog w = .ok (.func fn first cap) w := fun _ _ _ _ => rfl
  go_enter Tryd.func72, Tryd.ntmps72
  go_wp2
  go_ret
  exact ⟨rfl, rfl⟩

theorem low_and (t : Nat) (h0 : t ≠ 0) (h : t < 64) : bits BinOp.and IntKind.u64 (t : Int) ((t : Int) - 1) = ((t &&& (t - 1) : Nat) : Int) := by
  rw [show (t : Int) - 1 = ((t - 1 : Nat) : Int) from by omega, bits_and_u64_nat t _ (by omega) (by omega)]

end Go.Proofs.YtckbhhaigpajpaaDoor

/- It is proved what the iterator over a set's members yields, each member known to be one; conditions: those of each statement. -/
namespace Go.Proofs.YtckbhhaigpajpaaDoor
open Go.RowKit Go.Shelf

attribute [local go_sem] Oper.semAt_some

/-- A member of s. -/
abbrev MemS (s : Nat) := { v : Nat // v ∈ mem s }

def valsS {s : Nat} (ys : List (MemS s)) : List Nat := ys.map (·.1)
theorem valsS_snoc {s : Nat} (ys : List (MemS s)) (y : MemS s) : valsS (ys ++ [y]) = valsS ys ++ [y.1] := by simp [valsS]
set_option maxRecDepth 100000 in
set_option maxHeartbeats 2000000 in
theorem membersS1_in (n : Nat) (hn : 1 ≤ n) (l Bs n₀ s : Nat) (hs64 : s < 64) (J Jx : List (MemS s) → World → Prop)
    (hY : ∀ pre x W, J pre W → pre.length < 6 → YieldAt Fence.wide (n - 1) Tryd.prog l #[.int .i64 (x.1 : Int)] W fun e W' =>
      (e = .returned (.bool true) ∧ J (pre ++ [x]) W' ∧ Below n₀ W W') ∨ (e = .returned (.bool false) ∧ Jx (pre ++ [x]) W'))
    (W : World) (hBs : W.cell? ⟨Bs, 0, none⟩ = some (.int .i64 (s : Int))) (hT : Tab W) (hn0 : 1 < n₀) (h0 : J [] W) :
    CallsIn Fence.wide n Tryd.prog 96 #[.func (.yield l) #[] #[], .pointer (some ⟨Bs, 0, none⟩)] W fun e W' => (∃ v, e = .returned v) ∧
      ((∃ ys, valsS ys = mem s ∧ J ys W') ∨ (∃ pre, valsS pre <+: mem s ∧ Jx pre W')) := by
  have hss : (s : Int) < 64 := by omega
  refine callsIn_of_wp Tryd.func96 rfl trivial ?_ rfl
  simp only [Tryd.ntmps96, List.size_toArray, List.length_cons, List.length_nil, Nat.reduceAdd, Nat.reduceSub, Array.replicate_succ, Array.replicate_zero, List.push_toArray, List.append_toArray, List.nil_append, List.cons_append]
  gi_wp2
  gi_loopw [3] (fun r wr => ∃ (t : Nat) (pre : List (MemS s)), t < 64 ∧ valsS pre ++ mem t = mem s ∧ r = .int .u64 (t : Int) ∧ J pre wr ∧ Below n₀ W wr)
    (fun r _ => (intOf r).toNat)
  case atStart => exact ⟨s, [], hs64, by simp [valsS], rfl, h0, Below.refl _ _⟩
  case round =>
    obtain ⟨t, pre, ht, hpre, rfl, hJs, hnx⟩ := hrel
    by_cases h0 : t = 0
    · subst h0
      rw [mem_zero, List.append_nil] at hpre
      gi_wp2
      go_end0
      exact ⟨⟨_, rfl⟩, .inl ⟨pre, hpre, hJs⟩⟩
    · have hc := mem_cons t ht h0
      rw [hc] at hpre
      have hk : Lib.ctz 64 t ∈ mem s := by rw [← hpre]; simp
      have hlen : pre.length < 6 := by
        have h1 := mem_length s hs64
        rw [← hpre] at h1
        simp [valsS] at h1
        omega
      have HA := Lib.hid (low_and t h0 ht)
      have hT2 : Tab wr := hT.below hnx hn0
      have hpre' : valsS (pre ++ [(⟨Lib.ctz 64 t, hk⟩ : MemS s)]) ++ mem (t &&& (t - 1)) = mem s := (by rw [valsS_snoc, List.append_assoc]; exact hpre)
      have hlt : t &&& (t - 1) < t := by have := @Nat.and_le_right t (t - 1); omega
      obtain ⟨fn, tmps, assign, body, hy, hR⟩ := hY _ ⟨Lib.ctz 64 t, hk⟩ wr hJs hlen
      dsimp only at hy
      have ht0 : (0 : Int) < (t : Int) := by omega
      clear hc hpre
      gi_wp2
      refine ⟨trivial, (callsIn_wide.2 (tz_any t h0 ht _ hT2)).mono ?_⟩
      rintro e w' ⟨rfl, rfl⟩
      gi_wp2
      refine hR.mono ?_
      rintro e W3 (⟨rfl, hJ3, hk3⟩ | ⟨rfl, hJx3⟩)
      · gi_wp2
        go_roundw
        case rel => exact ⟨t &&& (t - 1), _, by omega, hpre', by rw [HA.out], hJ3, hnx.trans hk3⟩
        case measure => rw [HA.out]; simp only [intOf]; omega
      · gi_wp2
        refine bodyPost_ret (results_none rfl _ _ _) rfl ?_
        exact ⟨⟨_, rfl⟩, .inr ⟨_, ⟨mem (t &&& (t - 1)), hpre'⟩, hJx3⟩⟩

theorem membersS_stops (n : Nat) (hn : 1 ≤ n) (Bs n₀ s : Nat) (hs : s < 64) (w : World) (hBs : Bs < w.heap.size) (hn₀ : n₀ ≤ w.heap.size) (hn1 : 1 < n₀)
    (hc : w.cell? ⟨Bs, 0, none⟩ = some (.int .i64 (s : Int))) (hT : Tab w) :
    SeqStopsK Fence.wide n Tryd.prog 96 #[.pointer (some ⟨Bs, 0, none⟩)] (fun x : MemS s => #[Value.int .i64 (x.1 : Int)]) (Below n₀) (fun ys => valsS ys = mem s)
      (fun pre => valsS pre <+: mem s) 6 w := fun l J Jx W hW _ _ hY h0 =>
  membersS1_in n hn l Bs n₀ s hs J Jx hY W ((hW.cell (p := ⟨Bs, 0, none⟩) hBs).trans hc) (hT.below hW (by omega)) hn1 h0

theorem yield_any {m : Nat} (m' : Nat) {P : Program} {l : Nat} {args : Array Value} {W : World} {R : Ending → World → Prop} (h : YieldAt Fence.wide m P l args W R) : YieldAt Fence.wide m' P l args W R := by
  obtain ⟨fn, tmps, assign, body, hy, hR⟩ := h
  exact ⟨fn, tmps, assign, body, hy, hR.1, fun c cs _ => hR.2 c cs (room_wide _)⟩

end Go.Proofs.YtckbhhaigpajpaaDoor

/- It is proved what allNames yields; conditions: those of each statement. -/
namespace Go.Proofs.YtckbhhaigpajpaaDoor
open Go.RowKit Go.Shelf

theorem store_new (w : World) (n : Nat) (hn : n = w.heap.size) (u v : Value) (t : TypeId) (hv : v.oneCell' = true) : (store ⟨n, 0, none⟩ v).run Tryd.prog (w.alloc (.cells #[u] t)) = .ok () (w.alloc (.cells #[v] t)) := by
  subst hn
  have q : Boxed (w.alloc (.cells #[u] t)) w.heap.size t u := Boxed.new w t u
  rw [run_store _ _ _ _ _ hv, q.cell]
  simp only [q.frozen]
  rw [World.setCell_alloc_new]
  rfl

end Go.Proofs.YtckbhhaigpajpaaDoor
