/- It is proved what the iterator over a set's parts yields; conditions: those of each statement. -/
import Derived.RowKit
import Derived.RangeFuncNested
import Derived.RangeFuncBound
import Derived.RangeFuncCalls
import Derived.RangeFuncLeaves
import Derived.RangeFuncBox
import Derived.RangeFuncWrites
import Derived.Test.YtbiggilheicfjaaDoorRows
import Derived.WalkKit
import Derived.WalkSpells
import Derived.ProofKit
import Derived.OpenShut
import Derived.ShutString
import Derived.ChangeOld
import Derived.Below
import Derived.Deep.RegionHeld3
import Derived.Deep.QuietTactic
import Derived.BigQuiet
import Derived.Lib.Hide
import Derived.Lib.SmallJoins
import Derived.Outline
import Derived.Laws.MakeOwn
import Derived.Laws.OwnMore
import Derived.IntWalk
import Derived.Shelf.Abstract
import Derived.Shelf.RegionOpen
import Derived.OwnWalkIn
import Derived.TacticsInMore
import Derived.LoopNIn
import Derived.LoopIn
import Derived.Maps.AppendAt
import Derived.Shelf.Spec.TrailingZeros
namespace Go.Proofs.YtbiggilheicfjaaDoor
open Go.RowKit Go.Shelf

attribute [local go_sem] Oper.semAt_some

/-- The parts of a set, in order. -/
def prtL (c : Nat) : List Nat := (List.range 64).filter fun s => s &&& c == s

def fromP (c t : Nat) : List Nat := (List.range 64).filter fun s => decide (t ≤ s) && (s &&& c == s)
def nxtP (c t : Nat) : Nat := (t + 64 - c) &&& c
theorem from_zero (c : Nat) : fromP c 0 = prtL c := by simp [fromP, prtL]
set_option maxRecDepth 100000 in
theorem next_fin : ∀ c t : Fin 64, t.val &&& c.val = t.val → t.val ≠ c.val → bits .and .i64 ((t.val : Int) - (c.val : Int)) (c.val : Int) = (nxtP c.val t.val : Int) ∧ nxtP c.val t.val < 64 ∧ t.val < nxtP c.val t.val ∧ nxtP c.val t.val &&& c.val = nxtP c.val t.val := by decide +kernel

set_option maxRecDepth 100000 in
theorem from_fin : ∀ c t : Fin 64, t.val &&& c.val = t.val → t.val ≠ c.val → fromP c.val t.val = t.val :: fromP c.val (nxtP c.val t.val) := by decide +kernel

set_option maxRecDepth 100000 in
theorem from_last : ∀ c : Fin 64, fromP c.val c.val = [c.val] := by decide +kernel

theorem prt_len (c : Nat) : (prtL c).length ≤ 64 := by unfold prtL; exact Nat.le_trans (List.length_filter_le _ _) (by simp)
/-- A part of c. -/
abbrev PrtS (c : Nat) := { s : Nat // s < 64 ∧ s &&& c = s }

def valsP {c : Nat} (ys : List (PrtS c)) : List Nat := ys.map (·.1)
theorem valsP_snoc {c : Nat} (ys : List (PrtS c)) (y : PrtS c) : valsP (ys ++ [y]) = valsP ys ++ [y.1] := by simp [valsP]
/-- What a round must keep: the cell with the set. -/
def CellK (Bs : Nat) (v : Value) (A B : World) : Prop := A.cell? ⟨Bs, 0, none⟩ = some v → B.cell? ⟨Bs, 0, none⟩ = some v

set_option maxRecDepth 100000 in
set_option maxHeartbeats 2000000 in
theorem parts1_in (n : Nat) (hn : 1 ≤ n) (l Bs c : Nat) (hc64 : c < 64) (J Jx : List (PrtS c) → World → Prop)
    (hY : ∀ pre x W, J pre W → pre.length < 64 → YieldAt Fence.wide (n - 1) Tryd.prog l #[.int .i64 (x.1 : Int)] W fun e W' =>
      (e = .returned (.bool true) ∧ J (pre ++ [x]) W' ∧ CellK Bs (.int .i64 (c : Int)) W W') ∨ (e = .returned (.bool false) ∧ Jx (pre ++ [x]) W'))
    (W : World) (hBs : W.cell? ⟨Bs, 0, none⟩ = some (.int .i64 (c : Int))) (h0 : J [] W) :
    CallsIn Fence.wide n Tryd.prog 128 #[.func (.yield l) #[] #[], .pointer (some ⟨Bs, 0, none⟩)] W fun e W' => (∃ v, e = .returned v) ∧
      ((∃ ys, valsP ys = prtL c ∧ J ys W') ∨ (∃ pre, valsP pre <+: prtL c ∧ Jx pre W')) := by
  have hcs : (c : Int) < 64 := by omega
  refine callsIn_of_wp Tryd.func128 rfl trivial ?_ rfl
  simp only [Tryd.ntmps128, List.size_toArray, List.length_cons, List.length_nil, Nat.reduceAdd, Nat.reduceSub, Array.replicate_succ, Array.replicate_zero, List.push_toArray, List.append_toArray, List.nil_append, List.cons_append]
  gi_wp2
  gi_loopw [3] (fun r wr => ∃ (t : Nat) (pre : List (PrtS c)), t < 64 ∧ t &&& c = t ∧ valsP pre ++ fromP c t = prtL c ∧ r = .int .i64 (t : Int) ∧ J pre wr ∧ wr.cell? ⟨Bs, 0, none⟩ = some (.int .i64 (c : Int)))
    (fun r _ => 64 - (intOf r).toNat)
  case atStart => exact ⟨0, [], by decide, by simp, by rw [from_zero]; rfl, rfl, h0, hBs⟩
  case round =>
    obtain ⟨t, pre, ht, htc, hpre, rfl, hJs, hcl⟩ := hrel
    have hlen : pre.length < 64 := by
      have h1 := prt_len c
      rw [← hpre, List.length_append] at h1
      have h2 : 1 ≤ (fromP c t).length := by
        by_cases e : t = c
        · subst e; rw [from_last ⟨t, ht⟩]; simp
        · rw [from_fin ⟨c, hc64⟩ ⟨t, ht⟩ htc e]; simp
      simp [valsP] at h1
      omega
    obtain ⟨x, hx⟩ : ∃ x : PrtS c, x.1 = t := ⟨⟨t, ht, htc⟩, rfl⟩
    have HPX : Hid (valsP (pre ++ [x]) <+: prtL c) := Lib.hid (by
      rw [valsP_snoc, hx, ← hpre]
      by_cases e : t = c
      · subst e; rw [from_last ⟨t, ht⟩]; exact List.prefix_refl _
      · rw [from_fin ⟨c, hc64⟩ ⟨t, ht⟩ htc e]; exact ⟨fromP c (nxtP c t), by simp⟩)
    obtain ⟨fn, tmps, assign, body, hy, hR⟩ := hY _ x wr hJs hlen
    rw [hx] at hy
    have HX := Lib.hid hx
    clear hx
    have HT := Lib.hid htc
    have HPRE := Lib.hid hpre
    have HC := Lib.hid hcl
    clear htc hpre
    have ht0 : (0 : Int) ≤ (t : Int) := by omega
    have ht1 : (t : Int) < 64 := by omega
    gi_wp2
    refine hR.mono ?_
    rintro e W3 (⟨rfl, hJ3, hk3⟩ | ⟨rfl, hJx3⟩)
    · have hc3 := hk3 HC.out
      clear hk3
      by_cases e : t = c
      · subst e
        have hP : Hid (valsP (pre ++ [x]) = prtL t) := Lib.hid (by have := HPRE.out; rw [from_last ⟨t, ht⟩] at this; rw [valsP_snoc, HX.out]; exact this)
        gi_wp2
        go_end0
        exact ⟨⟨_, rfl⟩, .inl ⟨_, hP.out, hJ3⟩⟩
      · obtain ⟨h1, h2, h3, h4⟩ := next_fin ⟨c, hc64⟩ ⟨t, ht⟩ HT.out e
        have hP : Hid (valsP (pre ++ [x]) ++ fromP c (nxtP c t) = prtL c) := Lib.hid (by
          have := HPRE.out
          rw [from_fin ⟨c, hc64⟩ ⟨t, ht⟩ HT.out e] at this
          rw [valsP_snoc, HX.out, List.append_assoc]; exact this)
        have h1' : bits BinOp.and IntKind.i64 ((t : Int) - (c : Int)) (c : Int) = (nxtP c t : Int) := h1
        have HN := Lib.hid h1'
        have H4 := Lib.hid h4
        have heI : ((t : Int) == (c : Int)) = false := by simp; omega
        have hc0 : (0 : Int) ≤ (c : Int) := by omega
        have h2' : nxtP c t < 64 := h2
        have h3' : t < nxtP c t := h3
        clear h1 h1' h4 h2 h3
        gi_wp2
        go_roundw
        case rel => exact ⟨nxtP c t, _, h2', H4.out, hP.out, by rw [HN.out], hJ3, hc3⟩
        case measure => rw [HN.out]; simp only [intOf]; omega
    · gi_wp2
      go_end0
      exact ⟨⟨_, rfl⟩, .inr ⟨_, HPX.out, hJx3⟩⟩

theorem parts_stops (n : Nat) (hn : 1 ≤ n) (Bs c : Nat) (hc : c < 64) (w : World) (hBs : Bs < w.heap.size) (hcl : w.cell? ⟨Bs, 0, none⟩ = some (.int .i64 (c : Int))) :
    SeqStopsK Fence.wide n Tryd.prog 128 #[.pointer (some ⟨Bs, 0, none⟩)] (fun x : PrtS c => #[Value.int .i64 (x.1 : Int)]) (CellK Bs (.int .i64 (c : Int))) (fun ys => valsP ys = prtL c)
      (fun pre => valsP pre <+: prtL c) 64 w := fun l J Jx W hW _ _ hY h0 =>
  parts1_in n hn l Bs c hc J Jx hY W ((hW.cell (p := ⟨Bs, 0, none⟩) hBs).trans hcl) h0

set_option maxRecDepth 100000 in
theorem parts_any (c : Nat) (w : World) : Calls Tryd.prog 97 #[.int .i64 (c : Int)] w fun e w' => e = .returned (.func (.func 128) #[] #[.pointer (some ⟨w.heap.size, 0, none⟩)]) ∧ w' = w.alloc (.cells #[.int .i64 (c : Int)] 63) := by
  go_enter Tryd.func97, Tryd.ntmps97
  go_wp2
  go_ret
  exact ⟨rfl, rfl⟩

end Go.Proofs.YtbiggilheicfjaaDoor
