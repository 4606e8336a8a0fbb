/- It is proved what the iterators over the members and the parts of a set of places yield; conditions: those of each statement. -/
import Derived.RowKit
import Derived.RangeFuncNested
import Derived.RangeFuncBound
import Derived.RangeFuncCalls
import Derived.RangeFuncLeaves
import Derived.RangeFuncBox
import Derived.RangeFuncWrites
import Derived.Test.YtlfbpaphjkbcmaaRows
import Derived.WalkKit
import Derived.WalkSpells
import Derived.ProofKit
import Derived.OpenShut
import Derived.ShutString
import Derived.ChangeOld
import Derived.Below
import Derived.Deep.RegionHeld3
import Derived.Deep.QuietTactic
import Derived.BigQuiet
import Derived.Lib.Hide
import Derived.Lib.SmallJoins
import Derived.Outline
import Derived.Laws.MakeOwn
import Derived.Laws.OwnMore
import Derived.IntWalk
import Derived.Deep.RegionLaw
import Derived.Deep.AppendLies
import Derived.Lib.AppendZeros
import Derived.Maps.AppendAt
import Derived.OwnWalk
import Derived.Lib.SlicesCompact
import Derived.Lib.OwnBridge
import Derived.Shelf.Sort.Plain
import Derived.Shelf.Slices.In.SortNone
import Derived.Shelf.Slices.CompactI
import Derived.Ground.Names2Prog
import Derived.Lib.SliceRun
import Derived.Shelf.Abstract
import Derived.Shelf.RegionOpen
import Derived.OwnWalkIn
import Derived.TacticsInMore
import Derived.LoopNIn
import Derived.LoopIn
import Derived.Shelf.Spec.TrailingZeros
import Derived.StillTailTactics
import Derived.Test.YtlfbpaphjkbcmaaEm
import Derived.Test.YtlfbpaphjkbcmaaKb
namespace Go.Proofs.Ytlfbpaphjkbcmaa
open Go.RowKit Go.Shelf

attribute [local go_sem] Oper.semAt_some

theorem memK_len (k s : Nat) : (memK k s).length ≤ k := by unfold memK; exact Nat.le_trans (List.length_filter_le _ _) (by simp)
/-- A number below N. -/
abbrev PrtF (N : Nat) := { s : Nat // s < N }

def valsF {N : Nat} (ys : List (PrtF N)) : List Nat := ys.map (·.1)
theorem valsF_snoc {N : Nat} (ys : List (PrtF N)) (y : PrtF N) : valsF (ys ++ [y]) = valsF ys ++ [y.1] := by simp [valsF]
set_option maxRecDepth 100000 in
theorem nextF_fin : ∀ k : Fin 9, ∀ t : Fin 256, t.val < 2 ^ k.val - 1 → bits .and .i64 ((t.val : Int) - (2 ^ k.val - 1)) (2 ^ k.val - 1) = (t.val : Int) + 1 := by decide +kernel

theorem full_lt {k : Nat} (hk : k ≤ 8) : 1 ≤ 2 ^ k ∧ 2 ^ k ≤ 256 := ⟨Nat.one_le_two_pow, Nat.pow_le_pow_right (n := 2) (by decide) hk⟩
theorem cast_full (k : Nat) : ((2 ^ k - 1 : Nat) : Int) = 2 ^ k - 1 := by
  have : 1 ≤ 2 ^ k := Nat.one_le_two_pow
  have h2 : ((2 ^ k : Nat) : Int) = (2 : Int) ^ k := by norm_cast
  omega

set_option maxRecDepth 100000 in
set_option maxHeartbeats 2000000 in
theorem partsF1_in (n : Nat) (hn : 1 ≤ n) (l Bs k N : Nat) (hN : N = 2 ^ k) (hk8 : k ≤ 8) (c : Int) (hc : c = ((2 ^ k - 1 : Nat) : Int)) (J Jx : List (PrtF N) → World → Prop)
    (hY : ∀ pre x W, J pre W → pre.length < N → valsF pre = List.range x.1 → YieldAt Fence.wide (n - 1) Try.prog l #[.int .i64 (x.1 : Int)] W fun e W' =>
      (e = .returned (.bool true) ∧ J (pre ++ [x]) W' ∧ CellK Bs (.int .i64 c) W W') ∨ (e = .returned (.bool false) ∧ Jx (pre ++ [x]) W'))
    (W : World) (hBs : W.cell? ⟨Bs, 0, none⟩ = some (.int .i64 c)) (h0 : J [] W) :
    CallsIn Fence.wide n Try.prog 48 #[.func (.yield l) #[] #[], .pointer (some ⟨Bs, 0, none⟩)] W fun e W' => (∃ v, e = .returned v) ∧
      ((∃ ys, valsF ys = List.range N ∧ J ys W') ∨ (∃ pre, (∃ j, j ≤ N ∧ valsF pre = List.range j) ∧ Jx pre W')) := by
  obtain ⟨hk1, hk2⟩ := full_lt hk8
  have hcN : c = (N : Int) - 1 := by rw [hc, ← hN]; omega
  have HNX : Hid (∀ t : Nat, t < N - 1 → bits .and .i64 ((t : Int) - c) c = (t : Int) + 1) := Lib.hid (fun t ht => by
    have h := nextF_fin ⟨k, by omega⟩ ⟨t, by omega⟩ (by rw [← hN]; exact ht)
    have e : (2 : Int) ^ k - 1 = c := by rw [hc, cast_full]
    simp only [e] at h
    exact h)
  have hcA : c ≤ (N : Int) - 1 := by omega
  have hcB : (N : Int) - 1 ≤ c := by omega
  have HNK := Lib.hid hN
  rw [← hN] at hk1 hk2
  clear hN hc hcN
  refine callsIn_of_wp Try.func48 rfl trivial ?_ rfl
  simp only [Try.ntmps48, List.size_toArray, List.length_cons, List.length_nil, Nat.reduceAdd, Nat.reduceSub, Array.replicate_succ, Array.replicate_zero, List.push_toArray, List.append_toArray, List.nil_append, List.cons_append]
  gi_wp2
  gi_loopw [3] (fun r wr => ∃ (t : Nat) (pre : List (PrtF N)), t < N ∧ valsF pre = List.range t ∧ r = .int .i64 (t : Int) ∧ J pre wr ∧ wr.cell? ⟨Bs, 0, none⟩ = some (.int .i64 c))
    (fun r _ => N - (intOf r).toNat)
  case atStart => exact ⟨0, [], by omega, rfl, rfl, h0, hBs⟩
  case round =>
    obtain ⟨t, pre, ht, hpre, rfl, hJs, hcl⟩ := hrel
    have hlen : pre.length < N := by
      have := congrArg List.length hpre
      simp [valsF] at this
      omega
    obtain ⟨x, hx⟩ : ∃ x : PrtF N, x.1 = t := ⟨⟨t, ht⟩, rfl⟩
    have HPX : Hid (valsF (pre ++ [x]) = List.range (t + 1)) := Lib.hid (by rw [valsF_snoc, hx, hpre, List.range_succ])
    obtain ⟨fn, tmps, assign, body, hy, hR⟩ := hY _ x wr hJs hlen (by rw [hx]; exact hpre)
    rw [hx] at hy
    have HX := Lib.hid hx
    have HC := Lib.hid hcl
    clear hx hpre
    have ht0 : (0 : Int) ≤ (t : Int) := by omega
    have ht1 : (t : Int) < 256 := by omega
    have hc0 : (0 : Int) ≤ c := by omega
    have hc1 : c < 256 := by omega
    gi_wp2
    refine hR.mono ?_
    rintro e W3 (⟨rfl, hJ3, hk3⟩ | ⟨rfl, hJx3⟩)
    · have hc3 := hk3 HC.out
      clear hk3
      by_cases e : t + 1 = N
      · have heI : ((t : Int) == c) = true := by rw [beq_iff_eq]; omega
        have HE := Lib.hid e
        clear e
        gi_wp2
        go_end0
        exact ⟨⟨_, rfl⟩, .inl ⟨_, by rw [HPX.out, HE.out], hJ3⟩⟩
      · have heI : ((t : Int) == c) = false := by rw [beq_eq_false_iff_ne]; omega
        have HN1 := Lib.hid (HNX.out t (by omega))
        have HT1 : Hid (t + 1 < N) := Lib.hid (by omega)
        clear e
        gi_wp2
        go_roundw
        case rel => exact ⟨t + 1, _, HT1.out, HPX.out, by rw [HN1.out]; rfl, hJ3, hc3⟩
        case measure => rw [HN1.out]; have := HT1.out; simp only [intOf]; omega
    · gi_wp2
      go_end0
      exact ⟨⟨_, rfl⟩, .inr ⟨_, ⟨t + 1, by omega, HPX.out⟩, hJx3⟩⟩

theorem partsF_stops (n : Nat) (hn : 1 ≤ n) (Bs k : Nat) (hk8 : k ≤ 8) (c : Int) (hc : c = ((2 ^ k - 1 : Nat) : Int)) (w : World) (hBs : Bs < w.heap.size) (hcl : w.cell? ⟨Bs, 0, none⟩ = some (.int .i64 c)) :
    SeqStopsK Fence.wide n Try.prog 48 #[.pointer (some ⟨Bs, 0, none⟩)] (fun x : PrtF (2 ^ k) => #[Value.int .i64 (x.1 : Int)]) (CellK Bs (.int .i64 c)) (fun ys => valsF ys = List.range (2 ^ k))
      (fun pre => ∃ j, j ≤ 2 ^ k ∧ valsF pre = List.range j) (2 ^ k) w := fun l J Jx W hW _ _ hY h0 =>
  partsF1_in n hn l Bs k (2 ^ k) rfl hk8 c hc J Jx (fun pre x W h1 h2 _ => hY pre x W h1 h2) W ((hW.cell (p := ⟨Bs, 0, none⟩) hBs).trans hcl) h0

theorem partsW_any (c : Int) (w : World) : Calls Try.prog 37 #[.int .i64 c] w fun e w' => e = .returned (.func (.func 48) #[] #[.pointer (some ⟨w.heap.size, 0, none⟩)]) ∧ w' = w.alloc (.cells #[.int .i64 c] 48) := by
  go_enter Try.func37, Try.ntmps37
  go_wp2
  go_ret
  exact ⟨rfl, rfl⟩

end Go.Proofs.Ytlfbpaphjkbcmaa
