/- It is proved what the iterators over the members and the parts of a set of places yield; conditions: those of each statement. -/
import Derived.RowKit
import Derived.RangeFuncNested
import Derived.RangeFuncBound
import Derived.RangeFuncCalls
import Derived.RangeFuncLeaves
import Derived.RangeFuncBox
import Derived.RangeFuncWrites
import Derived.Test.YtdkdndcogdeopaaDoorRows
import Derived.WalkKit
import Derived.WalkSpells
import Derived.ProofKit
import Derived.OpenShut
import Derived.ShutString
import Derived.ChangeOld
import Derived.Below
import Derived.Deep.RegionHeld3
import Derived.Deep.QuietTactic
import Derived.BigQuiet
import Derived.Lib.Hide
import Derived.Lib.SmallJoins
import Derived.Outline
import Derived.Laws.MakeOwn
import Derived.Laws.OwnMore
import Derived.IntWalk
import Derived.Lib.AppendZeros
import Derived.Maps.AppendAt
import Derived.Deep.AppendLies
import Derived.OwnWalk
import Derived.Lib.SlicesCompact
import Derived.Lib.OwnBridge
import Derived.Shelf.Sort.Plain
import Derived.Shelf.Slices.In.SortNone
import Derived.Shelf.Slices.CompactI
import Derived.Ground.Names2Prog
import Derived.Lib.SliceRun
import Derived.Shelf.Abstract
import Derived.Shelf.RegionOpen
import Derived.OwnWalkIn
import Derived.TacticsInMore
import Derived.LoopNIn
import Derived.LoopIn
import Derived.StillTail
import Derived.StillTactics
import Derived.OrdersIn
import Derived.TacticsIn
import Derived.Shelf.Spec.TrailingZeros
import Derived.StillTailTactics
import Derived.Test.YtdkdndcogdeopaaDoorKb
import Derived.Test.YtdkdndcogdeopaaDoorT
import Derived.Test.YtdkdndcogdeopaaDoorTa
namespace Go.Proofs.YtdkdndcogdeopaaDoor
open Go.RowKit Go.Shelf

attribute [local go_sem] Oper.semAt_some

set_option maxRecDepth 100000 in
theorem memW_cons_fin : ∀ s : Fin 256, s.val ≠ 0 → memK 8 s.val = Lib.ctz 64 s.val :: memK 8 (s.val &&& (s.val - 1)) := by decide +kernel

theorem memW_cons (s : Nat) (hs : s < 256) (h : s ≠ 0) : memK 8 s = Lib.ctz 64 s :: memK 8 (s &&& (s - 1)) := memW_cons_fin ⟨s, hs⟩ h
theorem memK_len (k s : Nat) : (memK k s).length ≤ k := by unfold memK; exact Nat.le_trans (List.length_filter_le _ _) (by simp)
theorem memK_lt {k s v : Nat} (h : v ∈ memK k s) : v < k := List.mem_range.1 (List.mem_filter.1 h).1
theorem memW_is {k s : Nat} (hk : k ≤ 8) (hs : s < 2 ^ k) : memK 8 s = memK k s := by
  unfold memK
  obtain ⟨d, hd⟩ : ∃ d, 8 = k + d := ⟨8 - k, by omega⟩
  rw [hd, List.range_add, List.filter_append]
  have : (List.map (fun x => k + x) (List.range d)).filter (fun i => s.testBit i) = [] := by
    rw [List.filter_eq_nil_iff]
    intro i hi
    obtain ⟨j, -, rfl⟩ := List.mem_map.1 hi
    rw [Nat.testBit_lt_two_pow (Nat.lt_of_lt_of_le hs (Nat.pow_le_pow_right (by decide) (by omega)))]
    decide
  rw [this, List.append_nil]

theorem tzW_any (x : Nat) (hx0 : x ≠ 0) (hx : x < 256) (w : World) (hT : Tab w) :
    Calls Tryd.prog 96 #[.int .u64 x] w fun e w' => e = .returned (.int .i64 (Lib.ctz 64 x : Nat)) ∧ w = w' := by
  obtain ⟨hlow, hk⟩ := Lib.lowest_bit 64 x hx0 (by omega)
  obtain ⟨hi, htab⟩ := Lib.deBruijn64_at _ hk
  have hcell := hT _ hi
  rw [htab] at hcell
  have H := tz64_coreD x _ _ w (by simp; omega) (tz64_key x _ (by omega) hx0 hlow) hi hk hcell
  clear hT hcell htab hi hlow
  go_enter Tryd.func96, Tryd.ntmps96
  go_wp2_with (go_at_call 108; refine H.mono ?_; rintro e w' ⟨rfl, rfl⟩)
  go_ret
  exact ⟨rfl, rfl⟩

theorem lowW_and (t : Nat) (h0 : t ≠ 0) (h : t < 256) : bits BinOp.and IntKind.u64 (t : Int) ((t : Int) - 1) = ((t &&& (t - 1) : Nat) : Int) := by
  rw [show (t : Int) - 1 = ((t - 1 : Nat) : Int) from by omega, bits_and_u64_nat t _ (by omega) (by omega)]

/-- A place of s. -/
abbrev MemW (s : Nat) := { v : Nat // v ∈ memK 8 s }

def valsW {s : Nat} (ys : List (MemW s)) : List Nat := ys.map (·.1)
theorem valsW_snoc {s : Nat} (ys : List (MemW s)) (y : MemW s) : valsW (ys ++ [y]) = valsW ys ++ [y.1] := by simp [valsW]
set_option maxRecDepth 100000 in
set_option maxHeartbeats 2000000 in
theorem membersW1_in (n : Nat) (hn : 1 ≤ n) (l Bs n₀ s : Nat) (hs64 : s < 256) (J Jx : List (MemW s) → World → Prop)
    (hY : ∀ pre x W, J pre W → pre.length < 8 → valsW (pre ++ [x]) <+: memK 8 s → YieldAt Fence.wide (n - 1) Tryd.prog l #[.int .i64 (x.1 : Int)] W fun e W' =>
      (e = .returned (.bool true) ∧ J (pre ++ [x]) W' ∧ Below n₀ W W') ∨ (e = .returned (.bool false) ∧ Jx (pre ++ [x]) W'))
    (W : World) (hBs : W.cell? ⟨Bs, 0, none⟩ = some (.int .i64 (s : Int))) (hT : Tab W) (hn0 : 1 < n₀) (h0 : J [] W) :
    CallsIn Fence.wide n Tryd.prog 95 #[.func (.yield l) #[] #[], .pointer (some ⟨Bs, 0, none⟩)] W fun e W' => (∃ v, e = .returned v) ∧
      ((∃ ys, valsW ys = memK 8 s ∧ J ys W') ∨ (∃ pre, valsW pre <+: memK 8 s ∧ Jx pre W')) := by
  have hss : (s : Int) < 256 := by omega
  refine callsIn_of_wp Tryd.func95 rfl trivial ?_ rfl
  simp only [Tryd.ntmps95, List.size_toArray, List.length_cons, List.length_nil, Nat.reduceAdd, Nat.reduceSub, Array.replicate_succ, Array.replicate_zero, List.push_toArray, List.append_toArray, List.nil_append, List.cons_append]
  gi_wp2
  gi_loopw [3] (fun r wr => ∃ (t : Nat) (pre : List (MemW s)), t < 256 ∧ valsW pre ++ memK 8 t = memK 8 s ∧ r = .int .u64 (t : Int) ∧ J pre wr ∧ Below n₀ W wr)
    (fun r _ => (intOf r).toNat)
  case atStart => exact ⟨s, [], hs64, by simp [valsW], rfl, h0, Below.refl _ _⟩
  case round =>
    obtain ⟨t, pre, ht, hpre, rfl, hJs, hnx⟩ := hrel
    by_cases h0 : t = 0
    · subst h0
      rw [show memK 8 0 = [] from rfl, List.append_nil] at hpre
      gi_wp2
      go_end0
      exact ⟨⟨_, rfl⟩, .inl ⟨pre, hpre, hJs⟩⟩
    · have hc := memW_cons t ht h0
      rw [hc] at hpre
      have hk : Lib.ctz 64 t ∈ memK 8 s := by rw [← hpre]; simp
      have hlen : pre.length < 8 := by
        have h1 := memK_len 8 s
        rw [← hpre] at h1
        simp [valsW] at h1
        omega
      have HA := Lib.hid (lowW_and t h0 ht)
      have hT2 : Tab wr := hT.below hnx hn0
      have hpre' : valsW (pre ++ [(⟨Lib.ctz 64 t, hk⟩ : MemW s)]) ++ memK 8 (t &&& (t - 1)) = memK 8 s := (by rw [valsW_snoc, List.append_assoc]; exact hpre)
      have hlt : t &&& (t - 1) < t := by have := @Nat.and_le_right t (t - 1); omega
      obtain ⟨fn, tmps, assign, body, hy, hR⟩ := hY _ ⟨Lib.ctz 64 t, hk⟩ wr hJs hlen ⟨_, hpre'⟩
      dsimp only at hy
      have ht0 : (0 : Int) < (t : Int) := by omega
      clear hc hpre
      gi_wp2
      refine ⟨trivial, (callsIn_wide.2 (tzW_any t h0 ht _ hT2)).mono ?_⟩
      rintro e w' ⟨rfl, rfl⟩
      gi_wp2
      refine hR.mono ?_
      rintro e W3 (⟨rfl, hJ3, hk3⟩ | ⟨rfl, hJx3⟩)
      · gi_wp2
        go_roundw
        case rel => exact ⟨t &&& (t - 1), _, by omega, hpre', by rw [HA.out], hJ3, hnx.trans hk3⟩
        case measure => rw [HA.out]; simp only [intOf]; omega
      · gi_wp2
        refine bodyPost_ret (results_none rfl _ _ _) rfl ?_
        exact ⟨⟨_, rfl⟩, .inr ⟨_, ⟨memK 8 (t &&& (t - 1)), hpre'⟩, hJx3⟩⟩

theorem membersW_stops (n : Nat) (hn : 1 ≤ n) (Bs n₀ s : Nat) (hs : s < 256) (w : World) (hBs : Bs < w.heap.size) (hn₀ : n₀ ≤ w.heap.size) (hn1 : 1 < n₀)
    (hc : w.cell? ⟨Bs, 0, none⟩ = some (.int .i64 (s : Int))) (hT : Tab w) :
    SeqStopsK Fence.wide n Tryd.prog 95 #[.pointer (some ⟨Bs, 0, none⟩)] (fun x : MemW s => #[Value.int .i64 (x.1 : Int)]) (Below n₀) (fun ys => valsW ys = memK 8 s)
      (fun pre => valsW pre <+: memK 8 s) 8 w := fun l J Jx W hW _ _ hY h0 =>
  membersW1_in n hn l Bs n₀ s hs J Jx (fun pre x W h1 h2 _ => hY pre x W h1 h2) W ((hW.cell (p := ⟨Bs, 0, none⟩) hBs).trans hc) (hT.below hW (by omega)) hn1 h0

end Go.Proofs.YtdkdndcogdeopaaDoor
