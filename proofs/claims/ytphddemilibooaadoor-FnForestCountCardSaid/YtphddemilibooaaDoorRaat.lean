/- It is proved what the iterator over a set's parts yields; conditions: those of each statement. -/
import Derived.RowKit
import Derived.RangeFuncNested
import Derived.RangeFuncBound
import Derived.RangeFuncCalls
import Derived.RangeFuncLeaves
import Derived.RangeFuncBox
import Derived.RangeFuncWrites
import Derived.Test.YtphddemilibooaaDoorRows
import Derived.WalkKit
import Derived.WalkSpells
import Derived.ProofKit
import Derived.OpenShut
import Derived.ShutString
import Derived.ChangeOld
import Derived.Below
import Derived.Deep.RegionHeld3
import Derived.Deep.QuietTactic
import Derived.BigQuiet
import Derived.Lib.Hide
import Derived.Lib.SmallJoins
import Derived.Outline
import Derived.Laws.MakeOwn
import Derived.Laws.OwnMore
import Derived.IntWalk
import Derived.Shelf.Abstract
import Derived.Shelf.RegionOpen
import Derived.OwnWalkIn
import Derived.TacticsInMore
import Derived.LoopNIn
import Derived.LoopIn
import Derived.Maps.AppendAt
import Derived.Shelf.Spec.TrailingZeros
import Derived.Lib.AppendZeros
import Derived.Deep.AppendLies
import Derived.OwnWalk
import Derived.Lib.SlicesCompact
import Derived.Lib.OwnBridge
import Derived.Shelf.Sort.Plain
import Derived.Shelf.Slices.In.SortNone
import Derived.Shelf.Slices.CompactI
import Derived.Ground.Names2Prog
import Derived.Lib.SliceRun
import Derived.StillTail
import Derived.StillTactics
import Derived.OrdersIn
import Derived.TacticsIn
import Derived.StillTailTactics
import Derived.Test.YtphddemilibooaaDoorRaas
import Derived.Test.YtphddemilibooaaDoorRaaj
namespace Go.Proofs.YtphddemilibooaaDoor
open Go.RowKit Go.Shelf

attribute [local go_sem] Oper.semAt_some

/-- What a round must keep: the cell with the set. -/
def CellK (Bs : Nat) (v : Value) (A B : World) : Prop := A.cell? ⟨Bs, 0, none⟩ = some v → B.cell? ⟨Bs, 0, none⟩ = some v

end Go.Proofs.YtphddemilibooaaDoor

/- It is proved that both sides count the members of a set alike; conditions: those of each statement. -/
namespace Go.Proofs.YtphddemilibooaaDoor
open Go.RowKit
/-- How many members a set has. -/
def popN : Nat → Int → Int
  | 0, _ => 0
  | f + 1, z => if 0 < z then bits .and .i64 z 1 + popN f (z / 2) else 0

def pop (z : Int) : Int := popN 7 z
theorem ret_int {a b : Int} (h : a = b) : Ending.returned (.int .i64 a) = .returned (.int .i64 b) := by rw [h]
set_option maxRecDepth 100000 in
theorem size_any (z : Int) (w : World) (h0 : 0 ≤ z) (h : z ≤ 63) : Calls Tryd.prog 26 #[.int .i64 z] w fun e w' => e = .returned (.int .i64 (pop z)) ∧ w = w' := by
  go_enter Tryd.func26, Tryd.ntmps26
  go_wp2
  go_ret
  refine ⟨ret_int ?_, rfl⟩
  obtain ⟨i, rfl⟩ : ∃ i : Fin 64, z = (i.val : Int) := ⟨⟨z.toNat, by omega⟩, by simp; omega⟩
  clear h0 h
  revert i
  decide +kernel

theorem bit_small (z : Int) (h0 : 0 ≤ z) (h : z ≤ 63) : 0 ≤ bits .and .i64 z 1 ∧ bits .and .i64 z 1 ≤ 1 := by
  obtain ⟨i, rfl⟩ : ∃ i : Fin 64, z = (i.val : Int) := ⟨⟨z.toNat, by omega⟩, by simp; omega⟩
  clear h0 h
  revert i
  decide +kernel

set_option maxRecDepth 100000 in
theorem l1Size_any (z : Int) (w : World) (h0 : 0 ≤ z) (h : z ≤ 63) : Calls Tryd.prog 29 #[.int .i64 z] w fun e w' => e = .returned (.int .i64 (pop z)) ∧ w = w' := by
  go_enter Tryd.func29, Tryd.ntmps29
  go_wp2
  go_loop [0, 3] (fun s n => ∃ (f : Nat) (t k : Int), 0 ≤ t ∧ t < 2 ^ f ∧ f ≤ 6 ∧ 0 ≤ k ∧ k ≤ 6 - (f : Int) ∧ k + popN (f + 1) t = pop z ∧ s = .int .i64 t ∧ n = .int .i64 k) (fun s _ => (intOf s).toNat)
  case atStart => exact ⟨6, z, 0, by omega, by simp; omega, by omega, by omega, by omega, by simp [pop], rfl, rfl⟩
  case round =>
    obtain ⟨f, t, k, h1, h2, h3, h4, h5, h6, rfl, rfl⟩ := hrel
    have ht63 : t ≤ 63 := by
      have : (2 : Int) ^ f ≤ 2 ^ 6 := by
        obtain rfl | rfl | rfl | rfl | rfl | rfl | rfl : f = 0 ∨ f = 1 ∨ f = 2 ∨ f = 3 ∨ f = 4 ∨ f = 5 ∨ f = 6 := by omega
        all_goals decide
      have h64 : (2 : Int) ^ 6 = 64 := by decide
      omega
    have H2 := Lib.hid h2
    have H6 := Lib.hid h6
    have HB := Lib.hid (bit_small t h1 ht63)
    clear h2 h6
    by_cases ht : 0 < t
    · obtain ⟨hb0, hb1⟩ := HB.out
      cases f with
      | zero => have := H2.out; simp at this; omega
      | succ f =>
        have hb2 : bits .and .i64 t 1 ≤ 1 := hb1
        go_wp2
        go_round
        case rel => exact ⟨f, t / 2, k + bits .and .i64 t 1, by omega, by have := H2.out; rw [Int.pow_succ] at this; omega, by omega, by omega, by omega, by have := H6.out; rw [popN, if_pos ht] at this; omega, rfl, rfl⟩
        case measure => simp [intOf]; omega
    · have HP : Hid (k = pop z) := Lib.hid (by have := H6.out; rw [popN, if_neg ht] at this; omega)
      go_wp2
      go_ret
      exact ⟨ret_int HP.out, rfl⟩

set_option maxRecDepth 100000 in
theorem size_some (z : Int) : ∃ r : Int, ∀ W : World, Calls Tryd.prog 26 #[.int .i64 z] W fun e W' => e = .returned (.int .i64 r) ∧ W = W' := by
  apply Exists.intro
  intro W
  go_enter Tryd.func26, Tryd.ntmps26
  go_wp2
  go_ret
  exact ⟨rfl, rfl⟩

/-- What club.size returns at each number. -/
theorem size_fn : ∃ g : Int → Int, (∀ z W, Calls Tryd.prog 26 #[.int .i64 z] W fun e W' => e = .returned (.int .i64 (g z)) ∧ Below W.heap.size W W') ∧ ∀ z, 0 ≤ z → z ≤ 63 → g z = pop z := by
  have h : ∀ z : Int, ∃ r : Int, (∀ W : World, Calls Tryd.prog 26 #[.int .i64 z] W fun e W' => e = .returned (.int .i64 r) ∧ W = W') ∧ (0 ≤ z → z ≤ 63 → r = pop z) := fun z => by
    by_cases hz : 0 ≤ z ∧ z ≤ 63
    · exact ⟨pop z, fun W => size_any z W hz.1 hz.2, fun _ _ => rfl⟩
    · obtain ⟨r, hr⟩ := size_some z
      exact ⟨r, hr, fun a b => absurd ⟨a, b⟩ hz⟩
  refine ⟨fun z => Classical.choose (h z), fun z W => ((Classical.choose_spec (h z)).1 W).mono fun e W' ⟨he, hw⟩ => ⟨he, by rw [← hw]; exact Below.refl _ _⟩, fun z => (Classical.choose_spec (h z)).2⟩

end Go.Proofs.YtphddemilibooaaDoor

/- It is proved what the iterators over the members and the parts of a set of places yield; conditions: those of each statement. -/
namespace Go.Proofs.YtphddemilibooaaDoor
open Go.RowKit Go.Shelf

attribute [local go_sem] Oper.semAt_some

set_option maxRecDepth 100000 in
theorem memW_cons_fin : ∀ s : Fin 256, s.val ≠ 0 → memK 8 s.val = Lib.ctz 64 s.val :: memK 8 (s.val &&& (s.val - 1)) := by decide +kernel

theorem memW_cons (s : Nat) (hs : s < 256) (h : s ≠ 0) : memK 8 s = Lib.ctz 64 s :: memK 8 (s &&& (s - 1)) := memW_cons_fin ⟨s, hs⟩ h
theorem memK_len (k s : Nat) : (memK k s).length ≤ k := by unfold memK; exact Nat.le_trans (List.length_filter_le _ _) (by simp)
theorem memK_lt {k s v : Nat} (h : v ∈ memK k s) : v < k := List.mem_range.1 (List.mem_filter.1 h).1
theorem memW_is {k s : Nat} (hk : k ≤ 8) (hs : s < 2 ^ k) : memK 8 s = memK k s := by
  unfold memK
  obtain ⟨d, hd⟩ : ∃ d, 8 = k + d := ⟨8 - k, by omega⟩
  rw [hd, List.range_add, List.filter_append]
  have : (List.map (fun x => k + x) (List.range d)).filter (fun i => s.testBit i) = [] := by
    rw [List.filter_eq_nil_iff]
    intro i hi
    obtain ⟨j, -, rfl⟩ := List.mem_map.1 hi
    rw [Nat.testBit_lt_two_pow (Nat.lt_of_lt_of_le hs (Nat.pow_le_pow_right (by decide) (by omega)))]
    decide
  rw [this, List.append_nil]

theorem tzW_any (x : Nat) (hx0 : x ≠ 0) (hx : x < 256) (w : World) (hT : Tab w) :
    Calls Tryd.prog 65 #[.int .u64 x] w fun e w' => e = .returned (.int .i64 (Lib.ctz 64 x : Nat)) ∧ w = w' := by
  obtain ⟨hlow, hk⟩ := Lib.lowest_bit 64 x hx0 (by omega)
  obtain ⟨hi, htab⟩ := Lib.deBruijn64_at _ hk
  have hcell := hT _ hi
  rw [htab] at hcell
  have H := tz64_coreD x _ _ w (by simp; omega) (tz64_key x _ (by omega) hx0 hlow) hi hk hcell
  clear hT hcell htab hi hlow
  go_enter Tryd.func65, Tryd.ntmps65
  go_wp2_with (go_at_call 82; refine H.mono ?_; rintro e w' ⟨rfl, rfl⟩)
  go_ret
  exact ⟨rfl, rfl⟩

theorem lowW_and (t : Nat) (h0 : t ≠ 0) (h : t < 256) : bits BinOp.and IntKind.u64 (t : Int) ((t : Int) - 1) = ((t &&& (t - 1) : Nat) : Int) := by
  rw [show (t : Int) - 1 = ((t - 1 : Nat) : Int) from by omega, bits_and_u64_nat t _ (by omega) (by omega)]

/-- A place of s. -/
abbrev MemW (s : Nat) := { v : Nat // v ∈ memK 8 s }

def valsW {s : Nat} (ys : List (MemW s)) : List Nat := ys.map (·.1)
theorem valsW_snoc {s : Nat} (ys : List (MemW s)) (y : MemW s) : valsW (ys ++ [y]) = valsW ys ++ [y.1] := by simp [valsW]
set_option maxRecDepth 100000 in
set_option maxHeartbeats 2000000 in
theorem membersW1_in (n : Nat) (hn : 1 ≤ n) (l Bs n₀ s : Nat) (hs64 : s < 256) (J Jx : List (MemW s) → World → Prop)
    (hY : ∀ pre x W, J pre W → pre.length < 8 → valsW (pre ++ [x]) <+: memK 8 s → YieldAt Fence.wide (n - 1) Tryd.prog l #[.int .i64 (x.1 : Int)] W fun e W' =>
      (e = .returned (.bool true) ∧ J (pre ++ [x]) W' ∧ Below n₀ W W') ∨ (e = .returned (.bool false) ∧ Jx (pre ++ [x]) W'))
    (W : World) (hBs : W.cell? ⟨Bs, 0, none⟩ = some (.int .i64 (s : Int))) (hT : Tab W) (hn0 : 1 < n₀) (h0 : J [] W) :
    CallsIn Fence.wide n Tryd.prog 64 #[.func (.yield l) #[] #[], .pointer (some ⟨Bs, 0, none⟩)] W fun e W' => (∃ v, e = .returned v) ∧
      ((∃ ys, valsW ys = memK 8 s ∧ J ys W') ∨ (∃ pre, valsW pre <+: memK 8 s ∧ Jx pre W')) := by
  have hss : (s : Int) < 256 := by omega
  refine callsIn_of_wp Tryd.func64 rfl trivial ?_ rfl
  simp only [Tryd.ntmps64, List.size_toArray, List.length_cons, List.length_nil, Nat.reduceAdd, Nat.reduceSub, Array.replicate_succ, Array.replicate_zero, List.push_toArray, List.append_toArray, List.nil_append, List.cons_append]
  gi_wp2
  gi_loopw [3] (fun r wr => ∃ (t : Nat) (pre : List (MemW s)), t < 256 ∧ valsW pre ++ memK 8 t = memK 8 s ∧ r = .int .u64 (t : Int) ∧ J pre wr ∧ Below n₀ W wr)
    (fun r _ => (intOf r).toNat)
  case atStart => exact ⟨s, [], hs64, by simp [valsW], rfl, h0, Below.refl _ _⟩
  case round =>
    obtain ⟨t, pre, ht, hpre, rfl, hJs, hnx⟩ := hrel
    by_cases h0 : t = 0
    · subst h0
      rw [show memK 8 0 = [] from rfl, List.append_nil] at hpre
      gi_wp2
      go_end0
      exact ⟨⟨_, rfl⟩, .inl ⟨pre, hpre, hJs⟩⟩
    · have hc := memW_cons t ht h0
      rw [hc] at hpre
      have hk : Lib.ctz 64 t ∈ memK 8 s := by rw [← hpre]; simp
      have hlen : pre.length < 8 := by
        have h1 := memK_len 8 s
        rw [← hpre] at h1
        simp [valsW] at h1
        omega
      have HA := Lib.hid (lowW_and t h0 ht)
      have hT2 : Tab wr := hT.below hnx hn0
      have hpre' : valsW (pre ++ [(⟨Lib.ctz 64 t, hk⟩ : MemW s)]) ++ memK 8 (t &&& (t - 1)) = memK 8 s := (by rw [valsW_snoc, List.append_assoc]; exact hpre)
      have hlt : t &&& (t - 1) < t := by have := @Nat.and_le_right t (t - 1); omega
      obtain ⟨fn, tmps, assign, body, hy, hR⟩ := hY _ ⟨Lib.ctz 64 t, hk⟩ wr hJs hlen ⟨_, hpre'⟩
      dsimp only at hy
      have ht0 : (0 : Int) < (t : Int) := by omega
      clear hc hpre
      gi_wp2
      refine ⟨trivial, (callsIn_wide.2 (tzW_any t h0 ht _ hT2)).mono ?_⟩
      rintro e w' ⟨rfl, rfl⟩
      gi_wp2
      refine hR.mono ?_
      rintro e W3 (⟨rfl, hJ3, hk3⟩ | ⟨rfl, hJx3⟩)
      · gi_wp2
        go_roundw
        case rel => exact ⟨t &&& (t - 1), _, by omega, hpre', by rw [HA.out], hJ3, hnx.trans hk3⟩
        case measure => rw [HA.out]; simp only [intOf]; omega
      · gi_wp2
        refine bodyPost_ret (results_none rfl _ _ _) rfl ?_
        exact ⟨⟨_, rfl⟩, .inr ⟨_, ⟨memK 8 (t &&& (t - 1)), hpre'⟩, hJx3⟩⟩

theorem membersW_stops (n : Nat) (hn : 1 ≤ n) (Bs n₀ s : Nat) (hs : s < 256) (w : World) (hBs : Bs < w.heap.size) (hn₀ : n₀ ≤ w.heap.size) (hn1 : 1 < n₀)
    (hc : w.cell? ⟨Bs, 0, none⟩ = some (.int .i64 (s : Int))) (hT : Tab w) :
    SeqStopsK Fence.wide n Tryd.prog 64 #[.pointer (some ⟨Bs, 0, none⟩)] (fun x : MemW s => #[Value.int .i64 (x.1 : Int)]) (Below n₀) (fun ys => valsW ys = memK 8 s)
      (fun pre => valsW pre <+: memK 8 s) 8 w := fun l J Jx W hW _ _ hY h0 =>
  membersW1_in n hn l Bs n₀ s hs J Jx (fun pre x W h1 h2 _ => hY pre x W h1 h2) W ((hW.cell (p := ⟨Bs, 0, none⟩) hBs).trans hc) (hT.below hW (by omega)) hn1 h0

/-- A number below N. -/
abbrev PrtF (N : Nat) := { s : Nat // s < N }

def valsF {N : Nat} (ys : List (PrtF N)) : List Nat := ys.map (·.1)
theorem valsF_snoc {N : Nat} (ys : List (PrtF N)) (y : PrtF N) : valsF (ys ++ [y]) = valsF ys ++ [y.1] := by simp [valsF]
set_option maxRecDepth 100000 in
theorem nextF_fin : ∀ k : Fin 9, ∀ t : Fin 256, t.val < 2 ^ k.val - 1 → bits .and .i64 ((t.val : Int) - (2 ^ k.val - 1)) (2 ^ k.val - 1) = (t.val : Int) + 1 := by decide +kernel

theorem full_lt {k : Nat} (hk : k ≤ 8) : 1 ≤ 2 ^ k ∧ 2 ^ k ≤ 256 := ⟨Nat.one_le_two_pow, Nat.pow_le_pow_right (n := 2) (by decide) hk⟩
theorem cast_full (k : Nat) : ((2 ^ k - 1 : Nat) : Int) = 2 ^ k - 1 := by
  have : 1 ≤ 2 ^ k := Nat.one_le_two_pow
  have h2 : ((2 ^ k : Nat) : Int) = (2 : Int) ^ k := by norm_cast
  omega

set_option maxRecDepth 100000 in
set_option maxHeartbeats 2000000 in
theorem partsF1_in (n : Nat) (hn : 1 ≤ n) (l Bs k N : Nat) (hN : N = 2 ^ k) (hk8 : k ≤ 8) (c : Int) (hc : c = ((2 ^ k - 1 : Nat) : Int)) (J Jx : List (PrtF N) → World → Prop)
    (hY : ∀ pre x W, J pre W → pre.length < N → valsF pre = List.range x.1 → YieldAt Fence.wide (n - 1) Tryd.prog l #[.int .i64 (x.1 : Int)] W fun e W' =>
      (e = .returned (.bool true) ∧ J (pre ++ [x]) W' ∧ CellK Bs (.int .i64 c) W W') ∨ (e = .returned (.bool false) ∧ Jx (pre ++ [x]) W'))
    (W : World) (hBs : W.cell? ⟨Bs, 0, none⟩ = some (.int .i64 c)) (h0 : J [] W) :
    CallsIn Fence.wide n Tryd.prog 60 #[.func (.yield l) #[] #[], .pointer (some ⟨Bs, 0, none⟩)] W fun e W' => (∃ v, e = .returned v) ∧
      ((∃ ys, valsF ys = List.range N ∧ J ys W') ∨ (∃ pre, (∃ j, j ≤ N ∧ valsF pre = List.range j) ∧ Jx pre W')) := by
  obtain ⟨hk1, hk2⟩ := full_lt hk8
  have hcN : c = (N : Int) - 1 := by rw [hc, ← hN]; omega
  have HNX : Hid (∀ t : Nat, t < N - 1 → bits .and .i64 ((t : Int) - c) c = (t : Int) + 1) := Lib.hid (fun t ht => by
    have h := nextF_fin ⟨k, by omega⟩ ⟨t, by omega⟩ (by rw [← hN]; exact ht)
    have e : (2 : Int) ^ k - 1 = c := by rw [hc, cast_full]
    simp only [e] at h
    exact h)
  have hcA : c ≤ (N : Int) - 1 := by omega
  have hcB : (N : Int) - 1 ≤ c := by omega
  have HNK := Lib.hid hN
  rw [← hN] at hk1 hk2
  clear hN hc hcN
  refine callsIn_of_wp Tryd.func60 rfl trivial ?_ rfl
  simp only [Tryd.ntmps60, List.size_toArray, List.length_cons, List.length_nil, Nat.reduceAdd, Nat.reduceSub, Array.replicate_succ, Array.replicate_zero, List.push_toArray, List.append_toArray, List.nil_append, List.cons_append]
  gi_wp2
  gi_loopw [3] (fun r wr => ∃ (t : Nat) (pre : List (PrtF N)), t < N ∧ valsF pre = List.range t ∧ r = .int .i64 (t : Int) ∧ J pre wr ∧ wr.cell? ⟨Bs, 0, none⟩ = some (.int .i64 c))
    (fun r _ => N - (intOf r).toNat)
  case atStart => exact ⟨0, [], by omega, rfl, rfl, h0, hBs⟩
  case round =>
    obtain ⟨t, pre, ht, hpre, rfl, hJs, hcl⟩ := hrel
    have hlen : pre.length < N := by
      have := congrArg List.length hpre
      simp [valsF] at this
      omega
    obtain ⟨x, hx⟩ : ∃ x : PrtF N, x.1 = t := ⟨⟨t, ht⟩, rfl⟩
    have HPX : Hid (valsF (pre ++ [x]) = List.range (t + 1)) := Lib.hid (by rw [valsF_snoc, hx, hpre, List.range_succ])
    obtain ⟨fn, tmps, assign, body, hy, hR⟩ := hY _ x wr hJs hlen (by rw [hx]; exact hpre)
    rw [hx] at hy
    have HX := Lib.hid hx
    have HC := Lib.hid hcl
    clear hx hpre
    have ht0 : (0 : Int) ≤ (t : Int) := by omega
    have ht1 : (t : Int) < 256 := by omega
    have hc0 : (0 : Int) ≤ c := by omega
    have hc1 : c < 256 := by omega
    gi_wp2
    refine hR.mono ?_
    rintro e W3 (⟨rfl, hJ3, hk3⟩ | ⟨rfl, hJx3⟩)
    · have hc3 := hk3 HC.out
      clear hk3
      by_cases e : t + 1 = N
      · have heI : ((t : Int) == c) = true := by rw [beq_iff_eq]; omega
        have HE := Lib.hid e
        clear e
        gi_wp2
        go_end0
        exact ⟨⟨_, rfl⟩, .inl ⟨_, by rw [HPX.out, HE.out], hJ3⟩⟩
      · have heI : ((t : Int) == c) = false := by rw [beq_eq_false_iff_ne]; omega
        have HN1 := Lib.hid (HNX.out t (by omega))
        have HT1 : Hid (t + 1 < N) := Lib.hid (by omega)
        clear e
        gi_wp2
        go_roundw
        case rel => exact ⟨t + 1, _, HT1.out, HPX.out, by rw [HN1.out]; rfl, hJ3, hc3⟩
        case measure => rw [HN1.out]; have := HT1.out; simp only [intOf]; omega
    · gi_wp2
      go_end0
      exact ⟨⟨_, rfl⟩, .inr ⟨_, ⟨t + 1, by omega, HPX.out⟩, hJx3⟩⟩

theorem partsF_stops (n : Nat) (hn : 1 ≤ n) (Bs k : Nat) (hk8 : k ≤ 8) (c : Int) (hc : c = ((2 ^ k - 1 : Nat) : Int)) (w : World) (hBs : Bs < w.heap.size) (hcl : w.cell? ⟨Bs, 0, none⟩ = some (.int .i64 c)) :
    SeqStopsK Fence.wide n Tryd.prog 60 #[.pointer (some ⟨Bs, 0, none⟩)] (fun x : PrtF (2 ^ k) => #[Value.int .i64 (x.1 : Int)]) (CellK Bs (.int .i64 c)) (fun ys => valsF ys = List.range (2 ^ k))
      (fun pre => ∃ j, j ≤ 2 ^ k ∧ valsF pre = List.range j) (2 ^ k) w := fun l J Jx W hW _ _ hY h0 =>
  partsF1_in n hn l Bs k (2 ^ k) rfl hk8 c hc J Jx (fun pre x W h1 h2 _ => hY pre x W h1 h2) W ((hW.cell (p := ⟨Bs, 0, none⟩) hBs).trans hcl) h0

theorem partsW_any (c : Int) (w : World) : Calls Tryd.prog 32 #[.int .i64 c] w fun e w' => e = .returned (.func (.func 60) #[] #[.pointer (some ⟨w.heap.size, 0, none⟩)]) ∧ w' = w.alloc (.cells #[.int .i64 c] 37) := by
  go_enter Tryd.func32, Tryd.ntmps32
  go_wp2
  go_ret
  exact ⟨rfl, rfl⟩

set_option maxRecDepth 100000 in
theorem sizeW_any (z : Nat) (w : World) (h : z < 256) : Calls Tryd.prog 26 #[.int .i64 (z : Int)] w fun e w' => e = .returned (.int .i64 ((memK 8 z).length : Int)) ∧ w = w' := by
  go_enter Tryd.func26, Tryd.ntmps26
  go_wp2
  go_ret
  refine ⟨ret_int ?_, rfl⟩
  obtain ⟨i, rfl⟩ : ∃ i : Fin 256, z = i.val := ⟨⟨z, h⟩, rfl⟩
  clear h
  revert i
  decide +kernel

end Go.Proofs.YtphddemilibooaaDoor
