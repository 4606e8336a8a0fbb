/- It is proved what the iterator over a set's members yields, each member known to be one; conditions: those of each statement. -/
import Derived.RowKit
import Derived.RangeFuncNested
import Derived.RangeFuncBound
import Derived.RangeFuncCalls
import Derived.RangeFuncLeaves
import Derived.RangeFuncBox
import Derived.RangeFuncWrites
import Derived.Test.YtbiggilheicfjaaDoorRows
import Derived.WalkKit
import Derived.WalkSpells
import Derived.ProofKit
import Derived.OpenShut
import Derived.ShutString
import Derived.ChangeOld
import Derived.Below
import Derived.Deep.RegionHeld3
import Derived.Deep.QuietTactic
import Derived.BigQuiet
import Derived.Lib.Hide
import Derived.Lib.SmallJoins
import Derived.Outline
import Derived.Laws.MakeOwn
import Derived.Laws.OwnMore
import Derived.IntWalk
import Derived.Shelf.Abstract
import Derived.Shelf.RegionOpen
import Derived.OwnWalkIn
import Derived.TacticsInMore
import Derived.LoopNIn
import Derived.LoopIn
import Derived.Maps.AppendAt
import Derived.Shelf.Spec.TrailingZeros
import Derived.Test.YtbiggilheicfjaaDoorAa
import Derived.Test.YtbiggilheicfjaaDoorT
import Derived.Test.YtbiggilheicfjaaDoorTa
namespace Go.Proofs.YtbiggilheicfjaaDoor
open Go.RowKit Go.Shelf

attribute [local go_sem] Oper.semAt_some

/-- A member of s. -/
abbrev MemS (s : Nat) := { v : Nat // v ∈ mem s }

def valsS {s : Nat} (ys : List (MemS s)) : List Nat := ys.map (·.1)
theorem valsS_snoc {s : Nat} (ys : List (MemS s)) (y : MemS s) : valsS (ys ++ [y]) = valsS ys ++ [y.1] := by simp [valsS]
set_option maxRecDepth 100000 in
set_option maxHeartbeats 2000000 in
theorem membersS1_in (n : Nat) (hn : 1 ≤ n) (l Bs n₀ s : Nat) (hs64 : s < 64) (J Jx : List (MemS s) → World → Prop)
    (hY : ∀ pre x W, J pre W → pre.length < 6 → YieldAt Fence.wide (n - 1) Tryd.prog l #[.int .i64 (x.1 : Int)] W fun e W' =>
      (e = .returned (.bool true) ∧ J (pre ++ [x]) W' ∧ Below n₀ W W') ∨ (e = .returned (.bool false) ∧ Jx (pre ++ [x]) W'))
    (W : World) (hBs : W.cell? ⟨Bs, 0, none⟩ = some (.int .i64 (s : Int))) (hT : Tab W) (hn0 : 1 < n₀) (h0 : J [] W) :
    CallsIn Fence.wide n Tryd.prog 104 #[.func (.yield l) #[] #[], .pointer (some ⟨Bs, 0, none⟩)] W fun e W' => (∃ v, e = .returned v) ∧
      ((∃ ys, valsS ys = mem s ∧ J ys W') ∨ (∃ pre, valsS pre <+: mem s ∧ Jx pre W')) := by
  have hss : (s : Int) < 64 := by omega
  refine callsIn_of_wp Tryd.func104 rfl trivial ?_ rfl
  simp only [Tryd.ntmps104, List.size_toArray, List.length_cons, List.length_nil, Nat.reduceAdd, Nat.reduceSub, Array.replicate_succ, Array.replicate_zero, List.push_toArray, List.append_toArray, List.nil_append, List.cons_append]
  gi_wp2
  gi_loopw [3] (fun r wr => ∃ (t : Nat) (pre : List (MemS s)), t < 64 ∧ valsS pre ++ mem t = mem s ∧ r = .int .u64 (t : Int) ∧ J pre wr ∧ Below n₀ W wr)
    (fun r _ => (intOf r).toNat)
  case atStart => exact ⟨s, [], hs64, by simp [valsS], rfl, h0, Below.refl _ _⟩
  case round =>
    obtain ⟨t, pre, ht, hpre, rfl, hJs, hnx⟩ := hrel
    by_cases h0 : t = 0
    · subst h0
      rw [mem_zero, List.append_nil] at hpre
      gi_wp2
      go_end0
      exact ⟨⟨_, rfl⟩, .inl ⟨pre, hpre, hJs⟩⟩
    · have hc := mem_cons t ht h0
      rw [hc] at hpre
      have hk : Lib.ctz 64 t ∈ mem s := by rw [← hpre]; simp
      have hlen : pre.length < 6 := by
        have h1 := mem_length s hs64
        rw [← hpre] at h1
        simp [valsS] at h1
        omega
      have HA := Lib.hid (low_and t h0 ht)
      have hT2 : Tab wr := hT.below hnx hn0
      have hpre' : valsS (pre ++ [(⟨Lib.ctz 64 t, hk⟩ : MemS s)]) ++ mem (t &&& (t - 1)) = mem s := (by rw [valsS_snoc, List.append_assoc]; exact hpre)
      have hlt : t &&& (t - 1) < t := by have := @Nat.and_le_right t (t - 1); omega
      obtain ⟨fn, tmps, assign, body, hy, hR⟩ := hY _ ⟨Lib.ctz 64 t, hk⟩ wr hJs hlen
      dsimp only at hy
      have ht0 : (0 : Int) < (t : Int) := by omega
      clear hc hpre
      gi_wp2
      refine ⟨trivial, (callsIn_wide.2 (tz_any t h0 ht _ hT2)).mono ?_⟩
      rintro e w' ⟨rfl, rfl⟩
      gi_wp2
      refine hR.mono ?_
      rintro e W3 (⟨rfl, hJ3, hk3⟩ | ⟨rfl, hJx3⟩)
      · gi_wp2
        go_roundw
        case rel => exact ⟨t &&& (t - 1), _, by omega, hpre', by rw [HA.out], hJ3, hnx.trans hk3⟩
        case measure => rw [HA.out]; simp only [intOf]; omega
      · gi_wp2
        refine bodyPost_ret (results_none rfl _ _ _) rfl ?_
        exact ⟨⟨_, rfl⟩, .inr ⟨_, ⟨mem (t &&& (t - 1)), hpre'⟩, hJx3⟩⟩

theorem membersS_stops (n : Nat) (hn : 1 ≤ n) (Bs n₀ s : Nat) (hs : s < 64) (w : World) (hBs : Bs < w.heap.size) (hn₀ : n₀ ≤ w.heap.size) (hn1 : 1 < n₀)
    (hc : w.cell? ⟨Bs, 0, none⟩ = some (.int .i64 (s : Int))) (hT : Tab w) :
    SeqStopsK Fence.wide n Tryd.prog 104 #[.pointer (some ⟨Bs, 0, none⟩)] (fun x : MemS s => #[Value.int .i64 (x.1 : Int)]) (Below n₀) (fun ys => valsS ys = mem s)
      (fun pre => valsS pre <+: mem s) 6 w := fun l J Jx W hW _ _ hY h0 =>
  membersS1_in n hn l Bs n₀ s hs J Jx hY W ((hW.cell (p := ⟨Bs, 0, none⟩) hBs).trans hc) (hT.below hW (by omega)) hn1 h0

theorem yield_any {m : Nat} (m' : Nat) {P : Program} {l : Nat} {args : Array Value} {W : World} {R : Ending → World → Prop} (h : YieldAt Fence.wide m P l args W R) : YieldAt Fence.wide m' P l args W R := by
  obtain ⟨fn, tmps, assign, body, hy, hR⟩ := h
  exact ⟨fn, tmps, assign, body, hy, hR.1, fun c cs _ => hR.2 c cs (room_wide _)⟩

/-- Numbers of names. -/
def nI (p : List Nat) : List Int := List.map (fun (v : Nat) => (v : Int)) p

theorem nI_len (p : List Nat) : (nI p).length = p.length := by simp [nI]
theorem nI_snoc (p : List Nat) (v : Nat) : nI (p ++ [v]) = nI p ++ [(v : Int)] := by simp [nI]
theorem permsL_count : ∀ (k : Nat) (us : List Nat), us.length ≤ 6 → (permsL k us).length ≤ 6 ^ k
  | 0, _, _ => by simp [permsL]
  | k + 1, us, h => by
    rw [permsL]
    refine Nat.le_trans (flat_len _ (6 ^ k) us (fun v _ => ?_)) (by rw [Nat.pow_succ, Nat.mul_comm]; exact Nat.mul_le_mul_left _ h)
    rw [List.length_map]
    exact permsL_count k _ (Nat.le_trans (List.length_erase_le) h)

/-- What has been yielded behind names that were chosen first. -/
def partL (k : Nat) (us vs : List Nat) : List (List Nat) := vs.flatMap fun v => (permsL k (us.erase v)).map (v :: ·)

theorem partL_snoc (k : Nat) (us vs : List Nat) (v : Nat) : partL k us (vs ++ [v]) = partL k us vs ++ (permsL k (us.erase v)).map (v :: ·) := by simp [partL]
theorem partL_all (k : Nat) (us : List Nat) : partL k us us = permsL (k + 1) us := rfl
theorem partL_count (k : Nat) (us vs : List Nat) (h : us.length ≤ 6) : (partL k us vs).length ≤ vs.length * 6 ^ k := by
  unfold partL
  refine flat_len _ _ vs (fun v _ => ?_)
  rw [List.length_map]
  exact permsL_count k _ (Nat.le_trans (List.length_erase_le) h)

end Go.Proofs.YtbiggilheicfjaaDoor
