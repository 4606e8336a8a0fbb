/- It is proved how all names of members are listed in order, by choosing the first name and by going on from the front; conditions: those of each statement. -/
import Derived.RowKit
import Derived.RangeFuncNested
import Derived.RangeFuncBound
import Derived.RangeFuncCalls
import Derived.RangeFuncLeaves
import Derived.RangeFuncBox
import Derived.RangeFuncWrites
import Derived.Test.YtacglafoahmcnaaDoorRows
import Derived.WalkKit
import Derived.WalkSpells
import Derived.ProofKit
import Derived.OpenShut
import Derived.ShutString
import Derived.ChangeOld
import Derived.Below
import Derived.Deep.RegionHeld3
import Derived.Deep.QuietTactic
import Derived.BigQuiet
import Derived.Lib.Hide
import Derived.Lib.SmallJoins
import Derived.Outline
import Derived.Laws.MakeOwn
import Derived.Laws.OwnMore
import Derived.IntWalk
import Derived.Shelf.Abstract
import Derived.Shelf.RegionOpen
import Derived.OwnWalkIn
import Derived.TacticsInMore
import Derived.LoopNIn
import Derived.LoopIn
import Derived.Maps.AppendAt
import Derived.Shelf.Spec.TrailingZeros
import Derived.Test.YtacglafoahmcnaaDoorRaae
import Derived.Lib.AppendZeros
import Derived.Deep.AppendLies
import Derived.OwnWalk
import Derived.Lib.SlicesCompact
import Derived.Lib.OwnBridge
import Derived.Shelf.Sort.Plain
import Derived.Shelf.Slices.In.SortNone
import Derived.Shelf.Slices.CompactI
import Derived.Ground.Names2Prog
import Derived.Lib.SliceRun
import Derived.StillTail
import Derived.StillTactics
import Derived.OrdersIn
import Derived.TacticsIn
import Derived.StillTailTactics
import Derived.Laws.CopyRow
import Derived.Lib.SlBuf
import Derived.Maps.OwnIn
import Derived.Maps.Ext
import Derived.DeepKeys4
import Derived.MapKept
import Derived.Test.YtacglafoahmcnaaDoorRaac
import Derived.Test.YtacglafoahmcnaaDoorTb
import Derived.Laws.BitsAllLaws
import Derived.Test.YtacglafoahmcnaaDoorRaag
import Derived.Test.YtacglafoahmcnaaDoorRaah
namespace Go.Proofs.YtacglafoahmcnaaDoor
open Go.RowKit

/-- All orders of these members, as lists are compared. -/
def permsL : Nat → List Nat → List (List Nat)
  | 0, _ => [[]]
  | k + 1, us => us.flatMap fun v => (permsL k (us.erase v)).map (v :: ·)

/-- Each list, with each member below n that it has not, behind it. -/
def nextL (n : Nat) (L : List (List Nat)) : List (List Nat) := L.flatMap fun l => ((List.range n).filter fun v => !l.contains v).map fun v => l ++ [v]

def fromL (n : Nat) : Nat → List (List Nat) → List (List Nat)
  | 0, L => L
  | k + 1, L => fromL n k (nextL n L)

def lvlL (n : Nat) : Nat → List (List Nat)
  | 0 => [[]]
  | k + 1 => nextL n (lvlL n k)

theorem fromL_succ (n : Nat) : ∀ (k : Nat) (L : List (List Nat)), fromL n (k + 1) L = nextL n (fromL n k L)
  | 0, _ => rfl
  | k + 1, L => by rw [fromL, fromL_succ n k]; rfl

theorem lvlL_from (n : Nat) : ∀ k, lvlL n k = fromL n k [[]]
  | 0 => rfl
  | k + 1 => by rw [fromL_succ, lvlL, lvlL_from n k]

theorem nextL_flat {α : Type} (n : Nat) (xs : List α) (f : α → List (List Nat)) : nextL n (xs.flatMap f) = xs.flatMap fun x => nextL n (f x) := by
  unfold nextL; rw [List.flatMap_assoc]

theorem fromL_flat {α : Type} (n : Nat) : ∀ (k : Nat) (xs : List α) (f : α → List (List Nat)), fromL n k (xs.flatMap f) = xs.flatMap fun x => fromL n k (f x)
  | 0, _, _ => rfl
  | k + 1, xs, f => by rw [fromL, nextL_flat, fromL_flat n k]; rfl

theorem erase_filter (n : Nat) (l : List Nat) (v : Nat) : ((List.range n).filter fun u => !l.contains u).erase v = (List.range n).filter fun u => !(l ++ [v]).contains u := by
  rw [List.Nodup.erase_eq_filter (List.Pairwise.filter _ List.nodup_range), List.filter_filter]
  apply List.filter_congr
  intro x _
  rw [Bool.eq_iff_iff]
  simp [and_comm]

theorem fromL_perms (n : Nat) : ∀ (k : Nat) (l : List Nat), fromL n k [l] = (permsL k ((List.range n).filter fun u => !l.contains u)).map (l ++ ·)
  | 0, l => by simp [fromL, permsL]
  | k + 1, l => by
    rw [fromL, show nextL n [l] = ((List.range n).filter fun u => !l.contains u).flatMap fun v => [l ++ [v]] from by simp [nextL, List.map_eq_flatMap], fromL_flat, permsL, List.map_flatMap]
    congr 1
    funext v
    rw [fromL_perms n k, erase_filter, List.map_map]
    apply List.map_congr_left
    intro x _
    simp

theorem lvlL_perms (n k : Nat) : lvlL n k = permsL k (List.range n) := by
  rw [lvlL_from, fromL_perms, show ((List.range n).filter fun u => !([] : List Nat).contains u) = List.range n from by simp]
  simp

theorem permsL_len : ∀ (k : Nat) (us : List Nat) (p : List Nat), p ∈ permsL k us → p.length = k
  | 0, us, p, h => by simp [permsL] at h; simp [h]
  | k + 1, us, p, h => by
    simp only [permsL, List.mem_flatMap, List.mem_map] at h
    obtain ⟨v, _, q, hq, rfl⟩ := h
    simp [permsL_len k _ q hq]

theorem permsL_perm : ∀ (k : Nat) (us : List Nat) (p : List Nat), us.length = k → p ∈ permsL k us → p.Perm us
  | 0, us, p, hl, h => by simp [permsL] at h; simp [h, List.eq_nil_of_length_eq_zero hl]
  | k + 1, us, p, hl, h => by
    simp only [permsL, List.mem_flatMap, List.mem_map] at h
    obtain ⟨v, hv, q, hq, rfl⟩ := h
    have := permsL_perm k _ q (by rw [List.length_erase_of_mem hv]; omega) hq
    exact (this.cons v).trans (List.perm_cons_erase hv).symm

theorem flat_len {α β : Type} (f : α → List β) (c : Nat) : ∀ xs : List α, (∀ x ∈ xs, (f x).length ≤ c) → (xs.flatMap f).length ≤ xs.length * c
  | [], _ => by simp
  | x :: xs, h => by
    rw [List.flatMap_cons, List.length_append, List.length_cons, Nat.succ_mul]
    have h1 := h x (by simp)
    have h2 := flat_len f c xs (fun y hy => h y (by simp [hy]))
    omega

theorem lvlL_len (n : Nat) : ∀ k, (lvlL n k).length ≤ n ^ k
  | 0 => by simp [lvlL]
  | k + 1 => by
    rw [lvlL, nextL, Nat.pow_succ]
    refine Nat.le_trans (flat_len _ n _ (fun l _ => ?_)) (Nat.mul_le_mul_right _ (lvlL_len n k))
    rw [List.length_map]
    exact Nat.le_trans (List.length_filter_le _ _) (by simp)

theorem lvlL_small {n : Nat} (hn : n ≤ 6) {k : Nat} (hk : k ≤ n) : (lvlL n k).length ≤ 46656 :=
  Nat.le_trans (lvlL_len n k) (Nat.le_trans (Nat.pow_le_pow_left hn k) (Nat.le_trans (Nat.pow_le_pow_right (by decide) (by omega)) (by decide : 6 ^ 6 ≤ 46656)))

theorem lvlL_in {n k : Nat} {p : List Nat} (h : p ∈ lvlL n k) : p.length = k := by rw [lvlL_perms] at h; exact permsL_len _ _ _ h
theorem lvlL_lt {n : Nat} : ∀ {k : Nat} {p : List Nat}, p ∈ lvlL n k → ∀ v ∈ p, v < n
  | 0, p, h => by simp [lvlL] at h; simp [h]
  | k + 1, p, h => by
    simp only [lvlL, nextL, List.mem_flatMap, List.mem_map, List.mem_filter, List.mem_range] at h
    obtain ⟨l, hl, v, ⟨hv, _⟩, rfl⟩ := h
    intro u hu
    rcases List.mem_append.1 hu with h1 | h1
    · exact lvlL_lt hl u h1
    · simp at h1; omega

end Go.Proofs.YtacglafoahmcnaaDoor

/- It is proved what the iterator over a set's members yields, each member known to be one; conditions: those of each statement. -/
namespace Go.Proofs.YtacglafoahmcnaaDoor
open Go.RowKit Go.Shelf

attribute [local go_sem] Oper.semAt_some

/-- A member of s. -/
abbrev MemS (s : Nat) := { v : Nat // v ∈ mem s }

def valsS {s : Nat} (ys : List (MemS s)) : List Nat := ys.map (·.1)
theorem valsS_snoc {s : Nat} (ys : List (MemS s)) (y : MemS s) : valsS (ys ++ [y]) = valsS ys ++ [y.1] := by simp [valsS]
set_option maxRecDepth 100000 in
set_option maxHeartbeats 2000000 in
theorem membersS1_in (n : Nat) (hn : 1 ≤ n) (l Bs n₀ s : Nat) (hs64 : s < 64) (J Jx : List (MemS s) → World → Prop)
    (hY : ∀ pre x W, J pre W → pre.length < 6 → YieldAt Fence.wide (n - 1) Tryd.prog l #[.int .i64 (x.1 : Int)] W fun e W' =>
      (e = .returned (.bool true) ∧ J (pre ++ [x]) W' ∧ Below n₀ W W') ∨ (e = .returned (.bool false) ∧ Jx (pre ++ [x]) W'))
    (W : World) (hBs : W.cell? ⟨Bs, 0, none⟩ = some (.int .i64 (s : Int))) (hT : Tab W) (hn0 : 1 < n₀) (h0 : J [] W) :
    CallsIn Fence.wide n Tryd.prog 89 #[.func (.yield l) #[] #[], .pointer (some ⟨Bs, 0, none⟩)] W fun e W' => (∃ v, e = .returned v) ∧
      ((∃ ys, valsS ys = mem s ∧ J ys W') ∨ (∃ pre, valsS pre <+: mem s ∧ Jx pre W')) := by
  have hss : (s : Int) < 64 := by omega
  refine callsIn_of_wp Tryd.func89 rfl trivial ?_ rfl
  simp only [Tryd.ntmps89, List.size_toArray, List.length_cons, List.length_nil, Nat.reduceAdd, Nat.reduceSub, Array.replicate_succ, Array.replicate_zero, List.push_toArray, List.append_toArray, List.nil_append, List.cons_append]
  gi_wp2
  gi_loopw [3] (fun r wr => ∃ (t : Nat) (pre : List (MemS s)), t < 64 ∧ valsS pre ++ mem t = mem s ∧ r = .int .u64 (t : Int) ∧ J pre wr ∧ Below n₀ W wr)
    (fun r _ => (intOf r).toNat)
  case atStart => exact ⟨s, [], hs64, by simp [valsS], rfl, h0, Below.refl _ _⟩
  case round =>
    obtain ⟨t, pre, ht, hpre, rfl, hJs, hnx⟩ := hrel
    by_cases h0 : t = 0
    · subst h0
      rw [mem_zero, List.append_nil] at hpre
      gi_wp2
      go_end0
      exact ⟨⟨_, rfl⟩, .inl ⟨pre, hpre, hJs⟩⟩
    · have hc := mem_cons t ht h0
      rw [hc] at hpre
      have hk : Lib.ctz 64 t ∈ mem s := by rw [← hpre]; simp
      have hlen : pre.length < 6 := by
        have h1 := mem_length s hs64
        rw [← hpre] at h1
        simp [valsS] at h1
        omega
      have HA := Lib.hid (low_and t h0 ht)
      have hT2 : Tab wr := hT.below hnx hn0
      have hpre' : valsS (pre ++ [(⟨Lib.ctz 64 t, hk⟩ : MemS s)]) ++ mem (t &&& (t - 1)) = mem s := (by rw [valsS_snoc, List.append_assoc]; exact hpre)
      have hlt : t &&& (t - 1) < t := by have := @Nat.and_le_right t (t - 1); omega
      obtain ⟨fn, tmps, assign, body, hy, hR⟩ := hY _ ⟨Lib.ctz 64 t, hk⟩ wr hJs hlen
      dsimp only at hy
      have ht0 : (0 : Int) < (t : Int) := by omega
      clear hc hpre
      gi_wp2
      refine ⟨trivial, (callsIn_wide.2 (tz_any t h0 ht _ hT2)).mono ?_⟩
      rintro e w' ⟨rfl, rfl⟩
      gi_wp2
      refine hR.mono ?_
      rintro e W3 (⟨rfl, hJ3, hk3⟩ | ⟨rfl, hJx3⟩)
      · gi_wp2
        go_roundw
        case rel => exact ⟨t &&& (t - 1), _, by omega, hpre', by rw [HA.out], hJ3, hnx.trans hk3⟩
        case measure => rw [HA.out]; simp only [intOf]; omega
      · gi_wp2
        refine bodyPost_ret (results_none rfl _ _ _) rfl ?_
        exact ⟨⟨_, rfl⟩, .inr ⟨_, ⟨mem (t &&& (t - 1)), hpre'⟩, hJx3⟩⟩

theorem membersS_stops (n : Nat) (hn : 1 ≤ n) (Bs n₀ s : Nat) (hs : s < 64) (w : World) (hBs : Bs < w.heap.size) (hn₀ : n₀ ≤ w.heap.size) (hn1 : 1 < n₀)
    (hc : w.cell? ⟨Bs, 0, none⟩ = some (.int .i64 (s : Int))) (hT : Tab w) :
    SeqStopsK Fence.wide n Tryd.prog 89 #[.pointer (some ⟨Bs, 0, none⟩)] (fun x : MemS s => #[Value.int .i64 (x.1 : Int)]) (Below n₀) (fun ys => valsS ys = mem s)
      (fun pre => valsS pre <+: mem s) 6 w := fun l J Jx W hW _ _ hY h0 =>
  membersS1_in n hn l Bs n₀ s hs J Jx hY W ((hW.cell (p := ⟨Bs, 0, none⟩) hBs).trans hc) (hT.below hW (by omega)) hn1 h0

theorem yield_any {m : Nat} (m' : Nat) {P : Program} {l : Nat} {args : Array Value} {W : World} {R : Ending → World → Prop} (h : YieldAt Fence.wide m P l args W R) : YieldAt Fence.wide m' P l args W R := by
  obtain ⟨fn, tmps, assign, body, hy, hR⟩ := h
  exact ⟨fn, tmps, assign, body, hy, hR.1, fun c cs _ => hR.2 c cs (room_wide _)⟩

/-- Numbers of names. -/
def nI (p : List Nat) : List Int := List.map (fun (v : Nat) => (v : Int)) p

theorem nI_len (p : List Nat) : (nI p).length = p.length := by simp [nI]
theorem nI_snoc (p : List Nat) (v : Nat) : nI (p ++ [v]) = nI p ++ [(v : Int)] := by simp [nI]
theorem permsL_count : ∀ (k : Nat) (us : List Nat), us.length ≤ 6 → (permsL k us).length ≤ 6 ^ k
  | 0, _, _ => by simp [permsL]
  | k + 1, us, h => by
    rw [permsL]
    refine Nat.le_trans (flat_len _ (6 ^ k) us (fun v _ => ?_)) (by rw [Nat.pow_succ, Nat.mul_comm]; exact Nat.mul_le_mul_left _ h)
    rw [List.length_map]
    exact permsL_count k _ (Nat.le_trans (List.length_erase_le) h)

/-- What has been yielded behind names that were chosen first. -/
def partL (k : Nat) (us vs : List Nat) : List (List Nat) := vs.flatMap fun v => (permsL k (us.erase v)).map (v :: ·)

theorem partL_snoc (k : Nat) (us vs : List Nat) (v : Nat) : partL k us (vs ++ [v]) = partL k us vs ++ (permsL k (us.erase v)).map (v :: ·) := by simp [partL]
theorem partL_all (k : Nat) (us : List Nat) : partL k us us = permsL (k + 1) us := rfl
theorem partL_count (k : Nat) (us vs : List Nat) (h : us.length ≤ 6) : (partL k us vs).length ≤ vs.length * 6 ^ k := by
  unfold partL
  refine flat_len _ _ vs (fun v _ => ?_)
  rw [List.length_map]
  exact permsL_count k _ (Nat.le_trans (List.length_erase_le) h)

end Go.Proofs.YtacglafoahmcnaaDoor

/- It is proved that the greatest pack told club by club is the greatest one of all sets of places; conditions: those of each statement. -/
namespace Go.Proofs.YtacglafoahmcnaaDoor
open Go.RowKit

/-- The places of a set, of the first k. -/
def memK (k p : Nat) : List Nat := (List.range k).filter fun i => p.testBit i

theorem memK_two (k b q : Nat) (hb : b < 2) : memK (k + 1) (2 * q + b) = (if b = 1 then [0] else []) ++ (memK k q).map (· + 1) := by
  unfold memK
  rw [List.range_succ_eq_map, List.filter_cons, List.filter_map]
  have h0 : (2 * q + b).testBit 0 = decide (b = 1) := by
    rw [Nat.testBit_zero]
    congr 1
    rw [eq_iff_iff]
    omega
  have h1 : ((fun i => (2 * q + b).testBit i) ∘ Nat.succ) = fun i => q.testBit i := by
    funext i
    simp only [Function.comp, Nat.succ_eq_add_one, Nat.testBit_succ]
    rw [show (2 * q + b) / 2 = q by omega]
  rw [h0, h1]
  by_cases h : b = 1
  · simp [h]
  · simp [h]

/-- No two clubs at some places have a common member, nor one with a set. -/
def packB (zs : List Int) : List Nat → Nat → Bool
  | [], _ => true
  | p :: ps, met => decide ((zs[p]?.getD 0).toNat &&& met = 0) && packB zs ps (met ||| (zs[p]?.getD 0).toNat)

theorem packB_shift (z : Int) (zs : List Int) : ∀ (ps : List Nat) (met : Nat), packB (z :: zs) (ps.map (· + 1)) met = packB zs ps met
  | [], _ => rfl
  | p :: ps, met => by
    rw [List.map_cons, packB, packB, packB_shift z zs ps]
    rfl

/-- .. told club by club. -/
def packM : List Int → Nat → Nat
  | [], _ => 0
  | z :: zs, used => if z.toNat &&& used = 0 then max (packM zs used) (1 + packM zs (used ||| z.toNat)) else packM zs used

def IsMost (zs : List Int) (met n : Nat) : Prop := (∀ q, q < 2 ^ zs.length → packB zs (memK zs.length q) met = true → (memK zs.length q).length ≤ n) ∧ ∃ q, q < 2 ^ zs.length ∧ packB zs (memK zs.length q) met = true ∧ (memK zs.length q).length = n
theorem packM_most : ∀ (zs : List Int) (met : Nat), IsMost zs met (packM zs met)
  | [], met => ⟨fun q _ _ => by simp [memK], 0, by simp, rfl, rfl⟩
  | z :: zs, met => by
    obtain ⟨a1, q1, a2, a3, a4⟩ := packM_most zs met
    obtain ⟨b1, q2, b2, b3, b4⟩ := packM_most zs (met ||| z.toNat)
    have h00 : ∀ q, packB (z :: zs) (memK (zs.length + 1) (2 * q + 0)) met = packB zs (memK zs.length q) met := fun q => by
      rw [memK_two _ 0 q (by decide), if_neg (by decide), List.nil_append, packB_shift]
    have h01 : ∀ q, (memK (zs.length + 1) (2 * q + 0)).length = (memK zs.length q).length := fun q => by
      rw [memK_two _ 0 q (by decide), if_neg (by decide), List.nil_append, List.length_map]
    have h10 : ∀ q, packB (z :: zs) (memK (zs.length + 1) (2 * q + 1)) met = (decide (z.toNat &&& met = 0) && packB zs (memK zs.length q) (met ||| z.toNat)) := fun q => by
      rw [memK_two _ 1 q (by decide), if_pos rfl, List.singleton_append, packB, packB_shift]
      rfl
    have h11 : ∀ q, (memK (zs.length + 1) (2 * q + 1)).length = 1 + (memK zs.length q).length := fun q => by
      rw [memK_two _ 1 q (by decide), if_pos rfl, List.singleton_append, List.length_cons, List.length_map]; omega
    have hp : 2 ^ (z :: zs).length = 2 * 2 ^ zs.length := by rw [List.length_cons, Nat.pow_succ]; omega
    constructor
    · intro q hq hb
      rw [List.length_cons] at hb ⊢
      rcases Nat.mod_two_eq_zero_or_one q with h | h
      · obtain ⟨r, rfl⟩ : ∃ r, q = 2 * r + 0 := ⟨q / 2, by omega⟩
        rw [h00] at hb
        rw [h01]
        have := a1 r (by omega) hb
        rw [packM]; split <;> omega
      · obtain ⟨r, rfl⟩ : ∃ r, q = 2 * r + 1 := ⟨q / 2, by omega⟩
        rw [h10, Bool.and_eq_true, decide_eq_true_eq] at hb
        rw [h11, packM, if_pos hb.1]
        have := b1 r (by omega) hb.2
        omega
    · rw [packM]
      by_cases hz : z.toNat &&& met = 0
      · rw [if_pos hz]
        by_cases hm : packM zs met ≤ 1 + packM zs (met ||| z.toNat)
        · refine ⟨2 * q2 + 1, by omega, ?_, ?_⟩
          · rw [List.length_cons, h10, b3, hz]; rfl
          · rw [List.length_cons, h11, b4]; omega
        · refine ⟨2 * q1 + 0, by omega, ?_, ?_⟩
          · rw [List.length_cons, h00, a3]
          · rw [List.length_cons, h01, a4]; omega
      · rw [if_neg hz]
        refine ⟨2 * q1 + 0, by omega, ?_, ?_⟩
        · rw [List.length_cons, h00, a3]
        · rw [List.length_cons, h01, a4]

/-- .. and set by set. -/
def mostTo (zs : List Int) (n : Nat) : Nat := (List.range n).foldl (fun b q => if packB zs (memK zs.length q) 0 then max b (memK zs.length q).length else b) 0

theorem mostTo_succ (zs : List Int) (n : Nat) : mostTo zs (n + 1) = if packB zs (memK zs.length n) 0 then max (mostTo zs n) (memK zs.length n).length else mostTo zs n := by
  simp [mostTo, List.range_succ]

theorem mostTo_ge (zs : List Int) : ∀ n q, q < n → packB zs (memK zs.length q) 0 = true → (memK zs.length q).length ≤ mostTo zs n
  | 0, q, h, _ => by omega
  | n + 1, q, h, hb => by
    rw [mostTo_succ]
    by_cases e : q = n
    · subst e; rw [if_pos hb]; omega
    · have := mostTo_ge zs n q (by omega) hb
      split <;> omega

theorem mostTo_le (zs : List Int) (N : Nat) (h : ∀ q, q < 2 ^ zs.length → packB zs (memK zs.length q) 0 = true → (memK zs.length q).length ≤ N) : ∀ n, n ≤ 2 ^ zs.length → mostTo zs n ≤ N
  | 0, _ => by simp [mostTo]
  | n + 1, hn => by
    have h1 := mostTo_le zs N h n (by omega)
    rw [mostTo_succ]
    split
    · rename_i hb
      have := h n (by omega) hb
      omega
    · exact h1

theorem most_all (zs : List Int) : mostTo zs (2 ^ zs.length) = packM zs 0 := by
  obtain ⟨h1, q, h2, h3, h4⟩ := packM_most zs 0
  have := mostTo_ge zs _ q h2 h3
  have := mostTo_le zs _ h1 _ (Nat.le_refl _)
  omega

end Go.Proofs.YtacglafoahmcnaaDoor

/- It is proved what CoverPack of the program returns; conditions: those of each statement. -/
namespace Go.Proofs.YtacglafoahmcnaaDoor
open Go.RowKit Go.Shelf

attribute [local go_sem] Oper.semAt_some

theorem n08 {n : Nat} (h : n ≤ 8) : n = 0 ∨ n = 1 ∨ n = 2 ∨ n = 3 ∨ n = 4 ∨ n = 5 ∨ n = 6 ∨ n = 7 ∨ n = 8 := by omega
/-- The greatest pack of some sets of places. -/
def mostOf (zs : List Int) (qs : List Nat) : Nat := qs.foldl (fun b q => if packB zs (memK zs.length q) 0 then max b (memK zs.length q).length else b) 0

theorem mostOf_snoc (zs : List Int) (qs : List Nat) (q : Nat) : mostOf zs (qs ++ [q]) = if packB zs (memK zs.length q) 0 then max (mostOf zs qs) (memK zs.length q).length else mostOf zs qs := by
  simp [mostOf]

theorem mostOf_all (zs : List Int) : mostOf zs (List.range (2 ^ zs.length)) = packM zs 0 := most_all zs
def packZ (m : Int) (zs : List Int) : Int := if famIn m zs then ((packM zs 0 : Nat) : Int) else 0
end Go.Proofs.YtacglafoahmcnaaDoor

/- It is proved what the operations on sets of at most eight members are in terms of their bits; conditions: those of each statement. -/
namespace Go.Proofs.YtacglafoahmcnaaDoor
open Go.RowKit Go.Shelf

theorem and_at8 {x y : Nat} (hx : x < 256) (hy : y < 256) : bits .and .i64 (x : Int) (y : Int) = ((x &&& y : Nat) : Int) := (bits_nat .i64 8 (by decide) (fun n h0 h1 => by rw [IntKind.wrap_i64]; omega) x y hx hy).1
theorem or_at8 {x y : Nat} (hx : x < 256) (hy : y < 256) : bits .or .i64 (x : Int) (y : Int) = ((x ||| y : Nat) : Int) := (bits_nat .i64 8 (by decide) (fun n h0 h1 => by rw [IntKind.wrap_i64]; omega) x y hx hy).2
/-- A set without another one. -/
def anN (a b : Nat) : Nat := a &&& (2 ^ 64 - (b + 1))

theorem anN_bit (a b i : Nat) (ha : a < 256) (hb : b < 256) : (anN a b).testBit i = (a.testBit i && !b.testBit i) := by
  unfold anN
  rw [Nat.testBit_and, Nat.testBit_two_pow_sub_succ (by omega)]
  by_cases hi : i < 64
  · simp [hi]
  · have : a.testBit i = false := Nat.testBit_lt_two_pow (Nat.lt_of_lt_of_le ha (Nat.le_trans (by decide : 256 ≤ 2 ^ 8) (Nat.pow_le_pow_right (by decide) (by omega))))
    simp [this]

theorem anN_le (a b : Nat) : anN a b ≤ a := Nat.and_le_left
theorem an_at8 {a b : Nat} (ha : a < 256) (hb : b < 256) : bits .andNot .i64 (a : Int) (b : Int) = ((anN a b : Nat) : Int) := by
  have h2 := anN_le a b
  show IntKind.i64.wrap ((BitVec.ofInt 64 (a : Int) &&& ~~~BitVec.ofInt 64 (b : Int)).toNat : Int) = _
  rw [BitVec.toNat_and, BitVec.toNat_not, ofInt_u64 a (by omega), ofInt_u64 b (by omega), IntKind.wrap_i64]
  have e : 2 ^ 64 - 1 - b = 2 ^ 64 - (b + 1) := by omega
  rw [e]
  unfold anN at h2 ⊢
  omega

theorem bits_sub (a b : Nat) : a &&& b = a ↔ ∀ i, a.testBit i = true → b.testBit i = true := by
  constructor
  · intro h i hi
    have := congrArg (fun n => n.testBit i) h
    simp only [Nat.testBit_and, hi, Bool.true_and] at this
    exact this
  · intro h
    apply Nat.eq_of_testBit_eq
    intro i
    rw [Nat.testBit_and]
    cases h1 : a.testBit i
    · simp
    · simp [h i h1]

theorem an_zero {a b : Nat} (ha : a < 256) (hb : b < 256) : anN a b = 0 ↔ a &&& b = a := by
  rw [bits_sub]
  constructor
  · intro h i hi
    have := anN_bit a b i ha hb
    rw [h, Nat.zero_testBit, hi, Bool.true_and] at this
    cases h2 : b.testBit i <;> simp_all
  · intro h
    apply Nat.eq_of_testBit_eq
    intro i
    rw [anN_bit a b i ha hb, Nat.zero_testBit]
    cases h1 : a.testBit i
    · rfl
    · rw [h i h1]; rfl

/-- A set is a part of another one. -/
def subN (a b : Nat) : Bool := decide (a &&& b = a)

theorem subN_iff (a b : Nat) : subN a b = true ↔ ∀ i, a.testBit i = true → b.testBit i = true := by unfold subN; rw [decide_eq_true_eq, bits_sub]
theorem leG8 {o z : Nat} (ho : o < 256) (hz : z < 256) : leG (o : Int) (z : Int) = subN o z := by
  unfold leG subN
  rw [an_at8 ho hz, Bool.eq_iff_iff, beq_iff_eq, decide_eq_true_eq, ← an_zero ho hz]
  omega

theorem an_ne {a b : Nat} (ha : a < 256) (hb : b < 256) : (((anN a b : Nat) : Int) != 0) = !subN a b := by
  unfold subN
  rw [Bool.eq_iff_iff, bne_iff_ne, Bool.not_eq_true', decide_eq_false_iff_not, ← an_zero ha hb]
  omega

theorem p256 {m s : Nat} (hm : m ≤ 8) (hs : s < 2 ^ m) : s < 256 := Nat.lt_of_lt_of_le hs (Nat.pow_le_pow_right (n := 2) (by decide) hm)
set_option maxRecDepth 100000 in
theorem has8_fin : ∀ x : Fin 256, ∀ p : Fin 8, (bits BinOp.and IntKind.i64 ((x.val : Int) / 2 ^ p.val) 1 == 1) = x.val.testBit p.val := by decide +kernel

theorem has8_any (x p : Nat) (hx : x < 256) (hp : p < 8) (w : World) :
    Calls Tryd.prog 108 #[.int .i64 (x : Int), .int .i64 (p : Int)] w fun e w' => e = .returned (.bool (x.testBit p)) ∧ w = w' := by
  have HH := Lib.hid (has8_fin ⟨x, hx⟩ ⟨p, hp⟩)
  simp only at HH
  go_enter Tryd.func108, Tryd.ntmps108
  go_wp2
  go_ret
  exact ⟨by rw [← HH.out]; rfl, rfl⟩

theorem wo8_at {x p : Nat} (hx : x < 256) (hp : p < 8) : bits .andNot .i64 (x : Int) (2 ^ p) = ((anN x (2 ^ p) : Nat) : Int) := by
  have h2 : (2 : Nat) ^ p < 256 := Nat.pow_lt_pow_right (a := 2) (n := 8) (by decide) hp
  have := an_at8 hx h2
  rw [← this]
  norm_cast

theorem without8_any (x p : Nat) (hx : x < 256) (hp : p < 8) (w : World) :
    Calls Tryd.prog 59 #[.int .i64 (x : Int), .int .i64 (p : Int)] w fun e w' => e = .returned (.int .i64 ((anN x (2 ^ p) : Nat) : Int)) ∧ w = w' := by
  have hp8 : (p : Int) < 8 := by omega
  obtain ⟨h1, h2⟩ := p2_small p (by omega)
  have HO := Lib.hid (wo8_at hx hp)
  go_enter Tryd.func59, Tryd.ntmps59
  go_wp2
  go_ret
  exact ⟨by rw [HO.out]; rfl, rfl⟩

theorem partOf8_any (x y : Nat) (hx : x < 256) (hy : y < 256) (w : World) : Calls Tryd.prog 130 #[.int .i64 (x : Int), .int .i64 (y : Int)] w fun e w' => e = .returned (.bool (subN x y)) ∧ w = w' := by
  have := partOf_any (x : Int) (y : Int) w
  rwa [leG8 hx hy] at this

set_option maxRecDepth 100000 in
theorem full8_any (k : Nat) (a : Option Addr) (n c : Nat) (w : World) (hk : k ≤ 8) :
    Calls Tryd.prog 57 #[.agg #[.int .i64 (k : Int), .slice a n c]] w fun e w' => e = .returned (.int .i64 ((2 ^ k - 1 : Nat) : Int)) ∧ w' = w.alloc (.cells #[.int .i64 (k : Int), .slice a n c] 25) := by
  rcases n08 hk with rfl | rfl | rfl | rfl | rfl | rfl | rfl | rfl | rfl
  all_goals
    go_enter Tryd.func57, Tryd.ntmps57
    go_wp2
    go_ret
    exact ⟨rfl, rfl⟩

theorem mem8_iff {s v : Nat} (hs : s < 256) : v ∈ memK 8 s ↔ s.testBit v = true := by
  unfold memK
  rw [List.mem_filter, List.mem_range]
  constructor
  · exact fun h => h.2
  · intro h
    refine ⟨?_, h⟩
    apply Decidable.byContradiction
    intro hv
    rw [Nat.testBit_lt_two_pow (Nat.lt_of_lt_of_le hs (Nat.le_trans (by decide : 256 ≤ 2 ^ 8) (Nat.pow_le_pow_right (by decide) (by omega))))] at h
    cases h

end Go.Proofs.YtacglafoahmcnaaDoor
