/- It is proved how a Family among a law's arguments reads as a number and a list of ints; conditions: none but that the argument can be read. -/
import Derived.Test.YtphddemilibooaaDoorRows
import Derived.WalkKit
import Derived.WalkSpells
import Derived.ProofKit
import Derived.OpenShut
import Derived.ShutString
import Derived.ChangeOld
import Derived.Below
import Derived.Deep.RegionHeld3
import Derived.Deep.QuietTactic
import Derived.BigQuiet
import Derived.Lib.Hide
import Derived.Lib.SmallJoins
import Derived.Outline
import Derived.Laws.MakeOwn
import Derived.Laws.OwnMore
import Derived.IntWalk
import Derived.Test.YtphddemilibooaaDoorRaaa
import Derived.Test.YtphddemilibooaaDoorRaab
import Derived.Deep.RegionLaw
import Derived.Deep.AppendLies
import Derived.RangeFuncNested
import Derived.RangeFuncBound
import Derived.RangeFuncCalls
import Derived.RangeFuncLeaves
import Derived.RangeFuncBox
import Derived.Shelf.Abstract
import Derived.Shelf.RegionOpen
import Derived.OwnWalkIn
import Derived.TacticsInMore
import Derived.LoopNIn
import Derived.LoopIn
import Derived.Maps.AppendAt
import Derived.OwnWalk
import Derived.Shelf.Spec.TrailingZeros
import Derived.Test.YtphddemilibooaaDoorRaad
import Derived.Lib.AppendZeros
import Derived.Lib.SlicesCompact
import Derived.Lib.OwnBridge
import Derived.Shelf.Sort.Plain
import Derived.Shelf.Slices.In.SortNone
import Derived.Shelf.Slices.CompactI
import Derived.Ground.Names2Prog
import Derived.Lib.SliceRun
import Derived.StillTail
import Derived.StillTactics
import Derived.OrdersIn
import Derived.TacticsIn
import Derived.StillTailTactics
import Derived.RowKit
import Derived.Laws.CopyRow
import Derived.Lib.SlBuf
import Derived.RangeFuncWrites
import Derived.Maps.OwnIn
import Derived.Maps.Ext
import Derived.DeepKeys4
import Derived.MapKept
import Derived.Test.YtphddemilibooaaDoorRaaj
namespace Go.Proofs.YtphddemilibooaaDoor
open Go.ChangeShapes Go.WideShapes Go.ChangeAt Go.RowKit Go.Joins
open Go.ChangeMaps (open_string shut_string)

theorem Tryd.own : ownKnob Tryd.prog.godebug = none := by kernel_rfl
theorem Tryd.laidOut : laidOutB Tryd.prog = true := by kernel_rfl
theorem Tryd.cells3 : Tryd.prog.cellsOf 3 = 1 := by kernel_rfl
theorem Tryd.cells23 : Tryd.prog.cellsOf 23 = 1 := by kernel_rfl
theorem ints_of_row {W : World} {x : Addr} {l c : Nat} {zs : List Int} (hl : l ≤ c) (hz : zs.length = c)
    (hcell : ∀ i, i < zs.length → W.cell? (x.add i) = some (.int .i64 (zs.getD i 0))) : Ints W W.heap.size (some x) (zs.take l) := by
  by_cases h0 : l = 0
  · subst h0; exact .inl (by simp)
  · obtain ⟨b, off, spot⟩ := x
    have hc := hcell 0 (by omega)
    have hspot : spot = none := by simpa [Addr.add] using World.cell?_spot hc
    subst hspot
    refine .inr ⟨b, off, rfl, by simpa [Addr.add] using World.block_lt_of_cell? W _ hc, fun j hj => ?_⟩
    have hj' : j < l := by simp at hj; omega
    have := hcell j (by omega)
    rw [show (⟨b, off, none⟩ : Addr).add j = ⟨b, off + j, none⟩ from by unfold Addr.add; split <;> simp_all] at this
    rw [this]
    simp [List.getD, hj']

end Go.Proofs.YtphddemilibooaaDoor

/- It is proved how boxed families and lists are kept while the laws go on; conditions: those of each statement. -/
namespace Go.Proofs.YtphddemilibooaaDoor
open Go.RowKit

/-- A family in a box. -/
structure FB (X : Nat) (m : Int) (a : Option Addr) (zs : List Int) (c : Nat) (W : World) : Prop where
  blk : HasBlk W X #[.int .i64 m, .slice a zs.length c] 25
  ints : Ints W W.heap.size a zs

theorem FB.step {X : Nat} {m : Int} {a : Option Addr} {zs : List Int} {c : Nat} {W W' : World} (h : FB X m a zs c W) (hb : Below W.heap.size W W') : FB X m a zs c W' :=
  ⟨(hb.block X (lt_of_some h.blk)).trans h.blk, (h.ints.below hb).mono hb.size⟩

theorem FB.start {w : World} {m : Int} {a : Option Addr} {zs : List Int} {c : Nat} (h : Ints w w.heap.size a zs) : FB w.heap.size m a zs c (w.alloc (.cells #[.int .i64 m, .slice a zs.length c] 25)) :=
  ⟨alloc_new w _, (h.below (below1 w _)).mono (by simp)⟩

theorem FB.x0 {X : Nat} {m : Int} {a : Option Addr} {zs : List Int} {c : Nat} {W : World} (h : FB X m a zs c W) : W.cell? ⟨X, 0, none⟩ = some (.int .i64 m) := (blk_cell h.blk 0).trans (cell2_0 _ _)
theorem FB.x1 {X : Nat} {m : Int} {a : Option Addr} {zs : List Int} {c : Nat} {W : World} (h : FB X m a zs c W) : W.cell? ⟨X, 1, none⟩ = some (.slice a zs.length c) := (blk_cell h.blk 1).trans (cell2_1 _ _)
theorem Ints.step {W W' : World} {a : Option Addr} {zs : List Int} (h : Ints W W.heap.size a zs) (hb : Below W.heap.size W W') : Ints W' W'.heap.size a zs := (h.below hb).mono hb.size
end Go.Proofs.YtphddemilibooaaDoor

/- It is proved that the greatest pack told club by club is the greatest one of all sets of places; conditions: those of each statement. -/
namespace Go.Proofs.YtphddemilibooaaDoor
open Go.RowKit

/-- The places of a set, of the first k. -/
def memK (k p : Nat) : List Nat := (List.range k).filter fun i => p.testBit i

theorem memK_two (k b q : Nat) (hb : b < 2) : memK (k + 1) (2 * q + b) = (if b = 1 then [0] else []) ++ (memK k q).map (· + 1) := by
  unfold memK
  rw [List.range_succ_eq_map, List.filter_cons, List.filter_map]
  have h0 : (2 * q + b).testBit 0 = decide (b = 1) := by
    rw [Nat.testBit_zero]
    congr 1
    rw [eq_iff_iff]
    omega
  have h1 : ((fun i => (2 * q + b).testBit i) ∘ Nat.succ) = fun i => q.testBit i := by
    funext i
    simp only [Function.comp, Nat.succ_eq_add_one, Nat.testBit_succ]
    rw [show (2 * q + b) / 2 = q by omega]
  rw [h0, h1]
  by_cases h : b = 1
  · simp [h]
  · simp [h]

/-- No two clubs at some places have a common member, nor one with a set. -/
def packB (zs : List Int) : List Nat → Nat → Bool
  | [], _ => true
  | p :: ps, met => decide ((zs[p]?.getD 0).toNat &&& met = 0) && packB zs ps (met ||| (zs[p]?.getD 0).toNat)

theorem packB_shift (z : Int) (zs : List Int) : ∀ (ps : List Nat) (met : Nat), packB (z :: zs) (ps.map (· + 1)) met = packB zs ps met
  | [], _ => rfl
  | p :: ps, met => by
    rw [List.map_cons, packB, packB, packB_shift z zs ps]
    rfl

/-- .. told club by club. -/
def packM : List Int → Nat → Nat
  | [], _ => 0
  | z :: zs, used => if z.toNat &&& used = 0 then max (packM zs used) (1 + packM zs (used ||| z.toNat)) else packM zs used

theorem packM_le : ∀ (zs : List Int) (used : Nat), packM zs used ≤ zs.length
  | [], _ => Nat.le_refl _
  | z :: zs, used => by
    have h1 := packM_le zs used
    have h2 := packM_le zs (used ||| z.toNat)
    rw [packM, List.length_cons]
    split <;> omega

def IsMost (zs : List Int) (met n : Nat) : Prop := (∀ q, q < 2 ^ zs.length → packB zs (memK zs.length q) met = true → (memK zs.length q).length ≤ n) ∧ ∃ q, q < 2 ^ zs.length ∧ packB zs (memK zs.length q) met = true ∧ (memK zs.length q).length = n
theorem packM_most : ∀ (zs : List Int) (met : Nat), IsMost zs met (packM zs met)
  | [], met => ⟨fun q _ _ => by simp [memK], 0, by simp, rfl, rfl⟩
  | z :: zs, met => by
    obtain ⟨a1, q1, a2, a3, a4⟩ := packM_most zs met
    obtain ⟨b1, q2, b2, b3, b4⟩ := packM_most zs (met ||| z.toNat)
    have h00 : ∀ q, packB (z :: zs) (memK (zs.length + 1) (2 * q + 0)) met = packB zs (memK zs.length q) met := fun q => by
      rw [memK_two _ 0 q (by decide), if_neg (by decide), List.nil_append, packB_shift]
    have h01 : ∀ q, (memK (zs.length + 1) (2 * q + 0)).length = (memK zs.length q).length := fun q => by
      rw [memK_two _ 0 q (by decide), if_neg (by decide), List.nil_append, List.length_map]
    have h10 : ∀ q, packB (z :: zs) (memK (zs.length + 1) (2 * q + 1)) met = (decide (z.toNat &&& met = 0) && packB zs (memK zs.length q) (met ||| z.toNat)) := fun q => by
      rw [memK_two _ 1 q (by decide), if_pos rfl, List.singleton_append, packB, packB_shift]
      rfl
    have h11 : ∀ q, (memK (zs.length + 1) (2 * q + 1)).length = 1 + (memK zs.length q).length := fun q => by
      rw [memK_two _ 1 q (by decide), if_pos rfl, List.singleton_append, List.length_cons, List.length_map]; omega
    have hp : 2 ^ (z :: zs).length = 2 * 2 ^ zs.length := by rw [List.length_cons, Nat.pow_succ]; omega
    constructor
    · intro q hq hb
      rw [List.length_cons] at hb ⊢
      rcases Nat.mod_two_eq_zero_or_one q with h | h
      · obtain ⟨r, rfl⟩ : ∃ r, q = 2 * r + 0 := ⟨q / 2, by omega⟩
        rw [h00] at hb
        rw [h01]
        have := a1 r (by omega) hb
        rw [packM]; split <;> omega
      · obtain ⟨r, rfl⟩ : ∃ r, q = 2 * r + 1 := ⟨q / 2, by omega⟩
        rw [h10, Bool.and_eq_true, decide_eq_true_eq] at hb
        rw [h11, packM, if_pos hb.1]
        have := b1 r (by omega) hb.2
        omega
    · rw [packM]
      by_cases hz : z.toNat &&& met = 0
      · rw [if_pos hz]
        by_cases hm : packM zs met ≤ 1 + packM zs (met ||| z.toNat)
        · refine ⟨2 * q2 + 1, by omega, ?_, ?_⟩
          · rw [List.length_cons, h10, b3, hz]; rfl
          · rw [List.length_cons, h11, b4]; omega
        · refine ⟨2 * q1 + 0, by omega, ?_, ?_⟩
          · rw [List.length_cons, h00, a3]
          · rw [List.length_cons, h01, a4]; omega
      · rw [if_neg hz]
        refine ⟨2 * q1 + 0, by omega, ?_, ?_⟩
        · rw [List.length_cons, h00, a3]
        · rw [List.length_cons, h01, a4]

/-- .. and set by set. -/
def mostTo (zs : List Int) (n : Nat) : Nat := (List.range n).foldl (fun b q => if packB zs (memK zs.length q) 0 then max b (memK zs.length q).length else b) 0

theorem mostTo_succ (zs : List Int) (n : Nat) : mostTo zs (n + 1) = if packB zs (memK zs.length n) 0 then max (mostTo zs n) (memK zs.length n).length else mostTo zs n := by
  simp [mostTo, List.range_succ]

theorem mostTo_ge (zs : List Int) : ∀ n q, q < n → packB zs (memK zs.length q) 0 = true → (memK zs.length q).length ≤ mostTo zs n
  | 0, q, h, _ => by omega
  | n + 1, q, h, hb => by
    rw [mostTo_succ]
    by_cases e : q = n
    · subst e; rw [if_pos hb]; omega
    · have := mostTo_ge zs n q (by omega) hb
      split <;> omega

theorem mostTo_le (zs : List Int) (N : Nat) (h : ∀ q, q < 2 ^ zs.length → packB zs (memK zs.length q) 0 = true → (memK zs.length q).length ≤ N) : ∀ n, n ≤ 2 ^ zs.length → mostTo zs n ≤ N
  | 0, _ => by simp [mostTo]
  | n + 1, hn => by
    have h1 := mostTo_le zs N h n (by omega)
    rw [mostTo_succ]
    split
    · rename_i hb
      have := h n (by omega) hb
      omega
    · exact h1

theorem most_all (zs : List Int) : mostTo zs (2 ^ zs.length) = packM zs 0 := by
  obtain ⟨h1, q, h2, h3, h4⟩ := packM_most zs 0
  have := mostTo_ge zs _ q h2 h3
  have := mostTo_le zs _ h1 _ (Nat.le_refl _)
  omega

end Go.Proofs.YtphddemilibooaaDoor

/- It is proved what l2Own returns; conditions: those of each statement. -/
namespace Go.Proofs.YtphddemilibooaaDoor
open Go.RowKit Go.Shelf

theorem field_fam (x0 : Int) (a : Option Addr) (n c : Nat) (w : World) : (Instr.field 25 (.agg #[.int .i64 x0, .slice a n c]) 1).run Tryd.prog w = .ok (.slice a n c) w := by kernel_rfl
end Go.Proofs.YtphddemilibooaaDoor

/- It is proved what the iterator over a set's members yields, each member known to be one; conditions: those of each statement. -/
namespace Go.Proofs.YtphddemilibooaaDoor
open Go.RowKit Go.Shelf

attribute [local go_sem] Oper.semAt_some

/-- A member of s. -/
abbrev MemS (s : Nat) := { v : Nat // v ∈ mem s }

def valsS {s : Nat} (ys : List (MemS s)) : List Nat := ys.map (·.1)
theorem valsS_snoc {s : Nat} (ys : List (MemS s)) (y : MemS s) : valsS (ys ++ [y]) = valsS ys ++ [y.1] := by simp [valsS]
set_option maxRecDepth 100000 in
set_option maxHeartbeats 2000000 in
theorem membersS1_in (n : Nat) (hn : 1 ≤ n) (l Bs n₀ s : Nat) (hs64 : s < 64) (J Jx : List (MemS s) → World → Prop)
    (hY : ∀ pre x W, J pre W → pre.length < 6 → YieldAt Fence.wide (n - 1) Tryd.prog l #[.int .i64 (x.1 : Int)] W fun e W' =>
      (e = .returned (.bool true) ∧ J (pre ++ [x]) W' ∧ Below n₀ W W') ∨ (e = .returned (.bool false) ∧ Jx (pre ++ [x]) W'))
    (W : World) (hBs : W.cell? ⟨Bs, 0, none⟩ = some (.int .i64 (s : Int))) (hT : Tab W) (hn0 : 1 < n₀) (h0 : J [] W) :
    CallsIn Fence.wide n Tryd.prog 64 #[.func (.yield l) #[] #[], .pointer (some ⟨Bs, 0, none⟩)] W fun e W' => (∃ v, e = .returned v) ∧
      ((∃ ys, valsS ys = mem s ∧ J ys W') ∨ (∃ pre, valsS pre <+: mem s ∧ Jx pre W')) := by
  have hss : (s : Int) < 64 := by omega
  refine callsIn_of_wp Tryd.func64 rfl trivial ?_ rfl
  simp only [Tryd.ntmps64, List.size_toArray, List.length_cons, List.length_nil, Nat.reduceAdd, Nat.reduceSub, Array.replicate_succ, Array.replicate_zero, List.push_toArray, List.append_toArray, List.nil_append, List.cons_append]
  gi_wp2
  gi_loopw [3] (fun r wr => ∃ (t : Nat) (pre : List (MemS s)), t < 64 ∧ valsS pre ++ mem t = mem s ∧ r = .int .u64 (t : Int) ∧ J pre wr ∧ Below n₀ W wr)
    (fun r _ => (intOf r).toNat)
  case atStart => exact ⟨s, [], hs64, by simp [valsS], rfl, h0, Below.refl _ _⟩
  case round =>
    obtain ⟨t, pre, ht, hpre, rfl, hJs, hnx⟩ := hrel
    by_cases h0 : t = 0
    · subst h0
      rw [mem_zero, List.append_nil] at hpre
      gi_wp2
      go_end0
      exact ⟨⟨_, rfl⟩, .inl ⟨pre, hpre, hJs⟩⟩
    · have hc := mem_cons t ht h0
      rw [hc] at hpre
      have hk : Lib.ctz 64 t ∈ mem s := by rw [← hpre]; simp
      have hlen : pre.length < 6 := by
        have h1 := mem_length s hs64
        rw [← hpre] at h1
        simp [valsS] at h1
        omega
      have HA := Lib.hid (low_and t h0 ht)
      have hT2 : Tab wr := hT.below hnx hn0
      have hpre' : valsS (pre ++ [(⟨Lib.ctz 64 t, hk⟩ : MemS s)]) ++ mem (t &&& (t - 1)) = mem s := (by rw [valsS_snoc, List.append_assoc]; exact hpre)
      have hlt : t &&& (t - 1) < t := by have := @Nat.and_le_right t (t - 1); omega
      obtain ⟨fn, tmps, assign, body, hy, hR⟩ := hY _ ⟨Lib.ctz 64 t, hk⟩ wr hJs hlen
      dsimp only at hy
      have ht0 : (0 : Int) < (t : Int) := by omega
      clear hc hpre
      gi_wp2
      refine ⟨trivial, (callsIn_wide.2 (tz_any t h0 ht _ hT2)).mono ?_⟩
      rintro e w' ⟨rfl, rfl⟩
      gi_wp2
      refine hR.mono ?_
      rintro e W3 (⟨rfl, hJ3, hk3⟩ | ⟨rfl, hJx3⟩)
      · gi_wp2
        go_roundw
        case rel => exact ⟨t &&& (t - 1), _, by omega, hpre', by rw [HA.out], hJ3, hnx.trans hk3⟩
        case measure => rw [HA.out]; simp only [intOf]; omega
      · gi_wp2
        refine bodyPost_ret (results_none rfl _ _ _) rfl ?_
        exact ⟨⟨_, rfl⟩, .inr ⟨_, ⟨mem (t &&& (t - 1)), hpre'⟩, hJx3⟩⟩

theorem membersS_stops (n : Nat) (hn : 1 ≤ n) (Bs n₀ s : Nat) (hs : s < 64) (w : World) (hBs : Bs < w.heap.size) (hn₀ : n₀ ≤ w.heap.size) (hn1 : 1 < n₀)
    (hc : w.cell? ⟨Bs, 0, none⟩ = some (.int .i64 (s : Int))) (hT : Tab w) :
    SeqStopsK Fence.wide n Tryd.prog 64 #[.pointer (some ⟨Bs, 0, none⟩)] (fun x : MemS s => #[Value.int .i64 (x.1 : Int)]) (Below n₀) (fun ys => valsS ys = mem s)
      (fun pre => valsS pre <+: mem s) 6 w := fun l J Jx W hW _ _ hY h0 =>
  membersS1_in n hn l Bs n₀ s hs J Jx hY W ((hW.cell (p := ⟨Bs, 0, none⟩) hBs).trans hc) (hT.below hW (by omega)) hn1 h0

theorem yield_any {m : Nat} (m' : Nat) {P : Program} {l : Nat} {args : Array Value} {W : World} {R : Ending → World → Prop} (h : YieldAt Fence.wide m P l args W R) : YieldAt Fence.wide m' P l args W R := by
  obtain ⟨fn, tmps, assign, body, hy, hR⟩ := h
  exact ⟨fn, tmps, assign, body, hy, hR.1, fun c cs _ => hR.2 c cs (room_wide _)⟩

/-- Numbers of names. -/
def nI (p : List Nat) : List Int := List.map (fun (v : Nat) => (v : Int)) p

theorem nI_len (p : List Nat) : (nI p).length = p.length := by simp [nI]
end Go.Proofs.YtphddemilibooaaDoor
