/- It is proved what the iterator over a set's members yields, each member known to be one; conditions: those of each statement. -/
import Derived.RowKit
import Derived.RangeFuncNested
import Derived.RangeFuncBound
import Derived.RangeFuncCalls
import Derived.RangeFuncLeaves
import Derived.RangeFuncBox
import Derived.RangeFuncWrites
import Derived.Test.YtfhhfilkabjhaaaDoorRows
import Derived.WalkKit
import Derived.WalkSpells
import Derived.ProofKit
import Derived.OpenShut
import Derived.ShutString
import Derived.ChangeOld
import Derived.Below
import Derived.Deep.RegionHeld3
import Derived.Deep.QuietTactic
import Derived.BigQuiet
import Derived.Lib.Hide
import Derived.Lib.SmallJoins
import Derived.Outline
import Derived.Laws.MakeOwn
import Derived.Laws.OwnMore
import Derived.IntWalk
import Derived.Shelf.Abstract
import Derived.Shelf.RegionOpen
import Derived.OwnWalkIn
import Derived.TacticsInMore
import Derived.LoopNIn
import Derived.LoopIn
import Derived.Maps.AppendAt
import Derived.Shelf.Spec.TrailingZeros
import Derived.Test.YtfhhfilkabjhaaaDoorRaap
import Derived.Test.YtfhhfilkabjhaaaDoorRaae
import Derived.Test.YtfhhfilkabjhaaaDoorRaah
import Derived.OrdersIn
import Derived.TacticsIn
import Derived.Laws.CopyRow
import Derived.Lib.SlBuf
import Derived.StillTailTactics
import Derived.Maps.OwnIn
import Derived.Maps.Ext
import Derived.DeepKeys4
import Derived.MapKept
import Derived.Sort.MapsRangeIn
import Derived.Deep.RegionLaw
import Derived.Deep.AppendLies
import Derived.Lib.AppendZeros
import Derived.OwnWalk
import Derived.Lib.SlicesCompact
import Derived.Lib.OwnBridge
import Derived.Shelf.Sort.Plain
import Derived.Shelf.Slices.In.SortNone
import Derived.Shelf.Slices.CompactI
import Derived.Ground.Names2Prog
import Derived.Lib.SliceRun
import Derived.StillTail
import Derived.StillTactics
import Derived.Deep.LoopGhost
import Derived.Test.YtfhhfilkabjhaaaDoorRaad
namespace Go.Proofs.YtfhhfilkabjhaaaDoor
open Go.RowKit Go.Shelf

attribute [local go_sem] Oper.semAt_some

/-- A member of s. -/
abbrev MemS (s : Nat) := { v : Nat // v ∈ mem s }

def valsS {s : Nat} (ys : List (MemS s)) : List Nat := ys.map (·.1)
theorem valsS_snoc {s : Nat} (ys : List (MemS s)) (y : MemS s) : valsS (ys ++ [y]) = valsS ys ++ [y.1] := by simp [valsS]
set_option maxRecDepth 100000 in
set_option maxHeartbeats 2000000 in
theorem membersS1_in (n : Nat) (hn : 1 ≤ n) (l Bs n₀ s : Nat) (hs64 : s < 64) (J Jx : List (MemS s) → World → Prop)
    (hY : ∀ pre x W, J pre W → pre.length < 6 → YieldAt Fence.wide (n - 1) Tryd.prog l #[.int .i64 (x.1 : Int)] W fun e W' =>
      (e = .returned (.bool true) ∧ J (pre ++ [x]) W' ∧ Below n₀ W W') ∨ (e = .returned (.bool false) ∧ Jx (pre ++ [x]) W'))
    (W : World) (hBs : W.cell? ⟨Bs, 0, none⟩ = some (.int .i64 (s : Int))) (hT : Tab W) (hn0 : 1 < n₀) (h0 : J [] W) :
    CallsIn Fence.wide n Tryd.prog 87 #[.func (.yield l) #[] #[], .pointer (some ⟨Bs, 0, none⟩)] W fun e W' => (∃ v, e = .returned v) ∧
      ((∃ ys, valsS ys = mem s ∧ J ys W') ∨ (∃ pre, valsS pre <+: mem s ∧ Jx pre W')) := by
  have hss : (s : Int) < 64 := by omega
  refine callsIn_of_wp Tryd.func87 rfl trivial ?_ rfl
  simp only [Tryd.ntmps87, List.size_toArray, List.length_cons, List.length_nil, Nat.reduceAdd, Nat.reduceSub, Array.replicate_succ, Array.replicate_zero, List.push_toArray, List.append_toArray, List.nil_append, List.cons_append]
  gi_wp2
  gi_loopw [3] (fun r wr => ∃ (t : Nat) (pre : List (MemS s)), t < 64 ∧ valsS pre ++ mem t = mem s ∧ r = .int .u64 (t : Int) ∧ J pre wr ∧ Below n₀ W wr)
    (fun r _ => (intOf r).toNat)
  case atStart => exact ⟨s, [], hs64, by simp [valsS], rfl, h0, Below.refl _ _⟩
  case round =>
    obtain ⟨t, pre, ht, hpre, rfl, hJs, hnx⟩ := hrel
    by_cases h0 : t = 0
    · subst h0
      rw [mem_zero, List.append_nil] at hpre
      gi_wp2
      go_end0
      exact ⟨⟨_, rfl⟩, .inl ⟨pre, hpre, hJs⟩⟩
    · have hc := mem_cons t ht h0
      rw [hc] at hpre
      have hk : Lib.ctz 64 t ∈ mem s := by rw [← hpre]; simp
      have hlen : pre.length < 6 := by
        have h1 := mem_length s hs64
        rw [← hpre] at h1
        simp [valsS] at h1
        omega
      have HA := Lib.hid (low_and t h0 ht)
      have hT2 : Tab wr := hT.below hnx hn0
      have hpre' : valsS (pre ++ [(⟨Lib.ctz 64 t, hk⟩ : MemS s)]) ++ mem (t &&& (t - 1)) = mem s := (by rw [valsS_snoc, List.append_assoc]; exact hpre)
      have hlt : t &&& (t - 1) < t := by have := @Nat.and_le_right t (t - 1); omega
      obtain ⟨fn, tmps, assign, body, hy, hR⟩ := hY _ ⟨Lib.ctz 64 t, hk⟩ wr hJs hlen
      dsimp only at hy
      have ht0 : (0 : Int) < (t : Int) := by omega
      clear hc hpre
      gi_wp2
      refine ⟨trivial, (callsIn_wide.2 (tz_any t h0 ht _ hT2)).mono ?_⟩
      rintro e w' ⟨rfl, rfl⟩
      gi_wp2
      refine hR.mono ?_
      rintro e W3 (⟨rfl, hJ3, hk3⟩ | ⟨rfl, hJx3⟩)
      · gi_wp2
        go_roundw
        case rel => exact ⟨t &&& (t - 1), _, by omega, hpre', by rw [HA.out], hJ3, hnx.trans hk3⟩
        case measure => rw [HA.out]; simp only [intOf]; omega
      · gi_wp2
        refine bodyPost_ret (results_none rfl _ _ _) rfl ?_
        exact ⟨⟨_, rfl⟩, .inr ⟨_, ⟨mem (t &&& (t - 1)), hpre'⟩, hJx3⟩⟩

theorem membersS_stops (n : Nat) (hn : 1 ≤ n) (Bs n₀ s : Nat) (hs : s < 64) (w : World) (hBs : Bs < w.heap.size) (hn₀ : n₀ ≤ w.heap.size) (hn1 : 1 < n₀)
    (hc : w.cell? ⟨Bs, 0, none⟩ = some (.int .i64 (s : Int))) (hT : Tab w) :
    SeqStopsK Fence.wide n Tryd.prog 87 #[.pointer (some ⟨Bs, 0, none⟩)] (fun x : MemS s => #[Value.int .i64 (x.1 : Int)]) (Below n₀) (fun ys => valsS ys = mem s)
      (fun pre => valsS pre <+: mem s) 6 w := fun l J Jx W hW _ _ hY h0 =>
  membersS1_in n hn l Bs n₀ s hs J Jx hY W ((hW.cell (p := ⟨Bs, 0, none⟩) hBs).trans hc) (hT.below hW (by omega)) hn1 h0

theorem yield_any {m : Nat} (m' : Nat) {P : Program} {l : Nat} {args : Array Value} {W : World} {R : Ending → World → Prop} (h : YieldAt Fence.wide m P l args W R) : YieldAt Fence.wide m' P l args W R := by
  obtain ⟨fn, tmps, assign, body, hy, hR⟩ := h
  exact ⟨fn, tmps, assign, body, hy, hR.1, fun c cs _ => hR.2 c cs (room_wide _)⟩

/-- Numbers of names. -/
def nI (p : List Nat) : List Int := List.map (fun (v : Nat) => (v : Int)) p

theorem nI_len (p : List Nat) : (nI p).length = p.length := by simp [nI]
theorem nI_snoc (p : List Nat) (v : Nat) : nI (p ++ [v]) = nI p ++ [(v : Int)] := by simp [nI]
theorem permsL_count : ∀ (k : Nat) (us : List Nat), us.length ≤ 6 → (permsL k us).length ≤ 6 ^ k
  | 0, _, _ => by simp [permsL]
  | k + 1, us, h => by
    rw [permsL]
    refine Nat.le_trans (flat_len _ (6 ^ k) us (fun v _ => ?_)) (by rw [Nat.pow_succ, Nat.mul_comm]; exact Nat.mul_le_mul_left _ h)
    rw [List.length_map]
    exact permsL_count k _ (Nat.le_trans (List.length_erase_le) h)

/-- What has been yielded behind names that were chosen first. -/
def partL (k : Nat) (us vs : List Nat) : List (List Nat) := vs.flatMap fun v => (permsL k (us.erase v)).map (v :: ·)

theorem partL_snoc (k : Nat) (us vs : List Nat) (v : Nat) : partL k us (vs ++ [v]) = partL k us vs ++ (permsL k (us.erase v)).map (v :: ·) := by simp [partL]
theorem partL_all (k : Nat) (us : List Nat) : partL k us us = permsL (k + 1) us := rfl
theorem partL_count (k : Nat) (us vs : List Nat) (h : us.length ≤ 6) : (partL k us vs).length ≤ vs.length * 6 ^ k := by
  unfold partL
  refine flat_len _ _ vs (fun v _ => ?_)
  rw [List.length_map]
  exact permsL_count k _ (Nat.le_trans (List.length_erase_le) h)

end Go.Proofs.YtfhhfilkabjhaaaDoor

/- It is proved that a region that draws its order may be walked one operation at a time where what each operation gives does not hang on the order; conditions: those of each statement. -/
namespace Go
section
variable {F : Fence} {n : Nat} {P : Program} {ops : Array Oper} {Q : Exit → Act → World → Prop} {md : Region.Mode}

/-- Q, but K where nothing jumps. -/
def UponK (K : Act → World → Prop) (Q : Exit → Act → World → Prop) : Exit → Act → World → Prop
  | .normal, a, w => K a w
  | .ret, a, w => Q .ret a w
  | .exit i, a, w => Q (.exit i) a w
  | .goto t, a, w => Q (.goto t) a w
  | .panic c, a, w => Q (.panic c) a w
  | .outgrown, a, w => Q .outgrown a w

theorem Oper.wpIn_uponK {o : Oper} {a : Act} {w : World} {K K' : Act → World → Prop} (hh : o.wpIn F n P a w K (UponK K' Q)) : o.wpIn F n P a w K Q := by
  unfold Oper.wpIn at *
  refine ⟨hh.1, ?_⟩
  have hh := hh.2
  generalize (o.semAt F.round a.eval).run P w = r at *
  cases r with
  | ok x w' =>
    cases x <;> simp only [Oper.uponIn] at hh ⊢ <;>
      first
        | exact hh
        | exact ⟨hh.1, CallsIn.mono hh.2 (fun e w'' he => by cases e <;> exact he)⟩
        | exact ⟨hh.1, RoundIn.mono hh.2 (fun e w'' he => by cases e <;> exact he)⟩
  | halt x w' => cases x <;> simp only [Oper.uponIn] at hh ⊢ <;> exact hh

theorem wpOpIn_of_list {i : Nat} {o : Oper} {a : Act} {w : World} {K : Act → World → Prop} (ho : ops[i]? = some o) (h : wpListIn F n P ops (UponK K Q) [o] a w) : wpOpIn F n P ops Q i K a w := by
  unfold wpOpIn
  simp only [ho]
  unfold wpListIn at h
  split
  · rename_i hw; simp only [hw, if_true] at h; exact Oper.wpIn_uponK h
  · rename_i hw; simp only [hw] at h; exact h

def masks : Nat → List (List Bool)
  | 0 => [[]]
  | k + 1 => (masks k).flatMap fun m => [false :: m, true :: m]

theorem mem_masks : ∀ l : List Bool, l ∈ masks l.length
  | [] => by simp [masks]
  | b :: l => by
    simp only [List.length_cons, masks, List.mem_flatMap]
    exact ⟨l, mem_masks l, by cases b <;> simp⟩

/-- Where no operation may come next, all have come. -/
def Region.endsB (md : Region.Mode) (ops : Array Oper) : Bool := (masks ops.size).all fun l => !(Region.ready md ops l.toArray).isEmpty || l.all id

theorem count_set : ∀ (l : List Bool) (i : Nat), l[i]? = some false → (l.set i true).count false + 1 = l.count false
  | [], i, h => by simp at h
  | b :: l, 0, h => by simp at h; subst h; simp
  | b :: l, i + 1, h => by
    have := count_set l i (by simpa using h)
    cases b <;> simp [List.count_cons] <;> omega

theorem wpAnyIn_held {A : Array Bool → Act} {S : Array Bool → World → Prop} (hends : Region.endsB md ops = true)
    (hstep : ∀ listed w i, listed.size = ops.size → i ∈ Region.ready md ops listed → S listed w → wpOpIn F n P ops Q i (fun a' w' => a' = A (listed.setIfInBounds i true) ∧ S (listed.setIfInBounds i true) w') (A listed) w)
    (hend : ∀ listed w, listed.size = ops.size → (listed.toList.all id) = true → S listed w → Q .normal (A listed) w) :
    ∀ fuel listed w, listed.size = ops.size → listed.toList.count false ≤ fuel → S listed w → wpAnyIn F n P md ops Q fuel listed (A listed) w
  | 0, listed, w, hs, hc, hS => by
    have hall : listed.toList.all id = true := by
      rw [List.all_eq_true]
      intro x hx
      cases x
      · have := List.count_pos_iff.2 hx; omega
      · rfl
    refine ⟨?_, hend listed w hs hall hS⟩
    unfold Region.ready
    rw [List.filter_eq_nil_iff]
    intro i hi
    rw [List.mem_range] at hi
    have hi' : i < listed.size := by omega
    have : listed.getD i true = true := by
      have h1 := List.all_eq_true.1 hall listed[i] (by simp)
      simp only [id] at h1
      simp [Array.getD, hi', h1]
    simp [this]
  | fuel + 1, listed, w, hs, hc, hS => by
    refine ⟨fun h0 => hend listed w hs ?_ hS, fun i hi => ?_⟩
    · have h1 := List.all_eq_true.1 hends listed.toList (by have := mem_masks listed.toList; rwa [Array.length_toList, hs] at this)
      simpa [h0] using h1
    · refine wpOpIn_mono ?_ (hstep listed w i hs hi hS)
      rintro a' w' ⟨rfl, hS'⟩
      refine wpAnyIn_held hends hstep hend fuel _ w' (by simpa using hs) ?_ hS'
      have hu : listed.toList[i]? = some false := by
        unfold Region.ready at hi
        rw [List.mem_filter, Bool.and_eq_true, List.mem_range] at hi
        have hi' : i < listed.size := by omega
        have := hi.2.1
        simp [Array.getD, hi'] at this
        simp [hi', this]
      have := count_set listed.toList i hu
      simp only [Array.toList_setIfInBounds]
      omega

theorem wpIn_region_held {A : Array Bool → Act} {S : Array Bool → World → Prop} {id' : Nat} {a : Act} {w : World} (hm : P.follows .mixedOrders = true) (hends : Region.endsB .any ops = true)
    (ha : A (Array.replicate ops.size false) = a) (hS : S (Array.replicate ops.size false) { w with drawn := w.drawn + 1 })
    (hstep : ∀ listed w i, listed.size = ops.size → i ∈ Region.ready .any ops listed → S listed w → wpOpIn F n P ops Q i (fun a' w' => a' = A (listed.setIfInBounds i true) ∧ S (listed.setIfInBounds i true) w') (A listed) w)
    (hend : ∀ listed w, listed.size = ops.size → (listed.toList.all id) = true → S listed w → Q .normal (A listed) w) : (Code.region id' ops true).wpIn F n P Q a w := by
  subst ha
  exact wpIn_region_any hm (wpAnyIn_held hends hstep hend ops.size _ _ (by simp) (by simp) hS)

end
end Go

/- It is proved that what is left of a forest, links left out, is a forest, and that forests fall apart; conditions: those of each statement. -/
namespace Go.Proofs.YtfhhfilkabjhaaaDoor
open Go.RowKit

/-- Each link is a bridge: without it, both its ends are apart. -/
def Br (b : Nat → Nat → Prop) : Prop := ∀ j v, b j v → ∃ CM CJ : Nat → Prop, (∀ j' v', ¬ (j' = j ∧ v' = v) → b j' v' → (CM v' ↔ CJ j')) ∧ ¬ (CM v ↔ CJ j)

theorem Br.mono {b b' : Nat → Nat → Prop} (h : Br b) (f g : Nat → Nat) (hb : ∀ j v, b' j v → b (f j) (g v)) (hi : ∀ j v j' v', b' j v → b' j' v' → f j' = f j → g v' = g v → j' = j ∧ v' = v) : Br b' := fun j v hjv => by
  obtain ⟨CM, CJ, h1, h2⟩ := h (f j) (g v) (hb j v hjv)
  exact ⟨fun v => CM (g v), fun j => CJ (f j), fun j' v' hne hb' => h1 _ _ (fun e => hne (hi j v j' v' hjv hb' e.1 e.2)) (hb j' v' hb'), h2⟩

theorem Br.dual {b : Nat → Nat → Prop} (h : Br b) : Br fun v j => b j v := fun v j hjv => by
  obtain ⟨CM, CJ, h1, h2⟩ := h j v hjv
  exact ⟨CJ, CM, fun j' v' hne hb' => (h1 _ _ (fun e => hne ⟨e.2, e.1⟩) hb').symm, fun e => h2 e.symm⟩

end Go.Proofs.YtfhhfilkabjhaaaDoor
