/- It is proved what named and its closure return; conditions: those of each statement. -/
import Derived.Test.YtmojkeokkebbfaaDoorRows
import Derived.WalkKit
import Derived.WalkSpells
import Derived.ProofKit
import Derived.OpenShut
import Derived.ShutString
import Derived.ChangeOld
import Derived.Below
import Derived.Deep.RegionHeld3
import Derived.Deep.QuietTactic
import Derived.BigQuiet
import Derived.Lib.Hide
import Derived.Lib.SmallJoins
import Derived.Outline
import Derived.Laws.MakeOwn
import Derived.Laws.OwnMore
import Derived.IntWalk
import Derived.RangeFuncNested
import Derived.RangeFuncBound
import Derived.RangeFuncCalls
import Derived.RangeFuncLeaves
import Derived.RangeFuncBox
import Derived.Shelf.Abstract
import Derived.Shelf.RegionOpen
import Derived.OwnWalkIn
import Derived.TacticsInMore
import Derived.LoopNIn
import Derived.LoopIn
import Derived.Maps.AppendAt
import Derived.Deep.AppendLies
import Derived.OwnWalk
import Derived.StillTail
import Derived.StillTactics
import Derived.OrdersIn
import Derived.TacticsIn
import Derived.Shelf.Spec.TrailingZeros
import Derived.Test.YtmojkeokkebbfaaDoorMzaa
import Derived.Test.YtmojkeokkebbfaaDoorMzad
import Derived.Test.YtmojkeokkebbfaaDoorSt
import Derived.Test.YtmojkeokkebbfaaDoorMzam
import Derived.Test.YtmojkeokkebbfaaDoorMzan
import Derived.Test.YtmojkeokkebbfaaDoorMzab
import Derived.StillTailTactics
namespace Go.Proofs.YtmojkeokkebbfaaDoor
open Go.RowKit Go.Shelf

attribute [local go_sem] Oper.semAt_some

/-- Members called by names, as a set. -/
def nm (ps : List Int) (us : List Nat) : Nat := us.foldl (fun t v => t ||| 2 ^ (ps[v]?.getD 0).toNat) 0

theorem nm_snoc (ps : List Int) (us : List Nat) (u : Nat) : nm ps (us ++ [u]) = nm ps us ||| 2 ^ (ps[u]?.getD 0).toNat := by simp [nm]
theorem nm_lt (ps : List Int) (us : List Nat) (h : ∀ v ∈ us, (ps[v]?.getD 0).toNat < 6) : nm ps us < 64 := by
  have : ∀ t, t < 64 → us.foldl (fun t v => t ||| 2 ^ (ps[v]?.getD 0).toNat) t < 64 := by
    induction us with
    | nil => intro t ht; exact ht
    | cons x us ih =>
      intro t ht
      rw [List.foldl_cons]
      exact ih (fun y hy => h y (by simp [hy])) _ (Nat.or_lt_two_pow (n := 6) ht (Nat.pow_lt_pow_right (by decide) (h x (by simp))))
  exact this 0 (by decide)

/-- A set called by names. -/
def called (ps : List Int) (s : Nat) : Nat := nm ps (mem s)

/-- Names that may be called: one for each member, below six. -/
structure Okp (m : Nat) (ps : List Int) : Prop where
  len : ps.length = m
  rng : ∀ v, v < m → 0 ≤ ps[v]?.getD 0 ∧ ps[v]?.getD 0 < 6

set_option maxRecDepth 100000 in
set_option maxHeartbeats 4000000 in
theorem named_any (m s : Nat) (hm : m ≤ 6) (hs : s < 2 ^ m) (a : Option Addr) (c : Nat) (ps : List Int) (hp : Okp m ps) (w : World) (ha : Ints w w.heap.size a ps) (hT : Tab w) :
    Calls Tryd.prog 70 #[.int .i64 (s : Int), .slice a ps.length c] w fun e w' => e = .returned (.int .i64 ((called ps s : Nat) : Int)) ∧ Below w.heap.size w w' := by
  have HA := Lib.hid ha
  have HT := Lib.hid hT
  have HP := Lib.hid hp
  obtain ⟨n, hn⟩ : ∃ n, n = ps.length := ⟨_, rfl⟩
  have hnm : n = m := by rw [hn]; exact hp.len
  have HN := Lib.hid hn
  rw [← hn]
  clear ha hT hn hp
  refine (callsIn_wide (n := 6)).1 ?_
  refine callsIn_of_wp_marks Tryd.func70 rfl trivial ?_ rfl
  simp only [Tryd.ntmps70, List.size_toArray, List.length_cons, List.length_nil, Nat.reduceAdd, Nat.reduceSub, Array.replicate_succ, Array.replicate_zero, List.push_toArray, List.append_toArray, List.nil_append, List.cons_append]
  gi_wp2_with (refine ⟨trivial, ?_⟩; gi_at_call 91; refine (callsIn_wide.2 (members_any _ _)).mono ?_; rintro e w' ⟨rfl, rfl⟩)
  have h16 : 1 ≤ 6 := by omega
  have hmx : Tryd.prog.follows .mixedOrders = true := by kernel_rfl
  have hb3 := below3 w (.cells #[.slice a m c] 23) (.cells #[.int .i64 0] 44) (.cells #[.int .i64 (s : Int)] 44)
  have q0 : HasBlk (((w.alloc (.cells #[.slice a m c] 23)).alloc (.cells #[.int .i64 0] 44)).alloc (.cells #[.int .i64 (s : Int)] 44)) w.heap.size #[.slice a m c] 23 := alloc3_0 w _ _ _
  have q1 : Boxed (((w.alloc (.cells #[.slice a m c] 23)).alloc (.cells #[.int .i64 0] 44)).alloc (.cells #[.int .i64 (s : Int)] 44)) (w.heap.size + 1) 44 (.int .i64 ((nm ps (vals ([] : List (Mem m))) : Nat) : Int)) := alloc3_1 w _ _ _
  have hst := members_stops (6 - 1) (by omega) (w.heap.size + 1 + 1) (w.heap.size + 1) m s hm hs (((w.alloc (.cells #[.slice a m c] 23)).alloc (.cells #[.int .i64 0] 44)).alloc (.cells #[.int .i64 (s : Int)] 44)) (by simp) (by simp) (by have := HT.out.lt; omega)
    ((blk_cell (alloc3_2 w _ _ _) 0).trans (cell1_0 _)) (HT.out.below hb3 HT.out.lt)
  have HBB := Lib.hid hb3
  obtain ⟨Wo, hWo⟩ : ∃ Wo, ((w.alloc (.cells #[.slice a m c] 23)).alloc (.cells #[.int .i64 0] 44)).alloc (.cells #[.int .i64 (s : Int)] 44) = Wo := ⟨_, rfl⟩
  have hso : Wo.heap.size = w.heap.size + 3 := by rw [← hWo]; simp
  rw [hWo] at hst q0 q1 HBB ⊢
  have HSO := Lib.hid hso
  have Q0 := Lib.hid q0
  clear hWo hb3 hso q0
  refine wpIn_rangeFunc_ownG rfl h16 (gf := 111) (lb := #[.pointer (some ⟨w.heap.size + 1 + 1, 0, none⟩)]) rfl trivial (enters_of Tryd.func111 (by kernel_rfl) rfl)
    hst belowK_t (belowK_b (by have := HSO.out; omega)) (Below.refl _ _) (fun _ => rfl)
    (fun us W => Boxed W (w.heap.size + 1) 44 (.int .i64 ((nm ps (vals us) : Nat) : Int)) ∧ Below (w.heap.size + 1) Wo W)
    (fun _ _ _ => False)
    (OwnFrom.and (Own.from (boxed_own _ _ (fun us : List (Mem m) => Value.int .i64 ((nm ps (vals us) : Nat) : Int))) _) (ownFrom_below (by have := HSO.out; omega) (by have := HSO.out; omega)))
    (fun _ _ _ _ _ hs _ _ => hs)
    ⟨q1, Below.refl _ _⟩
    (fun x => { tmps := #[.int .i64 (s : Int), .slice a m c, undef, .pointer (some ⟨w.heap.size, 0, none⟩), .int .i64 0, .pointer (some ⟨w.heap.size + 1, 0, none⟩), .int .i64 (x.1 : Int), .int .i64 (s : Int), .func (.func 111) #[] #[.pointer (some ⟨w.heap.size + 1 + 1, 0, none⟩)], .int .i64 (x.1 : Int), undef, undef, undef, undef, undef, undef, undef], defers := [] }) ?assign ?body ?done ?stop
  case assign =>
    intro l x W K hK
    gi_wp2
    exact hK
  case body =>
    rintro l us x W ⟨hv, hB⟩ hlt
    obtain ⟨u, hu⟩ := x
    have q0 := (hB.block w.heap.size (by omega)).trans Q0.out
    have c0 := (blk_cell q0 0).trans (cell1_0 _)
    have c1 := hv.cell
    have cf := hv.frozen
    have hru := HP.out.rng u hu
    obtain ⟨pu, hpu⟩ : ∃ pu : Nat, ps[u]?.getD 0 = (pu : Int) := ⟨(ps[u]?.getD 0).toNat, by omega⟩
    have hp6 : pu < 8 := by omega
    obtain ⟨b1, o1, rfl, hb1, hc1⟩ := HA.out.at_ (k := u) (by rw [← HN.out]; omega)
    rw [hpu] at hc1
    have v1 := (hB.cell (p := ⟨b1, o1 + u, none⟩) (show b1 < w.heap.size + 1 by omega)).trans ((HBB.out.cell (p := ⟨b1, o1 + u, none⟩) hb1).trans hc1)
    obtain ⟨d, hd⟩ : ∃ d, d = nm ps (vals us) := ⟨_, rfl⟩
    have hd8 : d < 256 := by
      have := nm_lt ps (vals us) (by
        intro v hv
        obtain ⟨y, _, rfl⟩ := List.mem_map.1 hv
        have := HP.out.rng y.1 y.2
        omega)
      omega
    rw [← hd] at c1
    have hu0 : (0 : Int) ≤ (u : Int) := by omega
    have hu1 : (u : Int) < (m : Int) := by omega
    have HV := Lib.hid hv
    have HB := Lib.hid hB
    have HD := Lib.hid hd
    have HPU := Lib.hid hpu
    clear hv hB q0 hc1 hd hpu hru
    gi_wp2
    refine wpIn_region_still_tail_o (Fence.Open.wide.inRound l) 6 hmx (by kernel_rfl) (by kernel_rfl) ?_
    simp only [List.take_succ_cons, List.take_zero, List.drop_succ_cons, List.drop_zero]
    repeat still_step
    still_call ((with_any d pu hd8 hp6 _).mono fun _ _ h => ⟨h.1, h.2.symm⟩)
    repeat still_step
    refine wpStill_nil ?_
    change wpListIn _ _ _ _ _ _ _ W.drew
    gi_wp2
    refine ⟨((KeepsOthers.setCell _ _ _).trans (KeepsOthers.drew _)).from _, ((Below.refl _ W).setCell (p := ⟨w.heap.size + 1, 0, none⟩) (Nat.le_refl _) _).drew, ?_, (HB.out.setCell (p := ⟨w.heap.size + 1, 0, none⟩) (Nat.le_refl _) _).drew⟩
    rw [vals_snoc, nm_snoc, HPU.out, Int.toNat_natCast, ← HD.out]
    exact HV.out.set _
  case done =>
    rintro D us W hD hus ⟨hv, hB⟩ hK
    have hu2 : vals us = mem s := hus
    rw [hu2] at hv
    have c1 := hv.cell
    have HBW := Lib.hid hB
    clear hv hB
    gi_wp2
    refine ⟨by simp, .inl ⟨_, _, rfl, run_takeDeferred hK, ?_⟩⟩
    exact ⟨_, results_tmp rfl _ _ _, rfl, (HBB.out.trans (HBW.out.mono (by omega))).trans (belowK_b (w := w) (Nat.le_refl _) W D _ _ (by have := HSO.out; omega) hK rfl rfl)⟩
  case stop =>
    rintro D c pre W _ _ h _
    exact h.elim

set_option maxRecDepth 100000 in
set_option maxHeartbeats 1000000 in
/-- The closure of FamilyNamed: it reads the names out of their variable. -/
theorem namedFn_any (m s : Nat) (hm : m ≤ 6) (hs : s < 2 ^ m) (a : Option Addr) (c : Nat) (ps : List Int) (hp : Okp m ps) (X : Nat) (W : World) (hX : W.cell? ⟨X, 0, none⟩ = some (.slice a ps.length c)) (ha : Ints W W.heap.size a ps) (hT : Tab W) :
    Calls Tryd.prog 69 #[.int .i64 (s : Int), .pointer (some ⟨X, 0, none⟩)] W fun e W' => e = .returned (.int .i64 ((called ps s : Nat) : Int)) ∧ Below W.heap.size W W' := by
  have HA := Lib.hid ha
  have HT := Lib.hid hT
  clear ha hT
  go_enter Tryd.func69, Tryd.ntmps69
  go_wp2_with fail
  refine (named_any m s hm hs a c ps hp _ HA.out HT.out).mono ?_
  rintro e W' ⟨rfl, hb⟩
  have HB := Lib.hid hb
  clear hb
  go_wp2
  go_ret
  exact ⟨rfl, HB.out⟩

end Go.Proofs.YtmojkeokkebbfaaDoor

/- It is proved that both sides look at names alike; conditions: those of each statement. -/
namespace Go.Proofs.YtmojkeokkebbfaaDoor
open Go.RowKit

/-- All names met, as a set. -/
def orP (ps : List Int) : Nat := ps.foldl (fun t p => t ||| 2 ^ p.toNat) 0

theorem orP_snoc (ps : List Int) (p : Int) : orP (ps ++ [p]) = orP ps ||| 2 ^ p.toNat := by simp [orP]
theorem orP_lt (m : Nat) (ps : List Int) (h : ∀ p ∈ ps, p.toNat < m) : orP ps < 2 ^ m := by
  have : ∀ t, t < 2 ^ m → ps.foldl (fun t p => t ||| 2 ^ p.toNat) t < 2 ^ m := by
    induction ps with
    | nil => intro t ht; exact ht
    | cons x ps ih =>
      intro t ht
      rw [List.foldl_cons]
      exact ih (fun y hy => h y (by simp [hy])) _ (Nat.or_lt_two_pow ht (Nat.pow_lt_pow_right (by decide) (h x (by simp))))
  exact this 0 (Nat.two_pow_pos m)

/-- Names in range. -/
def inR (m : Nat) (ps : List Int) : Bool := ps.all fun p => inB p 0 ((m : Int) - 1)

theorem inR_at {m : Nat} {ps : List Int} (h : inR m ps = true) {k : Nat} (hk : k < ps.length) : 0 ≤ ps[k]?.getD 0 ∧ ps[k]?.getD 0 < (m : Int) := by
  have := inB_out (List.all_eq_true.1 h ps[k] (List.getElem_mem hk))
  have e : ps[k]?.getD 0 = ps[k] := by simp [hk]
  rw [e]; omega

theorem inR_no {m : Nat} {ps : List Int} {k : Nat} (hk : k < ps.length) (h : inB (ps[k]?.getD 0) 0 ((m : Int) - 1) = false) : inR m ps = false := by
  refine List.all_eq_false.2 ⟨ps[k], List.getElem_mem hk, ?_⟩
  have e : ps[k]?.getD 0 = ps[k] := by simp [hk]
  rw [e] at h
  simp [h]

theorem inR_yes {m : Nat} {ps : List Int} (h : ∀ k, k < ps.length → inB (ps[k]?.getD 0) 0 ((m : Int) - 1) = true) : inR m ps = true := by
  refine List.all_eq_true.2 fun p hp => ?_
  obtain ⟨k, hk, rfl⟩ := List.getElem_of_mem hp
  have := h k hk
  rwa [show ps[k]?.getD 0 = ps[k] from by simp [hk]] at this

/-- Each of m numbers once. -/
def namesB (m : Nat) (ps : List Int) : Bool := inR m ps && (decide (ps.length = m) && decide (orP ps = 2 ^ m - 1))

/-- How many members a set has. -/
def popS (s : Nat) : Nat := (mem s).length

set_option maxRecDepth 100000 in
theorem pop_or : ∀ s, s < 64 → ∀ v, v < 6 → popS (s ||| 2 ^ v) = popS s + (if s.testBit v then 0 else 1) := by decide +kernel

set_option maxRecDepth 100000 in
theorem pop_full : ∀ m, m ≤ 6 → ∀ s, s < 2 ^ m → (popS s = m ↔ s = 2 ^ m - 1) := by decide +kernel

theorem take_snoc (ps : List Int) (k : Nat) (h : k < ps.length) : ps.take (k + 1) = ps.take k ++ [ps[k]?.getD 0] := by
  rw [List.take_succ_eq_append_getElem h]; simp [h]

theorem orP64 {m : Nat} (hm : m ≤ 6) {ps : List Int} (h : inR m ps = true) (k : Nat) : orP (ps.take k) < 64 := by
  have h1 := orP_lt m (ps.take k) (fun p hp => by
    have := inB_out (List.all_eq_true.1 h p (List.mem_of_mem_take hp))
    omega)
  exact Nat.lt_of_lt_of_le h1 (Nat.pow_le_pow_right (by decide) hm : 2 ^ m ≤ 2 ^ 6)

theorem pop_take {m : Nat} (hm : m ≤ 6) {ps : List Int} (h : inR m ps = true) : ∀ k, k ≤ ps.length → popS (orP (ps.take k)) ≤ k := by
  intro k
  induction k with
  | zero => intro _; simp [orP]; decide
  | succ k ih =>
    intro hk
    have h1 := inR_at h (k := k) (by omega)
    rw [take_snoc ps k (by omega), orP_snoc, pop_or _ (orP64 hm h k) _ (by omega)]
    have := ih (by omega)
    split <;> omega

/-- A name met twice. -/
theorem names_twice {m : Nat} (hm : m ≤ 6) {ps : List Int} (h : inR m ps = true) (hl : ps.length = m) {k : Nat} (hk : k < m) (ht : (orP (ps.take k)).testBit (ps[k]?.getD 0).toNat = true) : namesB m ps = false := by
  have key : ∀ j, k < j → j ≤ m → popS (orP (ps.take j)) < j := by
    intro j
    induction j with
    | zero => intro h1; omega
    | succ j ih =>
      intro h1 h2
      have h3 := inR_at h (k := j) (by omega)
      rw [take_snoc ps j (by omega), orP_snoc, pop_or _ (orP64 hm h j) _ (by omega)]
      rcases Nat.lt_or_ge k j with h4 | h4
      · have := ih h4 (by omega)
        split <;> omega
      · obtain rfl : k = j := by omega
        rw [if_pos ht]
        have := pop_take hm h k (by omega)
        omega
  have h5 := key m hk (Nat.le_refl _)
  rw [← hl, List.take_length] at h5
  have h6 := orP_lt m ps (fun p hp => by
    have := inB_out (List.all_eq_true.1 h p hp)
    omega)
  have h7 : ¬ orP ps = 2 ^ m - 1 := fun e => by
    have := (pop_full m hm _ h6).2 e
    omega
  simp [namesB, h7]

/-- No name met twice. -/
theorem names_once {m : Nat} (hm : m ≤ 6) {ps : List Int} (h : inR m ps = true) (hl : ps.length = m) (ht : ∀ k, k < m → (orP (ps.take k)).testBit (ps[k]?.getD 0).toNat = false) : namesB m ps = true := by
  have key : ∀ j, j ≤ m → popS (orP (ps.take j)) = j := by
    intro j
    induction j with
    | zero => intro _; simp [orP]; decide
    | succ j ih =>
      intro h2
      have h3 := inR_at h (k := j) (by omega)
      rw [take_snoc ps j (by omega), orP_snoc, pop_or _ (orP64 hm h j) _ (by omega), ht j (by omega)]
      have := ih (by omega)
      simp [this]
  have h5 := key m (Nat.le_refl _)
  rw [← hl, List.take_length] at h5
  have h6 := orP_lt m ps (fun p hp => by
    have := inB_out (List.all_eq_true.1 h p hp)
    omega)
  have h7 := (pop_full m hm _ h6).1 (by omega)
  simp [namesB, h, hl, h7]

theorem namesB_ok {m : Nat} (hm : m ≤ 6) {ps : List Int} (h : namesB m ps = true) : Okp m ps := by
  simp only [namesB, Bool.and_eq_true, decide_eq_true_eq] at h
  refine ⟨h.2.1, fun v hv => ?_⟩
  have := inR_at h.1 (k := v) (by omega)
  omega

end Go.Proofs.YtmojkeokkebbfaaDoor

/- It is proved what l1Named returns; conditions: those of each statement. -/
namespace Go.Proofs.YtmojkeokkebbfaaDoor
open Go.RowKit

/-- A club called by names. -/
def callZ (ps : List Int) (z : Int) : Int := ((called ps z.toNat : Nat) : Int)

end Go.Proofs.YtmojkeokkebbfaaDoor

/- It is proved what FamilyNamed of the model returns; conditions: those of each statement. -/
namespace Go.Proofs.YtmojkeokkebbfaaDoor
open Go.RowKit

def namIn (m : Int) (zs ps : List Int) : Bool := famIn m zs && namesB m.toNat ps
def namM (m : Int) (zs ps : List Int) : Int := if namIn m zs ps then m else 0
def namZ (m : Int) (zs ps : List Int) : List Int := if namIn m zs ps then zs.map (callZ ps) else []
theorem namZ_len (m : Int) (zs ps : List Int) (h : zs.length ≤ 1048576) : (namZ m zs ps).length ≤ 1048576 := by
  unfold namZ; split <;> simp; exact h

end Go.Proofs.YtmojkeokkebbfaaDoor
