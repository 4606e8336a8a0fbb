/- It is proved that parts of the members are alike whoever tells them; conditions: those of each statement. -/
import Derived.Test.YtfhhfilkabjhaaaDoorRows
import Derived.WalkKit
import Derived.WalkSpells
import Derived.ProofKit
import Derived.OpenShut
import Derived.ShutString
import Derived.ChangeOld
import Derived.Below
import Derived.Deep.RegionHeld3
import Derived.Deep.QuietTactic
import Derived.BigQuiet
import Derived.Lib.Hide
import Derived.Lib.SmallJoins
import Derived.Outline
import Derived.Laws.MakeOwn
import Derived.Laws.OwnMore
import Derived.IntWalk
import Derived.RangeFuncNested
import Derived.RangeFuncBound
import Derived.RangeFuncCalls
import Derived.RangeFuncLeaves
import Derived.RangeFuncBox
import Derived.Shelf.Abstract
import Derived.Shelf.RegionOpen
import Derived.OwnWalkIn
import Derived.TacticsInMore
import Derived.LoopNIn
import Derived.LoopIn
import Derived.Maps.AppendAt
import Derived.Deep.AppendLies
import Derived.OwnWalk
import Derived.StillTail
import Derived.StillTactics
import Derived.OrdersIn
import Derived.TacticsIn
import Derived.Shelf.Spec.TrailingZeros
import Derived.StillTailTactics
import Derived.Test.YtfhhfilkabjhaaaDoorRabjxColour
import Derived.Test.YtfhhfilkabjhaaaDoorRaaa
import Derived.Test.YtfhhfilkabjhaaaDoorRaab
import Derived.Test.YtfhhfilkabjhaaaDoorRaad
import Derived.Test.YtfhhfilkabjhaaaDoorRaah
import Derived.Test.YtfhhfilkabjhaaaDoorRaat
import Derived.Test.YtfhhfilkabjhaaaDoorRaac
import Derived.Test.YtfhhfilkabjhaaaDoorTb
namespace Go.Proofs.YtfhhfilkabjhaaaDoor

/-- One club is let in where it meets. -/
def meet1 (t k : Nat) : Nat := if k &&& t = 0 then t else t ||| k

/-- All clubs, one behind the other. -/
def stepP (ks : List Nat) (s : Nat) : Nat := ks.foldl meet1 s

theorem stepP_snoc (ks : List Nat) (k s : Nat) : stepP (ks ++ [k]) s = meet1 (stepP ks s) k := by simp [stepP]
theorem meet1_ge (t k i : Nat) (h : t.testBit i = true) : (meet1 t k).testBit i = true := by
  unfold meet1; split
  · exact h
  · simp [h]

theorem stepP_ge (ks : List Nat) : ∀ (s i : Nat), s.testBit i = true → (stepP ks s).testBit i = true := by
  induction ks with
  | nil => intro s i h; exact h
  | cons k ks ih => intro s i h; exact ih _ i (meet1_ge s k i h)

/-- What a club meets it has whole. -/
def ClosedP (ks : List Nat) (C : Nat → Prop) : Prop := ∀ k ∈ ks, (∃ i, k.testBit i = true ∧ C i) → ∀ i, k.testBit i = true → C i

theorem and_ne {k t : Nat} (h : k &&& t ≠ 0) : ∃ i, k.testBit i = true ∧ t.testBit i = true := by
  obtain ⟨i, hi⟩ := Nat.exists_testBit_of_ne_zero h
  rw [Nat.testBit_and, Bool.and_eq_true] at hi
  exact ⟨i, hi⟩

theorem and_zero {k t : Nat} (h : k &&& t = 0) (i : Nat) (hk : k.testBit i = true) : t.testBit i = false := by
  have h1 : (k &&& t).testBit i = false := by rw [h]; simp
  rw [Nat.testBit_and, hk, Bool.true_and] at h1
  exact h1

theorem stepP_in {C : Nat → Prop} : ∀ (ks : List Nat) (s : Nat), ClosedP ks C → (∀ i, s.testBit i = true → C i) → ∀ i, (stepP ks s).testBit i = true → C i
  | [], _, _, h, i, hi => h i hi
  | k :: ks, s, hc, h, i, hi => by
    refine stepP_in ks (meet1 s k) (fun k' hk' => hc k' (by simp [hk'])) ?_ i hi
    intro j hj
    unfold meet1 at hj
    split at hj
    · exact h j hj
    · rename_i hne
      rw [Nat.testBit_or, Bool.or_eq_true] at hj
      rcases hj with hj | hj
      · exact h j hj
      · obtain ⟨x, hx1, hx2⟩ := and_ne hne
        exact hc k (by simp) ⟨x, hx1, h x hx2⟩ j hj

theorem stepP_closed : ∀ (ks : List Nat) (s : Nat), stepP ks s = s → ClosedP ks (fun i => s.testBit i = true)
  | [], _, _ => fun k hk => by simp at hk
  | k :: ks, s, h => by
    have h1 : meet1 s k = s := by
      apply Nat.eq_of_testBit_eq
      intro i
      cases hb : s.testBit i
      · cases hm : (meet1 s k).testBit i
        · rfl
        · have := stepP_ge ks _ i hm
          rw [show stepP ks (meet1 s k) = stepP (k :: ks) s from rfl, h, hb] at this
          exact this.symm
      · exact meet1_ge s k i hb
    have h2 : stepP ks s = s := by
      have : stepP (k :: ks) s = stepP ks (meet1 s k) := rfl
      rw [h1] at this
      rw [← this]; exact h
    intro k' hk' hm i hi
    rcases List.mem_cons.1 hk' with rfl | hk'
    · obtain ⟨x, hx1, hx2⟩ := hm
      have hne : ¬ (k' &&& s = 0) := fun e => by rw [and_zero e x hx1] at hx2; cases hx2
      unfold meet1 at h1
      rw [if_neg hne] at h1
      show s.testBit i = true
      rw [← h1, Nat.testBit_or, hi, Bool.or_true]
    · exact stepP_closed ks s h2 k' hk' hm i hi

def iterP (ks : List Nat) : Nat → Nat → Nat
  | 0, s => s
  | n + 1, s => stepP ks (iterP ks n s)

theorem iterP_ge (ks : List Nat) (s i : Nat) (h : s.testBit i = true) : ∀ n, (iterP ks n s).testBit i = true
  | 0 => h
  | n + 1 => stepP_ge ks _ i (iterP_ge ks s i h n)

theorem iterP_in {C : Nat → Prop} (ks : List Nat) (hc : ClosedP ks C) (s : Nat) (h : ∀ i, s.testBit i = true → C i) : ∀ n i, (iterP ks n s).testBit i = true → C i
  | 0 => h
  | n + 1 => stepP_in ks _ hc (iterP_in ks hc s h n)

theorem iterP_fix (ks : List Nat) (s n : Nat) (h : stepP ks (iterP ks n s) = iterP ks n s) : ∀ k, iterP ks (n + k) s = iterP ks n s
  | 0 => rfl
  | k + 1 => by
    have : iterP ks (n + (k + 1)) s = stepP ks (iterP ks (n + k) s) := rfl
    rw [this, iterP_fix ks s n h k, h]

set_option maxRecDepth 100000 in
theorem pop_grow : ∀ s, s < 64 → ∀ t, t < 64 → s ||| t = t → s ≠ t → popS s < popS t := by decide +kernel

set_option maxRecDepth 100000 in
theorem pop_le : ∀ m, m ≤ 6 → ∀ s, s < 2 ^ m → popS s ≤ m := by decide +kernel

theorem stepP_lt (m : Nat) (ks : List Nat) (hk : ∀ k ∈ ks, k < 2 ^ m) : ∀ s, s < 2 ^ m → stepP ks s < 2 ^ m := by
  induction ks with
  | nil => intro s h; exact h
  | cons k ks ih =>
    intro s h
    refine ih (fun k' h' => hk k' (by simp [h'])) _ ?_
    unfold meet1; split
    · exact h
    · exact Nat.or_lt_two_pow h (hk k (by simp))

theorem stepP_or (ks : List Nat) (s : Nat) : s ||| stepP ks s = stepP ks s := by
  apply Nat.eq_of_testBit_eq
  intro i
  rw [Nat.testBit_or]
  cases hb : s.testBit i
  · simp
  · rw [stepP_ge ks s i hb]; rfl

theorem iterP_lt (m : Nat) (ks : List Nat) (hk : ∀ k ∈ ks, k < 2 ^ m) (s : Nat) (hs : s < 2 ^ m) : ∀ n, iterP ks n s < 2 ^ m
  | 0 => hs
  | n + 1 => stepP_lt m ks hk _ (iterP_lt m ks hk s hs n)

/-- After m rounds nothing grows. -/
theorem iterP_done (m : Nat) (hm : m ≤ 6) (ks : List Nat) (hk : ∀ k ∈ ks, k < 2 ^ m) (s : Nat) (hs : s < 2 ^ m) (h1 : 1 ≤ popS s) : stepP ks (iterP ks m s) = iterP ks m s := by
  have h64 : ∀ n, iterP ks n s < 64 := fun n => Nat.lt_of_lt_of_le (iterP_lt m ks hk s hs n) (Nat.pow_le_pow_right (by decide) hm : 2 ^ m ≤ 2 ^ 6)
  have key : ∀ n, stepP ks (iterP ks n s) = iterP ks n s ∨ n + 1 ≤ popS (iterP ks n s) := by
    intro n
    induction n with
    | zero => exact .inr h1
    | succ n ih =>
      by_cases hf : stepP ks (iterP ks n s) = iterP ks n s
      · left
        show stepP ks (stepP ks (iterP ks n s)) = stepP ks (iterP ks n s)
        rw [hf, hf]
      · right
        rcases ih with h | h
        · exact absurd h hf
        · have := pop_grow _ (h64 n) _ (h64 (n + 1)) (stepP_or ks _) (fun e => hf e.symm)
          omega
  rcases key m with h | h
  · exact h
  · have := pop_le m hm _ (iterP_lt m ks hk s hs m)
    omega

/-- The part of a member. -/
def partP (m : Nat) (ks : List Nat) (v : Nat) : Nat := iterP ks m (2 ^ v)

structure Ksm (m : Nat) (ks : List Nat) : Prop where
  six : m ≤ 6
  lt : ∀ k ∈ ks, k < 2 ^ m

set_option maxRecDepth 100000 in
theorem pop_one : ∀ v, v < 6 → popS (2 ^ v) = 1 := by decide +kernel

theorem partP_lt {m : Nat} {ks : List Nat} (h : Ksm m ks) {v : Nat} (hv : v < m) : partP m ks v < 2 ^ m := iterP_lt m ks h.lt _ (Nat.pow_lt_pow_right (by decide) hv) m
theorem partP_closed {m : Nat} {ks : List Nat} (h : Ksm m ks) {v : Nat} (hv : v < m) : ClosedP ks (fun i => (partP m ks v).testBit i = true) :=
  stepP_closed ks _ (iterP_done m h.six ks h.lt _ (Nat.pow_lt_pow_right (by decide) hv) (by rw [pop_one v (by have := h.six; omega)]; omega))

theorem partP_self {m : Nat} {ks : List Nat} (v : Nat) : (partP m ks v).testBit v = true := iterP_ge ks _ v (by simp) m
theorem partP_min {m : Nat} {ks : List Nat} {v : Nat} {C : Nat → Prop} (hc : ClosedP ks C) (hv : C v) : ∀ i, (partP m ks v).testBit i = true → C i :=
  iterP_in ks hc _ (fun i hi => by
    rw [Nat.testBit_two_pow, decide_eq_true_eq] at hi
    rw [← hi]; exact hv) m

theorem partP_sym {m : Nat} {ks : List Nat} (h : Ksm m ks) {u v : Nat} (hu : u < m) (huv : (partP m ks v).testBit u = true) : (partP m ks u).testBit v = true := by
  cases hb : (partP m ks u).testBit v
  · have hc : ClosedP ks (fun i => (partP m ks u).testBit i = false) := by
      intro k hk hm i hi
      obtain ⟨x, hx1, hx2⟩ := hm
      cases hb2 : (partP m ks u).testBit i
      · rfl
      · have h3 : (partP m ks u).testBit x = true := partP_closed h hu k hk ⟨i, hi, hb2⟩ x hx1
        rw [hx2] at h3; cases h3
    have h4 : (partP m ks u).testBit u = false := partP_min (m := m) hc hb u huv
    rw [partP_self u] at h4; cases h4
  · rfl

theorem partP_trans {m : Nat} {ks : List Nat} (h : Ksm m ks) {u v : Nat} (hv : v < m) (huv : (partP m ks v).testBit u = true) : ∀ i, (partP m ks u).testBit i = true → (partP m ks v).testBit i = true :=
  partP_min (m := m) (partP_closed h hv) huv

/-- No member of v's part is ahead of v. -/
def firstP (m : Nat) (ks : List Nat) (v : Nat) : Bool := decide (partP m ks v &&& (2 ^ v - 1) = 0)

theorem firstP_iff {m : Nat} {ks : List Nat} (h : Ksm m ks) {v : Nat} (hv : v < m) : firstP m ks v = true ↔ ∀ u, u < v → (partP m ks u).testBit v = false := by
  unfold firstP
  rw [decide_eq_true_eq]
  constructor
  · intro h0 u hu
    cases hb : (partP m ks u).testBit v
    · rfl
    · have h1 := partP_sym h hv hb
      have := and_zero h0 u h1
      rw [Nat.testBit_two_pow_sub_one] at this
      simp at this
      omega
  · intro h0
    apply Nat.eq_of_testBit_eq
    intro i
    rw [Nat.testBit_and, Nat.testBit_two_pow_sub_one, Nat.zero_testBit]
    by_cases hi : i < v
    · cases hb : (partP m ks v).testBit i
      · simp
      · have h1 := partP_sym h (by omega) hb
        rw [h0 i hi] at h1; cases h1
    · simp [hi]

/-- How many members are first of their parts. -/
def cntP (m : Nat) (ks : List Nat) (v : Nat) : Nat := ((List.range v).filter (firstP m ks)).length

theorem cntP_succ (m : Nat) (ks : List Nat) (v : Nat) : cntP m ks (v + 1) = cntP m ks v + (if firstP m ks v = true then 1 else 0) := by
  unfold cntP
  rw [List.range_succ, List.filter_append, List.length_append]
  by_cases h : firstP m ks v = true
  · simp [h]
  · simp [h]

end Go.Proofs.YtfhhfilkabjhaaaDoor

/- It is proved what reached returns; conditions: those of each statement. -/
namespace Go.Proofs.YtfhhfilkabjhaaaDoor
open Go.RowKit Go.Shelf

attribute [local go_sem] Oper.semAt_some

/-- The clubs as sets. -/
def ksOf (zs : List Int) : List Nat := zs.map Int.toNat

theorem iterP_same (m : Nat) (hm : m ≤ 6) (ks : List Nat) (hk : ∀ k ∈ ks, k < 2 ^ m) (s : Nat) (hs : s < 2 ^ m) (h1 : 1 ≤ popS s) (j : Nat) (h : stepP ks (iterP ks j s) = iterP ks j s) : iterP ks j s = iterP ks m s := by
  rcases Nat.le_total j m with h2 | h2
  · have := iterP_fix ks s j h (m - j)
    rw [show j + (m - j) = m from by omega] at this
    exact this.symm
  · have := iterP_fix ks s m (iterP_done m hm ks hk s hs h1) (j - m)
    rw [show m + (j - m) = j from by omega] at this
    exact this

set_option maxRecDepth 100000 in
set_option maxHeartbeats 4000000 in
theorem reached_any (m : Nat) (hm : m ≤ 6) (s : Nat) (hs : s < 2 ^ m) (h1 : 1 ≤ popS s) (a : Option Addr) (c : Nat) (zs : List Int) (w : World) (ha : Ints w w.heap.size a zs) (hf : famIn (m : Int) zs = true) :
    Calls Tryd.prog 72 #[.agg #[.int .i64 (m : Int), .slice a zs.length c], .int .i64 (s : Int)] w fun e w' => e = .returned (.int .i64 ((iterP (ksOf zs) m s : Nat) : Int)) ∧ Below w.heap.size w w' := by
  have HI := Lib.hid ha
  have HPc := Lib.hid (isClub_all hf)
  obtain ⟨hm1, hm6, hl8, -⟩ := famIn_out hf
  obtain ⟨n, hn⟩ : ∃ n, n = zs.length := ⟨_, rfl⟩
  have HN := Lib.hid hn
  have hx : n ≤ 8 := by omega
  rw [← hn]
  clear ha hf hn hl8
  refine (callsIn_wide (n := 6)).1 ?_
  refine callsIn_of_wp_marks Tryd.func72 rfl trivial ?_ rfl
  simp only [Tryd.ntmps72, List.size_toArray, List.length_cons, List.length_nil, Nat.reduceAdd, Nat.reduceSub, Array.replicate_succ, Array.replicate_zero, List.push_toArray, List.append_toArray, List.nil_append, List.cons_append]
  gi_wp2
  have hb2 := below2 w (.cells #[.int .i64 (m : Int), .slice a n c] 27) (.cells #[.int .i64 (s : Int)] 48)
  have q0 : HasBlk ((w.alloc (.cells #[.int .i64 (m : Int), .slice a n c] 27)).alloc (.cells #[.int .i64 (s : Int)] 48)) w.heap.size #[.int .i64 (m : Int), .slice a n c] 27 := alloc2_0 w _ _
  have q1 : Boxed ((w.alloc (.cells #[.int .i64 (m : Int), .slice a n c] 27)).alloc (.cells #[.int .i64 (s : Int)] 48)) (w.heap.size + 1) 48 (.int .i64 (s : Int)) := alloc2_1 w _ _
  have hmk : Marks (w.heap.size + 2) ((w.alloc (.cells #[.int .i64 (m : Int), .slice a n c] 27)).alloc (.cells #[.int .i64 (s : Int)] 48)).heap.size [] ((w.alloc (.cells #[.int .i64 (m : Int), .slice a n c] 27)).alloc (.cells #[.int .i64 (s : Int)] 48)) := ⟨List.nodup_nil, fun D h => by simp at h⟩
  have hks : ∀ k ∈ ksOf zs, k < 2 ^ m := by
    intro k hk
    obtain ⟨z, hz, rfl⟩ := List.mem_map.1 hk
    obtain ⟨j, hj, rfl⟩ := List.getElem_of_mem hz
    have := (HPc.out j hj).2.2
    rwa [show ((j, zs[j]?.getD 0) : Nat × Int).2 = zs[j] from by simp [hj]] at this
  have hp64 : 2 ^ m ≤ 64 := Nat.pow_le_pow_right (by decide) hm
  obtain ⟨W0, hW0⟩ : ∃ W0, ((w.alloc (.cells #[.int .i64 (m : Int), .slice a n c] 27)).alloc (.cells #[.int .i64 (s : Int)] 48)) = W0 := ⟨_, rfl⟩
  have hso : W0.heap.size = w.heap.size + 2 := by rw [← hW0]; simp
  rw [hW0] at q0 q1 hb2 hmk ⊢
  have HSO := Lib.hid hso
  have HB0 := Lib.hid hb2
  have Q0 := Lib.hid q0
  have HKS := Lib.hid hks
  have HP := Lib.hid hp64
  have Q1 := Lib.hid q1
  have HMK := Lib.hid hmk
  clear hW0 hb2 hso q0 hks hp64 q1 hmk
  refine wpIn_loop (fun A W => ∃ (j t : Nat) (Ds : List Nat) (u5 u8 u9 u10 u19 u20 u21 : Value), A = { tmps := #[.agg #[.int .i64 (m : Int), .slice a n c], .int .i64 (s : Int), .pointer (some ⟨w.heap.size, 0, none⟩), .pointer (some ⟨w.heap.size + 1, 0, none⟩), .int .i64 0, u5, undef, undef, u8, u9, u10, undef, undef, undef, undef, undef, undef, undef, undef, u19, u20, u21, undef], defers := Ds.map mkD } ∧ t = iterP (ksOf zs) j s ∧ Boxed W (w.heap.size + 1) 48 (.int .i64 (t : Int)) ∧ Below (w.heap.size + 1) W0 W ∧ Marks (w.heap.size + 2) W.heap.size Ds W)
    (fun _ W => 64 - (intOf ((W.cell? ⟨w.heap.size + 1, 0, none⟩).getD undef)).toNat) ⟨0, s, [], undef, undef, undef, undef, undef, undef, undef, rfl, rfl, Q1.out, Below.refl _ _, HMK.out⟩ ?_
  rintro A W ⟨j, t, Ds, u5, u8, u9, u10, u19, u20, u21, rfl, ht, hv, hB, hM⟩
  have q0 := (hB.block w.heap.size (by omega)).trans Q0.out
  have x0 := (blk_cell q0 0).trans (cell2_0 _ _)
  have x1 := (blk_cell q0 1).trans (cell2_1 _ _)
  have c1 := hv.cell
  have hsz : w.heap.size + 2 ≤ W.heap.size := by have := hB.size; have := HSO.out; omega
  have ht2 : t < 2 ^ m := by rw [ht]; exact iterP_lt m _ HKS.out s hs j
  have HV := Lib.hid hv
  have HBW := Lib.hid hB
  have HM := Lib.hid hM
  have HTJ := Lib.hid ht
  clear q0 hv hB hM ht
  gi_wp2_with (refine ⟨trivial, ?_⟩; gi_at_call 80; refine (callsIn_wide.2 (clubs_any _ _ _ _ _)).mono ?_; rintro e w' ⟨rfl, rfl⟩)
  have h16 : 1 ≤ 6 := by omega
  have HBw : Hid (Below w.heap.size w W) := Lib.hid (HB0.out.trans (HBW.out.mono (by omega)))
  have hst := clubsP_stops (IsClub m) (6 - 1) (by omega) W.heap.size (w.heap.size + 1) a c zs (by have := HN.out; omega) HPc.out (W.alloc (.cells #[.int .i64 (m : Int), .slice a n c] 27)) (by simp) (by simp; omega)
    (by rw [← HN.out]; simp) ((HI.out.below (HBw.out.alloc (by omega) _)).mono (by omega))
  rw [← HN.out] at hst
  refine wpIn_rangeFunc_ownG rfl h16 (gf := 96) (lb := #[.pointer (some ⟨W.heap.size, 0, none⟩)]) rfl trivial (enters_of Tryd.func96 (by kernel_rfl) rfl)
    hst belowK_t (belowK_b (by simp; omega)) (Below.refl _ _) (fun _ => rfl)
    (fun pre Wr => (Boxed Wr (w.heap.size + 1) 48 (.int .i64 ((stepP (ksOf (sets pre)) t : Nat) : Int)) ∧ Marks (w.heap.size + 2) W.heap.size Ds Wr) ∧ Below (w.heap.size + 1) W0 Wr)
    (fun _ _ _ => False)
    (OwnFrom.and (OwnFrom.and (Own.from (boxed_own _ _ (fun pre : List { p // IsClub m p } => Value.int .i64 ((stepP (ksOf (sets pre)) t : Nat) : Int))) _) (Marks.own _ _ _ (by simp))) (ownFrom_below (by have := HSO.out; omega) (by simp; omega)))
    (fun _ _ _ _ _ hs _ _ => hs)
    ⟨⟨HV.out.alloc _, HM.out.alloc _⟩, HBW.out.alloc (by omega) _⟩
    (fun x => { tmps := #[.agg #[.int .i64 (m : Int), .slice a n c], .int .i64 (s : Int), .pointer (some ⟨w.heap.size, 0, none⟩), .pointer (some ⟨w.heap.size + 1, 0, none⟩), .int .i64 0, .int .i64 (t : Int), undef, .int .i64 x.1.2, .int .i64 (t : Int), .agg #[.int .i64 (m : Int), .slice a n c], .func (.func 96) #[] #[.pointer (some ⟨W.heap.size, 0, none⟩)], .int .i64 (x.1.1 : Int), .int .i64 x.1.2, undef, undef, undef, undef, undef, undef, u19, u20, u21, undef], defers := [] }) ?assign ?body ?done ?stop
  case assign =>
    intro l x Wr K hK
    gi_wp2
    exact hK
  case body =>
    rintro l pre x Wr ⟨⟨hv, hM⟩, hB⟩ hlt
    obtain ⟨q, hq⟩ : ∃ q : Nat, x.1.2 = (q : Int) := ⟨x.1.2.toNat, by have := x.2.2.1; omega⟩
    have hq2 : q < 2 ^ m := by have := x.2.2.2; rw [hq] at this; simpa using this
    have hpre : ∀ k ∈ ksOf (sets pre), k < 2 ^ m := by
      intro k hk
      obtain ⟨z, hz, rfl⟩ := List.mem_map.1 hk
      obtain ⟨y, _, rfl⟩ := List.mem_map.1 hz
      exact y.2.2.2
    obtain ⟨d, hd⟩ : ∃ d, d = stepP (ksOf (sets pre)) t := ⟨_, rfl⟩
    have hd2 : d < 2 ^ m := by rw [hd]; exact stepP_lt m _ hpre t ht2
    have hsn : Hid (stepP (ksOf (sets (pre ++ [x]))) t = meet1 d q) := Lib.hid (by
      rw [sets_snoc, show ksOf (sets pre ++ [x.1.2]) = ksOf (sets pre) ++ [q] from by simp [ksOf, hq], stepP_snoc, hd])
    have hd64 : d < 64 := by have := HP.out; omega
    have hq64 : q < 64 := by have := HP.out; omega
    rw [hq]
    rw [← hd] at hv
    have c1 := hv.cell
    have f1 := hv.frozen
    have HO := Lib.hid (or6_at d q hd64 hq64)
    have HV2 := Lib.hid hv
    have HM2 := Lib.hid hM
    have HB2 := Lib.hid hB
    clear hv hM hB hd hpre
    by_cases hm0 : q &&& d = 0
    · have HC : Hid ((!decide (q &&& d = 0)) = false) := Lib.hid (by simp [hm0])
      have HMT : Hid (meet1 d q = d) := Lib.hid (by simp [meet1, hm0])
      clear hm0
      gi_wp2_with (refine ⟨trivial, ?_⟩; gi_at_call 94; refine (CallsIn.inRound l (callsIn_wide.2 (meets_any q d hq64 hd64 _))).mono ?_; rintro e w' ⟨rfl, rfl⟩; rw [HC.out])
      refine ⟨KeepsFrom.refl _ _, Below.refl _ _, ⟨?_, HM2.out⟩, HB2.out⟩
      rw [hsn.out, HMT.out]; exact HV2.out
    · have HC : Hid ((!decide (q &&& d = 0)) = true) := Lib.hid (by simp [hm0])
      have HMT : Hid (meet1 d q = d ||| q) := Lib.hid (by simp [meet1, hm0])
      clear hm0
      gi_wp2_with (refine ⟨trivial, ?_⟩; gi_at_call 94; refine (CallsIn.inRound l (callsIn_wide.2 (meets_any q d hq64 hd64 _))).mono ?_; rintro e w' ⟨rfl, rfl⟩; rw [HC.out])
      rw [HO.out]
      refine ⟨(KeepsOthers.setCell _ _ _).from _, (Below.refl _ Wr).setCell (p := ⟨w.heap.size + 1, 0, none⟩) (Nat.le_refl _) _, ⟨?_, HM2.out.setCell (p := ⟨w.heap.size + 1, 0, none⟩) (show w.heap.size + 1 < w.heap.size + 2 by omega) _⟩, HB2.out.setCell (p := ⟨w.heap.size + 1, 0, none⟩) (Nat.le_refl _) _⟩
      rw [hsn.out, HMT.out]; exact HV2.out.set _
  case done =>
    rintro D ys Wr hD hys ⟨⟨hv, hM⟩, hB⟩ hK
    rw [sets_all (zs := zs) (by rw [hys, HN.out])] at hv
    have hD2 : W.heap.size + 1 ≤ D := by simpa using hD
    have c1 := hv.cell
    have HM2 := Lib.hid (hM.cons (D := D) (by omega) (by omega) hK)
    have HB2 := Lib.hid hB
    have HV2 := Lib.hid hv
    obtain ⟨t', ht'⟩ : ∃ t', t' = stepP (ksOf zs) t := ⟨_, rfl⟩
    rw [← ht'] at c1 HV2
    have HT' := Lib.hid ht'
    have ht'2 : t' < 2 ^ m := by rw [ht']; exact stepP_lt m _ HKS.out t ht2
    clear hv hM hB ht'
    by_cases heq : t' = t
    · have heqI : (t' : Int) = (t : Int) := by rw [heq]
      have hfin : Hid (((t : Nat) : Int) = ((iterP (ksOf zs) m s : Nat) : Int)) := Lib.hid (by
        have h2 : stepP (ksOf zs) t = t := by rw [← HT'.out]; exact heq
        rw [HTJ.out] at h2 ⊢
        rw [iterP_same m hm (ksOf zs) HKS.out s hs h1 j h2])
      gi_wp2
      refine leaves_marks (hi := D + 1) (v := .int .i64 (t : Int)) (fun W => results_tmp (fn := Tryd.f72) (t := 4) rfl _ _ W) (D :: Ds) Wr HM2.out (fun W' hW' => ⟨by rw [hfin.out], ?_⟩)
      exact (HB0.out.trans (HB2.out.mono (by omega))).trans (hW'.mono (by omega))
    · have hneI : ¬ ((t' : Int) = (t : Int)) := by omega
      have hlt : t < t' := by
        have h2 : t ||| t' = t' := by rw [HT'.out]; exact stepP_or _ _
        have h3 : t ≤ t' := by rw [← h2]; exact Nat.left_le_or
        omega
      gi_wp2
      refine ⟨⟨j + 1, t', D :: Ds, rfl, by rw [HT'.out, HTJ.out]; rfl, HV2.out, HB2.out, HM2.out.mono (lt_of_some hK)⟩, ?_⟩
      have := HP.out
      simp only [intOf, Int.toNat_natCast]
      omega
  case stop =>
    rintro D c pre W _ _ h _
    exact h.elim

end Go.Proofs.YtfhhfilkabjhaaaDoor

/- It is proved that members and clubs, put together link by link, fall into as many parts as are counted; conditions: those of each statement. -/
namespace Go.Proofs.YtfhhfilkabjhaaaDoor

/-- No node ahead of x has its label. -/
def headL (L : Nat → Nat) (x : Nat) : Bool := (List.range x).all fun y => L y != L x

theorem headL_iff {L : Nat → Nat} {x : Nat} : headL L x = true ↔ ∀ y, y < x → L y ≠ L x := by
  simp [headL]

def cntL6 (L : Nat → Nat) (N : Nat) : Nat := (List.range N).countP (headL L)
def relab (a b : Nat) (L : Nat → Nat) : Nat → Nat := fun x => if L x = b then a else L x
theorem count_one {p q : Nat → Bool} {z : Nat} : ∀ {N : Nat}, z < N → p z = true → q z = false → (∀ x, x < N → x ≠ z → q x = p x) → (List.range N).countP q + 1 = (List.range N).countP p
  | 0, h, _, _, _ => by omega
  | N + 1, h, hp, hq, ha => by
    rw [List.range_succ, List.countP_append, List.countP_append, List.countP_singleton, List.countP_singleton]
    by_cases e : z = N
    · subst e
      have : (List.range z).countP q = (List.range z).countP p := List.countP_congr fun x hx => by rw [ha x (by have := List.mem_range.1 hx; omega) (by have := List.mem_range.1 hx; omega)]
      rw [this, hp, hq]; simp
    · have ih := count_one (N := N) (by omega) hp hq (fun x hx hne => ha x (by omega) hne)
      rw [ha N (by omega) (by omega)]
      omega

/-- The first node with a label. -/
theorem least_node {P : Nat → Prop} [DecidablePred P] {n : Nat} (h : P n) : ∃ k, k ≤ n ∧ P k ∧ ∀ y, y < k → ¬ P y := by
  induction n using Nat.strongRecOn with
  | ind n ih =>
    by_cases hx : ∃ y, y < n ∧ P y
    · obtain ⟨y, hy, hp⟩ := hx
      obtain ⟨k, h1, h2, h3⟩ := ih y hy hp
      exact ⟨k, by omega, h2, h3⟩
    · exact ⟨n, Nat.le_refl _, h, fun y hy hp => hx ⟨y, hy, hp⟩⟩

theorem relab_count {L : Nat → Nat} {N u w : Nat} (hu : u < N) (hw : w < N) (hne : L u ≠ L w) : cntL6 (relab (L u) (L w) L) N + 1 = cntL6 L N := by
  obtain ⟨xa, ha1, ha2, ha3⟩ := least_node (P := fun x => L x = L u) (n := u) rfl
  obtain ⟨xb, hb1, hb2, hb3⟩ := least_node (P := fun x => L x = L w) (n := w) rfl
  have hxy : xa ≠ xb := fun e => hne (by rw [← ha2, e, hb2])
  have key : ∀ x, headL L x = true → (L x = L u → x = xa) ∧ (L x = L w → x = xb) := fun x hx => by
    rw [headL_iff] at hx
    refine ⟨fun e => ?_, fun e => ?_⟩
    · rcases Nat.lt_trichotomy x xa with h | h | h
      · exact (ha3 x h e).elim
      · exact h
      · exact (hx xa h (by rw [ha2, e])).elim
    · rcases Nat.lt_trichotomy x xb with h | h | h
      · exact (hb3 x h e).elim
      · exact h
      · exact (hx xb h (by rw [hb2, e])).elim
  have fa : headL L xa = true := headL_iff.2 fun y hy e => ha3 y hy (by rw [e, ha2])
  have fb : headL L xb = true := headL_iff.2 fun y hy e => hb3 y hy (by rw [e, hb2])
  have ra : ∀ x, relab (L u) (L w) L x = L u ↔ L x = L u ∨ L x = L w := fun x => by
    unfold relab
    split
    · rename_i h; exact ⟨fun _ => .inr h, fun _ => rfl⟩
    · rename_i h; exact ⟨fun e => .inl e, fun e => e.elim id (fun e' => (h e').elim)⟩
  have ro : ∀ x, L x ≠ L u → L x ≠ L w → ∀ y, (relab (L u) (L w) L y = relab (L u) (L w) L x ↔ L y = L x) := fun x h1 h2 y => by
    have e : relab (L u) (L w) L x = L x := by unfold relab; rw [if_neg h2]
    rw [e]
    unfold relab
    split
    · rename_i h
      constructor
      · intro e'; exact (h1 e'.symm).elim
      · intro e'; rw [h] at e'; exact (h2 e'.symm).elim
    · exact Iff.rfl
  unfold cntL6
  -- the greater one of both first nodes falls away
  obtain ⟨z, lo, hz, hlo, hfz, hlz⟩ : ∃ z lo, (z = xa ∧ lo = xb ∨ z = xb ∧ lo = xa) ∧ lo < z ∧ headL L z = true ∧ (L lo = L u ∨ L lo = L w) := by
    rcases Nat.lt_or_gt_of_ne hxy with h | h
    · exact ⟨xb, xa, .inr ⟨rfl, rfl⟩, h, fb, .inl ha2⟩
    · exact ⟨xa, xb, .inl ⟨rfl, rfl⟩, h, fa, .inr hb2⟩
  have hzl : L z = L u ∨ L z = L w := by
    rcases hz with ⟨rfl, _⟩ | ⟨rfl, _⟩
    · exact .inl ha2
    · exact .inr hb2
  refine count_one (z := z) (by rcases hz with ⟨rfl, _⟩ | ⟨rfl, _⟩ <;> omega) hfz ?_ fun x hx hxz => ?_
  · cases hq : headL (relab (L u) (L w) L) z
    · rfl
    · exact (headL_iff.1 hq lo hlo (by rw [(ra lo).2 hlz, (ra z).2 hzl])).elim
  · rw [Bool.eq_iff_iff]
    by_cases hl : L x = L u ∨ L x = L w
    · constructor
      · intro hq
        rw [headL_iff] at hq ⊢
        intro y hy e
        refine hq y hy ?_
        rw [(ra y).2 (by rw [e]; exact hl), (ra x).2 hl]
      · intro hp
        have hk := key x hp
        have hxlo : x = lo := by
          rcases hl with h | h
          · have := hk.1 h
            rcases hz with ⟨h1, h2⟩ | ⟨h1, h2⟩ <;> omega
          · have := hk.2 h
            rcases hz with ⟨h1, h2⟩ | ⟨h1, h2⟩ <;> omega
        rw [headL_iff]
        intro y hy e
        rw [(ra x).2 hl] at e
        rcases (ra y).1 e with h | h
        · exact ha3 y (by rcases hz with ⟨h1, h2⟩ | ⟨h1, h2⟩ <;> omega) h
        · exact hb3 y (by rcases hz with ⟨h1, h2⟩ | ⟨h1, h2⟩ <;> omega) h
    · have h1 : L x ≠ L u := fun e => hl (.inl e)
      have h2 : L x ≠ L w := fun e => hl (.inr e)
      rw [headL_iff, headL_iff]
      exact ⟨fun hq y hy e => hq y hy ((ro x h1 h2 y).2 e), fun hp y hy e => hp y hy ((ro x h1 h2 y).1 e)⟩

/-- Two nodes are put together, if they are apart. -/
def joinL (L : Nat → Nat) (e : Nat × Nat) : Nat → Nat := if L e.1 = L e.2 then L else relab (L e.1) (L e.2) L

def runL (E : List (Nat × Nat)) : Nat → Nat := E.foldl joinL id
def okL : (Nat → Nat) → List (Nat × Nat) → Bool
  | _, [] => true
  | L, e :: E => decide (L e.1 ≠ L e.2) && okL (joinL L e) E

theorem run_snoc (E : List (Nat × Nat)) (e : Nat × Nat) : runL (E ++ [e]) = joinL (runL E) e := by simp [runL]
theorem okL_snoc : ∀ (E : List (Nat × Nat)) (L : Nat → Nat) (e : Nat × Nat), okL L (E ++ [e]) = (okL L E && decide ((E.foldl joinL L) e.1 ≠ (E.foldl joinL L) e.2))
  | [], L, e => by by_cases h : L e.1 = L e.2 <;> simp [okL, h]
  | x :: E, L, e => by rw [List.cons_append, okL, okL_snoc E, okL, Bool.and_assoc]; rfl

theorem okL_prefix : ∀ (E F : List (Nat × Nat)) (L : Nat → Nat), okL L E = false → okL L (E ++ F) = false
  | [], _, _, h => by cases h
  | x :: E, F, L, h => by
    rw [okL] at h
    rw [List.cons_append, okL]
    cases hd : decide (L x.1 ≠ L x.2)
    · rfl
    · rw [hd, Bool.true_and] at h
      rw [Bool.true_and]
      exact okL_prefix E F _ h

theorem ok_count {N : Nat} : ∀ (E : List (Nat × Nat)) (L : Nat → Nat), (∀ e ∈ E, e.1 < N ∧ e.2 < N) → cntL6 L N ≤ cntL6 (E.foldl joinL L) N + E.length ∧ (okL L E = true ↔ cntL6 (E.foldl joinL L) N + E.length = cntL6 L N)
  | [], L, _ => by simp [okL]
  | e :: E, L, h => by
    obtain ⟨h1, h2⟩ := ok_count E (joinL L e) (fun x hx => h x (by simp [hx]))
    obtain ⟨he1, he2⟩ := h e (by simp)
    rw [List.foldl_cons, List.length_cons, okL]
    by_cases hd : L e.1 = L e.2
    · have hj : joinL L e = L := by unfold joinL; rw [if_pos hd]
      rw [hj] at h1 h2 ⊢
      refine ⟨by omega, ?_⟩
      rw [decide_eq_false (fun h => h hd), Bool.false_and]
      constructor
      · intro h; cases h
      · intro h; omega
    · have hj : joinL L e = relab (L e.1) (L e.2) L := by unfold joinL; rw [if_neg hd]
      have hr := relab_count he1 he2 hd
      rw [← hj] at hr
      refine ⟨by omega, ?_⟩
      rw [decide_eq_true hd, Bool.true_and, h2]
      omega

theorem cnt_id (N : Nat) : cntL6 id N = N := by
  unfold cntL6
  rw [List.countP_eq_length.2 (fun x _ => headL_iff.2 fun y hy => by simp; omega), List.length_range]

/-- Labels are equal only where links lead. -/
theorem run_keeps {C : Nat → Prop} : ∀ (E : List (Nat × Nat)) (L : Nat → Nat), (∀ e ∈ E, (C e.1 ↔ C e.2)) → (∀ x y, L x = L y → (C x ↔ C y)) → ∀ x y, (E.foldl joinL L) x = (E.foldl joinL L) y → (C x ↔ C y)
  | [], _, _, h => h
  | e :: E, L, hE, h => by
    rw [List.foldl_cons]
    refine run_keeps E _ (fun x hx => hE x (by simp [hx])) fun x y hxy => ?_
    unfold joinL at hxy
    split at hxy
    · exact h x y hxy
    · have he := hE e (by simp)
      unfold relab at hxy
      split at hxy <;> split at hxy
      · rename_i h1 h2; exact h x y (by rw [h1, h2])
      · rename_i h1 h2; exact (h x e.2 h1).trans (he.symm.trans (h e.1 y hxy))
      · rename_i h1 h2; exact (h x e.1 hxy).trans (he.trans (h e.2 y h2.symm))
      · exact h x y hxy

theorem join_mono (L : Nat → Nat) (e : Nat × Nat) {x y : Nat} (h : L x = L y) : joinL L e x = joinL L e y := by
  unfold joinL
  split
  · exact h
  · unfold relab; rw [h]

theorem fold_mono : ∀ (E : List (Nat × Nat)) (L : Nat → Nat) {x y : Nat}, L x = L y → (E.foldl joinL L) x = (E.foldl joinL L) y
  | [], _, _, _, h => h
  | e :: E, L, _, _, h => fold_mono E _ (join_mono L e h)

theorem run_links : ∀ (E : List (Nat × Nat)) (L : Nat → Nat), ∀ e ∈ E, (E.foldl joinL L) e.1 = (E.foldl joinL L) e.2
  | [], _, e, h => by simp at h
  | x :: E, L, e, h => by
    rcases List.mem_cons.1 h with rfl | h
    · refine fold_mono E _ ?_
      unfold joinL
      split
      · assumption
      · rename_i hne
        unfold relab
        rw [if_pos rfl, if_neg hne]
    · exact run_links E _ e h

/-- The links of the clubs ahead of i, and of the members ahead of v in i. -/
def bitsL (k v : Nat) : List Nat := (List.range v).filter fun u => k.testBit u

def linksL (m : Nat) (ks : List Nat) (i : Nat) : List (Nat × Nat) := (List.range i).flatMap fun j => (bitsL (ks[j]?.getD 0) m).map fun v => (v, m + j)
theorem bitsL_succ (k v : Nat) : bitsL k (v + 1) = bitsL k v ++ if k.testBit v then [v] else [] := by
  unfold bitsL
  rw [List.range_succ, List.filter_append]
  by_cases h : k.testBit v = true
  · simp [h]
  · simp [h]

theorem linksL_succ (m : Nat) (ks : List Nat) (i : Nat) : linksL m ks (i + 1) = linksL m ks i ++ (bitsL (ks[i]?.getD 0) m).map fun v => (v, m + i) := by
  unfold linksL
  rw [List.range_succ, List.flatMap_append]
  simp

theorem links_mem {m : Nat} {ks : List Nat} {n : Nat} {e : Nat × Nat} : e ∈ linksL m ks n ↔ ∃ j v, j < n ∧ v < m ∧ (ks[j]?.getD 0).testBit v = true ∧ e = (v, m + j) := by
  unfold linksL bitsL
  simp only [List.mem_flatMap, List.mem_range, List.mem_map, List.mem_filter]
  constructor
  · rintro ⟨j, hj, v, ⟨hv, hb⟩, rfl⟩; exact ⟨j, v, hj, hv, hb, rfl⟩
  · rintro ⟨j, v, hj, hv, hb, rfl⟩; exact ⟨j, hj, v, ⟨hv, hb⟩, rfl⟩

def empL (ks : List Nat) : Nat := ks.countP fun k => decide (k = 0)
theorem range_ks (ks : List Nat) (p : Nat → Bool) : ((List.range ks.length).countP fun i => p (ks[i]?.getD 0)) = ks.countP p := by
  induction ks with
  | nil => rfl
  | cons k ks ih =>
    rw [List.length_cons, List.range_succ_eq_map, List.countP_cons, List.countP_map, List.countP_cons, ← ih]
    rfl

theorem links_parts {m : Nat} {ks : List Nat} (h : Ksm m ks) : cntL6 (runL (linksL m ks ks.length)) (m + ks.length) = cntP m ks m + empL ks := by
  obtain ⟨L, hL⟩ : ∃ L, L = runL (linksL m ks ks.length) := ⟨_, rfl⟩
  have h1 : ∀ j v, j < ks.length → v < m → (ks[j]?.getD 0).testBit v = true → L v = L (m + j) := fun j v hj hv hb => by
    rw [hL]
    exact run_links _ id (v, m + j) (links_mem.2 ⟨j, v, hj, hv, hb, rfl⟩)
  have h2 : ∀ C : Nat → Prop, (∀ j v, j < ks.length → v < m → (ks[j]?.getD 0).testBit v = true → (C v ↔ C (m + j))) → ∀ x y, L x = L y → (C x ↔ C y) := fun C hC x y hxy => by
    rw [hL] at hxy
    refine run_keeps _ id (fun e he => ?_) (fun x y e => by rw [show x = y from e]) x y hxy
    obtain ⟨j, v, hj, hv, hb, rfl⟩ := links_mem.1 he
    exact hC j v hj hv hb
  have hbit : ∀ j v, (ks[j]?.getD 0).testBit v = true → j < ks.length ∧ v < m := fun j v hb => by
    have hj : j < ks.length := by
      by_cases e : j < ks.length
      · exact e
      · rw [List.getElem?_eq_none (by omega), Option.getD_none, Nat.zero_testBit] at hb; cases hb
    refine ⟨hj, ?_⟩
    by_cases e : v < m
    · exact e
    · rw [List.getElem?_eq_getElem hj, Option.getD_some, Nat.testBit_lt_two_pow (Nat.lt_of_lt_of_le (h.lt _ (List.getElem_mem hj)) (Nat.pow_le_pow_right (by decide) (by omega)))] at hb
      cases hb
  have hpart : ∀ u v, u < m → v < m → (L u = L v ↔ (partP m ks u).testBit v = true) := fun u v hu hv => by
    constructor
    · intro e
      refine (h2 (fun x => (x < m ∧ (partP m ks u).testBit x = true) ∨ ∃ j, x = m + j ∧ ∃ w, (ks[j]?.getD 0).testBit w = true ∧ (partP m ks u).testBit w = true) (fun j w hj hw hb => ?_) u v e).1 (.inl ⟨hu, partP_self u⟩) |>.elim (fun h => h.2) (fun ⟨j, hj, _⟩ => by omega)
      constructor
      · rintro (⟨_, hp⟩ | ⟨j', e', _⟩)
        · exact .inr ⟨j, rfl, w, hb, hp⟩
        · omega
      · rintro (⟨hlt, _⟩ | ⟨j', e', w', hb', hp'⟩)
        · omega
        · obtain rfl : j = j' := by omega
          refine .inl ⟨hw, partP_closed h hu _ ?_ ⟨w', hb', hp'⟩ w hb⟩
          rw [List.getElem?_eq_getElem hj, Option.getD_some]
          exact List.getElem_mem hj
    · intro hp
      refine (partP_min (m := m) (ks := ks) (v := u) (C := fun w => L w = L u) ?_ rfl v hp).symm
      rintro k hk ⟨w, hw1, hw2⟩ i hi
      obtain ⟨j, hj, rfl⟩ := List.getElem_of_mem hk
      have e : ks[j] = ks[j]?.getD 0 := by rw [List.getElem?_eq_getElem hj, Option.getD_some]
      rw [e] at hw1 hi
      rw [h1 j i hj (hbit j i hi).2 hi, ← h1 j w hj (hbit j w hw1).2 hw1]
      exact hw2
  rw [← hL]
  unfold cntL6
  rw [List.range_add, List.countP_append, List.countP_map]
  congr 1
  · unfold cntP
    rw [← List.countP_eq_length_filter]
    refine List.countP_congr fun v hv => ?_
    have hv' := List.mem_range.1 hv
    rw [headL_iff, firstP_iff h hv']
    refine ⟨fun hq u hu => ?_, fun hq u hu e => ?_⟩
    · cases hb : (partP m ks u).testBit v
      · rfl
      · exact (hq u hu ((hpart u v (by omega) hv').2 hb)).elim
    · have := (hpart u v (by omega) hv').1 e
      rw [hq u hu] at this; cases this
  · unfold empL
    rw [← range_ks ks fun k => decide (k = 0)]
    refine List.countP_congr fun j hj => ?_
    have hj' := List.mem_range.1 hj
    rw [Function.comp_apply, headL_iff, decide_eq_true_eq]
    constructor
    · intro hq
      by_cases e : ks[j]?.getD 0 = 0
      · exact e
      · obtain ⟨v, hv⟩ := Nat.exists_testBit_of_ne_zero e
        have := (hbit j v hv).2
        exact (hq v (by omega) (h1 j v hj' this hv)).elim
    · intro e y hy hyl
      have := (h2 (fun x => x = m + j) (fun j' v hj1 hv hb => ⟨fun e' => by omega, fun e' => by
        obtain rfl : j' = j := by omega
        rw [e, Nat.zero_testBit] at hb; cases hb⟩) y (m + j) hyl).2 rfl
      omega

/-- A forest is told by counting. -/
theorem forest_count {m : Nat} {ks : List Nat} (h : Ksm m ks) : okL id (linksL m ks ks.length) = decide (cntP m ks m + empL ks + (linksL m ks ks.length).length = m + ks.length) := by
  have hN : ∀ e ∈ linksL m ks ks.length, e.1 < m + ks.length ∧ e.2 < m + ks.length := fun e he => by
    obtain ⟨j, v, hj, hv, _, rfl⟩ := links_mem.1 he
    exact ⟨by show v < _; omega, by show m + j < _; omega⟩
  have := (ok_count (linksL m ks ks.length) id hN).2
  rw [cnt_id] at this
  rw [Bool.eq_iff_iff, this, decide_eq_true_eq]
  have hp := links_parts h
  unfold runL at hp
  rw [hp]

end Go.Proofs.YtfhhfilkabjhaaaDoor
