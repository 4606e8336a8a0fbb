/- It is proved what reached returns; conditions: those of each statement. -/
import Derived.Test.YtckbhhaigpajpaaDoorRows
import Derived.WalkKit
import Derived.WalkSpells
import Derived.ProofKit
import Derived.OpenShut
import Derived.ShutString
import Derived.ChangeOld
import Derived.Below
import Derived.Deep.RegionHeld3
import Derived.Deep.QuietTactic
import Derived.BigQuiet
import Derived.Lib.Hide
import Derived.Lib.SmallJoins
import Derived.Outline
import Derived.Laws.MakeOwn
import Derived.Laws.OwnMore
import Derived.IntWalk
import Derived.RangeFuncNested
import Derived.RangeFuncBound
import Derived.RangeFuncCalls
import Derived.RangeFuncLeaves
import Derived.RangeFuncBox
import Derived.Shelf.Abstract
import Derived.Shelf.RegionOpen
import Derived.OwnWalkIn
import Derived.TacticsInMore
import Derived.LoopNIn
import Derived.LoopIn
import Derived.Maps.AppendAt
import Derived.Deep.AppendLies
import Derived.OwnWalk
import Derived.StillTail
import Derived.StillTactics
import Derived.OrdersIn
import Derived.TacticsIn
import Derived.Shelf.Spec.TrailingZeros
import Derived.StillTailTactics
import Derived.Test.YtckbhhaigpajpaaDoorRaaa
import Derived.Test.YtckbhhaigpajpaaDoorRaab
import Derived.Test.YtckbhhaigpajpaaDoorRaae
import Derived.Test.YtckbhhaigpajpaaDoorRaaf
import Derived.Test.YtckbhhaigpajpaaDoorRaag
import Derived.Test.YtckbhhaigpajpaaDoorRaad
import Derived.Lib.SlicesCompact
import Derived.Lib.OwnBridge
import Derived.Lib.AppendZeros
import Derived.Shelf.Sort.Plain
import Derived.Shelf.Slices.In.SortNone
import Derived.Shelf.Slices.CompactI
import Derived.Ground.Names2Prog
namespace Go.Proofs.YtckbhhaigpajpaaDoor
open Go.RowKit Go.Shelf

attribute [local go_sem] Oper.semAt_some

/-- The clubs as sets. -/
def ksOf (zs : List Int) : List Nat := zs.map Int.toNat

theorem iterP_same (m : Nat) (hm : m ≤ 6) (ks : List Nat) (hk : ∀ k ∈ ks, k < 2 ^ m) (s : Nat) (hs : s < 2 ^ m) (h1 : 1 ≤ popS s) (j : Nat) (h : stepP ks (iterP ks j s) = iterP ks j s) : iterP ks j s = iterP ks m s := by
  rcases Nat.le_total j m with h2 | h2
  · have := iterP_fix ks s j h (m - j)
    rw [show j + (m - j) = m from by omega] at this
    exact this.symm
  · have := iterP_fix ks s m (iterP_done m hm ks hk s hs h1) (j - m)
    rw [show m + (j - m) = j from by omega] at this
    exact this

set_option maxRecDepth 100000 in
set_option maxHeartbeats 4000000 in
theorem reached_any (m : Nat) (hm : m ≤ 6) (s : Nat) (hs : s < 2 ^ m) (h1 : 1 ≤ popS s) (a : Option Addr) (c : Nat) (zs : List Int) (w : World) (ha : Ints w w.heap.size a zs) (hf : famIn (m : Int) zs = true) :
    Calls Tryd.prog 79 #[.agg #[.int .i64 (m : Int), .slice a zs.length c], .int .i64 (s : Int)] w fun e w' => e = .returned (.int .i64 ((iterP (ksOf zs) m s : Nat) : Int)) ∧ Below w.heap.size w w' := by
  have HI := Lib.hid ha
  have HPc := Lib.hid (isClub_all hf)
  obtain ⟨hm1, hm6, hl8, -⟩ := famIn_out hf
  obtain ⟨n, hn⟩ : ∃ n, n = zs.length := ⟨_, rfl⟩
  have HN := Lib.hid hn
  have hx : n ≤ 8 := by omega
  rw [← hn]
  clear ha hf hn hl8
  refine (callsIn_wide (n := 6)).1 ?_
  refine callsIn_of_wp_marks Tryd.func79 rfl trivial ?_ rfl
  simp only [Tryd.ntmps79, List.size_toArray, List.length_cons, List.length_nil, Nat.reduceAdd, Nat.reduceSub, Array.replicate_succ, Array.replicate_zero, List.push_toArray, List.append_toArray, List.nil_append, List.cons_append]
  gi_wp2
  have hb2 := below2 w (.cells #[.int .i64 (m : Int), .slice a n c] 25) (.cells #[.int .i64 (s : Int)] 41)
  have q0 : HasBlk ((w.alloc (.cells #[.int .i64 (m : Int), .slice a n c] 25)).alloc (.cells #[.int .i64 (s : Int)] 41)) w.heap.size #[.int .i64 (m : Int), .slice a n c] 25 := alloc2_0 w _ _
  have q1 : Boxed ((w.alloc (.cells #[.int .i64 (m : Int), .slice a n c] 25)).alloc (.cells #[.int .i64 (s : Int)] 41)) (w.heap.size + 1) 41 (.int .i64 (s : Int)) := alloc2_1 w _ _
  have hmk : Marks (w.heap.size + 2) ((w.alloc (.cells #[.int .i64 (m : Int), .slice a n c] 25)).alloc (.cells #[.int .i64 (s : Int)] 41)).heap.size [] ((w.alloc (.cells #[.int .i64 (m : Int), .slice a n c] 25)).alloc (.cells #[.int .i64 (s : Int)] 41)) := ⟨List.nodup_nil, fun D h => by simp at h⟩
  have hks : ∀ k ∈ ksOf zs, k < 2 ^ m := by
    intro k hk
    obtain ⟨z, hz, rfl⟩ := List.mem_map.1 hk
    obtain ⟨j, hj, rfl⟩ := List.getElem_of_mem hz
    have := (HPc.out j hj).2.2
    rwa [show ((j, zs[j]?.getD 0) : Nat × Int).2 = zs[j] from by simp [hj]] at this
  have hp64 : 2 ^ m ≤ 64 := Nat.pow_le_pow_right (by decide) hm
  obtain ⟨W0, hW0⟩ : ∃ W0, ((w.alloc (.cells #[.int .i64 (m : Int), .slice a n c] 25)).alloc (.cells #[.int .i64 (s : Int)] 41)) = W0 := ⟨_, rfl⟩
  have hso : W0.heap.size = w.heap.size + 2 := by rw [← hW0]; simp
  rw [hW0] at q0 q1 hb2 hmk ⊢
  have HSO := Lib.hid hso
  have HB0 := Lib.hid hb2
  have Q0 := Lib.hid q0
  have HKS := Lib.hid hks
  have HP := Lib.hid hp64
  have Q1 := Lib.hid q1
  have HMK := Lib.hid hmk
  clear hW0 hb2 hso q0 hks hp64 q1 hmk
  refine wpIn_loop (fun A W => ∃ (j t : Nat) (Ds : List Nat) (u5 u8 u9 u10 u19 u20 u21 : Value), A = { tmps := #[.agg #[.int .i64 (m : Int), .slice a n c], .int .i64 (s : Int), .pointer (some ⟨w.heap.size, 0, none⟩), .pointer (some ⟨w.heap.size + 1, 0, none⟩), .int .i64 0, u5, undef, undef, u8, u9, u10, undef, undef, undef, undef, undef, undef, undef, undef, u19, u20, u21, undef], defers := Ds.map mkD } ∧ t = iterP (ksOf zs) j s ∧ Boxed W (w.heap.size + 1) 41 (.int .i64 (t : Int)) ∧ Below (w.heap.size + 1) W0 W ∧ Marks (w.heap.size + 2) W.heap.size Ds W)
    (fun _ W => 64 - (intOf ((W.cell? ⟨w.heap.size + 1, 0, none⟩).getD undef)).toNat) ⟨0, s, [], undef, undef, undef, undef, undef, undef, undef, rfl, rfl, Q1.out, Below.refl _ _, HMK.out⟩ ?_
  rintro A W ⟨j, t, Ds, u5, u8, u9, u10, u19, u20, u21, rfl, ht, hv, hB, hM⟩
  have q0 := (hB.block w.heap.size (by omega)).trans Q0.out
  have x0 := (blk_cell q0 0).trans (cell2_0 _ _)
  have x1 := (blk_cell q0 1).trans (cell2_1 _ _)
  have c1 := hv.cell
  have hsz : w.heap.size + 2 ≤ W.heap.size := by have := hB.size; have := HSO.out; omega
  have ht2 : t < 2 ^ m := by rw [ht]; exact iterP_lt m _ HKS.out s hs j
  have HV := Lib.hid hv
  have HBW := Lib.hid hB
  have HM := Lib.hid hM
  have HTJ := Lib.hid ht
  clear q0 hv hB hM ht
  gi_wp2_with (refine ⟨trivial, ?_⟩; gi_at_call 50; refine (callsIn_wide.2 (clubs_any _ _ _ _ _)).mono ?_; rintro e w' ⟨rfl, rfl⟩)
  have h16 : 1 ≤ 6 := by omega
  have HBw : Hid (Below w.heap.size w W) := Lib.hid (HB0.out.trans (HBW.out.mono (by omega)))
  have hst := clubsP_stops (IsClub m) (6 - 1) (by omega) W.heap.size (w.heap.size + 1) a c zs (by have := HN.out; omega) HPc.out (W.alloc (.cells #[.int .i64 (m : Int), .slice a n c] 25)) (by simp) (by simp; omega)
    (by rw [← HN.out]; simp) ((HI.out.below (HBw.out.alloc (by omega) _)).mono (by omega))
  rw [← HN.out] at hst
  refine wpIn_rangeFunc_ownG rfl h16 (gf := 86) (lb := #[.pointer (some ⟨W.heap.size, 0, none⟩)]) rfl trivial (enters_of Tryd.func86 (by kernel_rfl) rfl)
    hst belowK_t (belowK_b (by simp; omega)) (Below.refl _ _) (fun _ => rfl)
    (fun pre Wr => (Boxed Wr (w.heap.size + 1) 41 (.int .i64 ((stepP (ksOf (sets pre)) t : Nat) : Int)) ∧ Marks (w.heap.size + 2) W.heap.size Ds Wr) ∧ Below (w.heap.size + 1) W0 Wr)
    (fun _ _ _ => False)
    (OwnFrom.and (OwnFrom.and (Own.from (boxed_own _ _ (fun pre : List { p // IsClub m p } => Value.int .i64 ((stepP (ksOf (sets pre)) t : Nat) : Int))) _) (Marks.own _ _ _ (by simp))) (ownFrom_below (by have := HSO.out; omega) (by simp; omega)))
    (fun _ _ _ _ _ hs _ _ => hs)
    ⟨⟨HV.out.alloc _, HM.out.alloc _⟩, HBW.out.alloc (by omega) _⟩
    (fun x => { tmps := #[.agg #[.int .i64 (m : Int), .slice a n c], .int .i64 (s : Int), .pointer (some ⟨w.heap.size, 0, none⟩), .pointer (some ⟨w.heap.size + 1, 0, none⟩), .int .i64 0, .int .i64 (t : Int), undef, .int .i64 x.1.2, .int .i64 (t : Int), .agg #[.int .i64 (m : Int), .slice a n c], .func (.func 86) #[] #[.pointer (some ⟨W.heap.size, 0, none⟩)], .int .i64 (x.1.1 : Int), .int .i64 x.1.2, undef, undef, undef, undef, undef, undef, u19, u20, u21, undef], defers := [] }) ?assign ?body ?done ?stop
  case assign =>
    intro l x Wr K hK
    gi_wp2
    exact hK
  case body =>
    rintro l pre x Wr ⟨⟨hv, hM⟩, hB⟩ hlt
    obtain ⟨q, hq⟩ : ∃ q : Nat, x.1.2 = (q : Int) := ⟨x.1.2.toNat, by have := x.2.2.1; omega⟩
    have hq2 : q < 2 ^ m := by have := x.2.2.2; rw [hq] at this; simpa using this
    have hpre : ∀ k ∈ ksOf (sets pre), k < 2 ^ m := by
      intro k hk
      obtain ⟨z, hz, rfl⟩ := List.mem_map.1 hk
      obtain ⟨y, _, rfl⟩ := List.mem_map.1 hz
      exact y.2.2.2
    obtain ⟨d, hd⟩ : ∃ d, d = stepP (ksOf (sets pre)) t := ⟨_, rfl⟩
    have hd2 : d < 2 ^ m := by rw [hd]; exact stepP_lt m _ hpre t ht2
    have hsn : Hid (stepP (ksOf (sets (pre ++ [x]))) t = meet1 d q) := Lib.hid (by
      rw [sets_snoc, show ksOf (sets pre ++ [x.1.2]) = ksOf (sets pre) ++ [q] from by simp [ksOf, hq], stepP_snoc, hd])
    have hd64 : d < 64 := by have := HP.out; omega
    have hq64 : q < 64 := by have := HP.out; omega
    rw [hq]
    rw [← hd] at hv
    have c1 := hv.cell
    have f1 := hv.frozen
    have HO := Lib.hid (or6_at d q hd64 hq64)
    have HV2 := Lib.hid hv
    have HM2 := Lib.hid hM
    have HB2 := Lib.hid hB
    clear hv hM hB hd hpre
    by_cases hm0 : q &&& d = 0
    · have HC : Hid ((!decide (q &&& d = 0)) = false) := Lib.hid (by simp [hm0])
      have HMT : Hid (meet1 d q = d) := Lib.hid (by simp [meet1, hm0])
      clear hm0
      gi_wp2_with (refine ⟨trivial, ?_⟩; gi_at_call 60; refine (CallsIn.inRound l (callsIn_wide.2 (meets_any q d hq64 hd64 _))).mono ?_; rintro e w' ⟨rfl, rfl⟩; rw [HC.out])
      refine ⟨KeepsFrom.refl _ _, Below.refl _ _, ⟨?_, HM2.out⟩, HB2.out⟩
      rw [hsn.out, HMT.out]; exact HV2.out
    · have HC : Hid ((!decide (q &&& d = 0)) = true) := Lib.hid (by simp [hm0])
      have HMT : Hid (meet1 d q = d ||| q) := Lib.hid (by simp [meet1, hm0])
      clear hm0
      gi_wp2_with (refine ⟨trivial, ?_⟩; gi_at_call 60; refine (CallsIn.inRound l (callsIn_wide.2 (meets_any q d hq64 hd64 _))).mono ?_; rintro e w' ⟨rfl, rfl⟩; rw [HC.out])
      rw [HO.out]
      refine ⟨(KeepsOthers.setCell _ _ _).from _, (Below.refl _ Wr).setCell (p := ⟨w.heap.size + 1, 0, none⟩) (Nat.le_refl _) _, ⟨?_, HM2.out.setCell (p := ⟨w.heap.size + 1, 0, none⟩) (show w.heap.size + 1 < w.heap.size + 2 by omega) _⟩, HB2.out.setCell (p := ⟨w.heap.size + 1, 0, none⟩) (Nat.le_refl _) _⟩
      rw [hsn.out, HMT.out]; exact HV2.out.set _
  case done =>
    rintro D ys Wr hD hys ⟨⟨hv, hM⟩, hB⟩ hK
    rw [sets_all (zs := zs) (by rw [hys, HN.out])] at hv
    have hD2 : W.heap.size + 1 ≤ D := by simpa using hD
    have c1 := hv.cell
    have HM2 := Lib.hid (hM.cons (D := D) (by omega) (by omega) hK)
    have HB2 := Lib.hid hB
    have HV2 := Lib.hid hv
    obtain ⟨t', ht'⟩ : ∃ t', t' = stepP (ksOf zs) t := ⟨_, rfl⟩
    rw [← ht'] at c1 HV2
    have HT' := Lib.hid ht'
    have ht'2 : t' < 2 ^ m := by rw [ht']; exact stepP_lt m _ HKS.out t ht2
    clear hv hM hB ht'
    by_cases heq : t' = t
    · have heqI : (t' : Int) = (t : Int) := by rw [heq]
      have hfin : Hid (((t : Nat) : Int) = ((iterP (ksOf zs) m s : Nat) : Int)) := Lib.hid (by
        have h2 : stepP (ksOf zs) t = t := by rw [← HT'.out]; exact heq
        rw [HTJ.out] at h2 ⊢
        rw [iterP_same m hm (ksOf zs) HKS.out s hs h1 j h2])
      gi_wp2
      refine leaves_marks (hi := D + 1) (v := .int .i64 (t : Int)) (fun W => results_tmp (fn := Tryd.f79) (t := 4) rfl _ _ W) (D :: Ds) Wr HM2.out (fun W' hW' => ⟨by rw [hfin.out], ?_⟩)
      exact (HB0.out.trans (HB2.out.mono (by omega))).trans (hW'.mono (by omega))
    · have hneI : ¬ ((t' : Int) = (t : Int)) := by omega
      have hlt : t < t' := by
        have h2 : t ||| t' = t' := by rw [HT'.out]; exact stepP_or _ _
        have h3 : t ≤ t' := by rw [← h2]; exact Nat.left_le_or
        omega
      gi_wp2
      refine ⟨⟨j + 1, t', D :: Ds, rfl, by rw [HT'.out, HTJ.out]; rfl, HV2.out, HB2.out, HM2.out.mono (lt_of_some hK)⟩, ?_⟩
      have := HP.out
      simp only [intOf, Int.toNat_natCast]
      omega
  case stop =>
    rintro D c pre W _ _ h _
    exact h.elim

end Go.Proofs.YtckbhhaigpajpaaDoor

/- It is proved what ascending lists without repeats are, and what l1Simple returns; conditions: the bounds in each statement. -/
namespace Go.Proofs.YtckbhhaigpajpaaDoor
open Go.RowKit

/-- Ascending, each number once. -/
def Asc (xs : List Int) : Prop := xs.Pairwise (· < ·)

theorem asc_ext : ∀ (xs ys : List Int), Asc xs → Asc ys → (∀ z, z ∈ xs ↔ z ∈ ys) → xs = ys
  | [], [], _, _, _ => rfl
  | [], y :: _, _, _, h => by have := (h y).2 (by simp); simp at this
  | x :: _, [], _, _, h => by have := (h x).1 (by simp); simp at this
  | x :: xs, y :: ys, hx, hy, h => by
    have hx' := List.pairwise_cons.1 hx
    have hy' := List.pairwise_cons.1 hy
    have e : x = y := by
      have h1 := (h x).1 (by simp)
      have h2 := (h y).2 (by simp)
      rcases List.mem_cons.1 h1 with h1 | h1
      · exact h1
      · rcases List.mem_cons.1 h2 with h2 | h2
        · exact h2.symm
        · have := hy'.1 x h1
          have := hx'.1 y h2
          omega
    subst e
    rw [asc_ext xs ys hx'.2 hy'.2 fun z => ?_]
    constructor
    · intro hz
      have hlt := hx'.1 z hz
      rcases List.mem_cons.1 ((h z).1 (List.mem_cons_of_mem _ hz)) with h1 | h1
      · omega
      · exact h1
    · intro hz
      have hlt := hy'.1 z hz
      rcases List.mem_cons.1 ((h z).2 (List.mem_cons_of_mem _ hz)) with h1 | h1
      · omega
      · exact h1

/-- All clubs in order, once. -/
def simpZ (zs : List Int) : List Int := Lib.compact (zs.mergeSort fun x y => decide (x ≤ y))

theorem compact_asc (zs : List Int) (h : zs.Pairwise (· ≤ ·)) : Asc (Lib.compact zs) := by
  unfold Asc Lib.compact Lib.compactUpTo
  rw [List.pairwise_map]
  refine List.Pairwise.imp_of_mem (R := fun a b => a < b) ?_ (List.Pairwise.filter _ List.pairwise_lt_range)
  intro i j _ hj hij
  have hj' := List.mem_filter.1 hj
  have hjl : j < zs.length := List.mem_range.1 hj'.1
  have hk : j = 0 ∨ zs.toArray[j]! ≠ zs.toArray[j - 1]! := by simpa [Lib.keeps] using hj'.2
  have hk2 : zs.toArray[j]! ≠ zs.toArray[j - 1]! := by
    rcases hk with rfl | hk
    · omega
    · exact hk
  have e1 : zs.toArray[j]! = zs[j] := by simp [hjl]
  have e2 : zs.toArray[j - 1]! = zs[j - 1]'(by omega) := by simp [show j - 1 < zs.length by omega]
  have e3 : zs.toArray[i]! = zs[i]'(by omega) := by simp [show i < zs.length by omega]
  rw [e1, e2] at hk2
  rw [e1, e3]
  have h1 : zs[j - 1]'(by omega) ≤ zs[j] := List.pairwise_iff_getElem.1 h (j - 1) j (by omega) hjl (by omega)
  have h2 : zs[i]'(by omega) ≤ zs[j - 1]'(by omega) := by
    rcases Nat.lt_or_ge i (j - 1) with hlt | hge
    · exact List.pairwise_iff_getElem.1 h i (j - 1) (by omega) (by omega) hlt
    · have e : i = j - 1 := by omega
      subst e; exact Int.le_refl _
  omega

theorem compact_mem (zs : List Int) (z : Int) : z ∈ Lib.compact zs ↔ z ∈ zs := by
  unfold Lib.compact Lib.compactUpTo
  constructor
  · intro h
    obtain ⟨i, hi, e⟩ := List.mem_map.1 h
    have hil : i < zs.length := List.mem_range.1 (List.mem_filter.1 hi).1
    rw [← e]
    simp [hil]
  · intro h
    obtain ⟨i, hi, e⟩ := List.getElem_of_mem h
    have go : ∀ n i (hi : i < zs.length), i ≤ n → zs[i] = z → z ∈ ((List.range zs.length).filter (Lib.keeps zs.toArray)).map (zs.toArray[·]!) := by
      intro n
      induction n with
      | zero =>
        intro i hi hle e
        obtain rfl : i = 0 := by omega
        exact List.mem_map.2 ⟨0, List.mem_filter.2 ⟨List.mem_range.2 hi, by simp [Lib.keeps]⟩, by simp [hi, e]⟩
      | succ n ih =>
        intro i hi hle e
        by_cases hk : Lib.keeps zs.toArray i = true
        · exact List.mem_map.2 ⟨i, List.mem_filter.2 ⟨List.mem_range.2 hi, hk⟩, by simp [hi, e]⟩
        · have hk' : ¬ (i = 0 ∨ zs.toArray[i]! ≠ zs.toArray[i - 1]!) := by simpa [Lib.keeps] using hk
          have h0 : i ≠ 0 := fun h => hk' (.inl h)
          have h1 : zs.toArray[i]! = zs.toArray[i - 1]! := Classical.byContradiction fun h => hk' (.inr h)
          have e2 : zs.toArray[i - 1]! = zs[i - 1]'(by omega) := by simp [show i - 1 < zs.length by omega]
          have e1 : zs.toArray[i]! = zs[i] := by simp [hi]
          exact ih (i - 1) (by omega) (by omega) (by rw [← e2, ← h1, e1]; exact e)
    exact go i i hi (Nat.le_refl _) e

theorem sorted_le (zs : List Int) : (zs.mergeSort fun x y => decide (x ≤ y)).Pairwise (· ≤ ·) := by
  have := List.pairwise_mergeSort (le := fun x y : Int => decide (x ≤ y)) (by intro a b c h1 h2; simp at h1 h2 ⊢; omega) (by intro a b; simp; omega) zs
  exact this.imp (by intro a b h; simpa using h)

theorem simpZ_asc (zs : List Int) : Asc (simpZ zs) := compact_asc _ (sorted_le zs)
theorem simpZ_mem (zs : List Int) (z : Int) : z ∈ simpZ zs ↔ z ∈ zs := by
  unfold simpZ; rw [compact_mem, List.mem_mergeSort]

end Go.Proofs.YtckbhhaigpajpaaDoor

/- It is proved what the closures of FamilyLeast, FamilyGreatest and without return; conditions: those of each statement. -/
namespace Go.Proofs.YtckbhhaigpajpaaDoor
open Go.RowKit Go.Shelf

attribute [local go_sem] Oper.semAt_some

def leG (o z : Int) : Bool := bits .andNot .i64 o z == 0
def geG (o z : Int) : Bool := leG z o
/-- A set that another one of the clubs beats. -/
def beatBy (g : Int → Int → Bool) (z o : Int) : Bool := (o != z) && g o z

def beaten (g : Int → Int → Bool) (zs : List Int) (z : Int) : Bool := zs.any (beatBy g z)
end Go.Proofs.YtckbhhaigpajpaaDoor
