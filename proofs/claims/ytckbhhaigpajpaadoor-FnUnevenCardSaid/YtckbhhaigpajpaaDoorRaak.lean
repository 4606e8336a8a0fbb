/- It is proved that members and clubs, put together link by link, fall into as many parts as are counted; conditions: those of each statement. -/
import Derived.Test.YtckbhhaigpajpaaDoorRows
import Derived.WalkKit
import Derived.WalkSpells
import Derived.ProofKit
import Derived.OpenShut
import Derived.ShutString
import Derived.ChangeOld
import Derived.Below
import Derived.Deep.RegionHeld3
import Derived.Deep.QuietTactic
import Derived.BigQuiet
import Derived.Lib.Hide
import Derived.Lib.SmallJoins
import Derived.Outline
import Derived.Laws.MakeOwn
import Derived.Laws.OwnMore
import Derived.IntWalk
import Derived.RangeFuncNested
import Derived.RangeFuncBound
import Derived.RangeFuncCalls
import Derived.RangeFuncLeaves
import Derived.RangeFuncBox
import Derived.Shelf.Abstract
import Derived.Shelf.RegionOpen
import Derived.OwnWalkIn
import Derived.TacticsInMore
import Derived.LoopNIn
import Derived.LoopIn
import Derived.Maps.AppendAt
import Derived.Deep.AppendLies
import Derived.OwnWalk
import Derived.StillTail
import Derived.StillTactics
import Derived.OrdersIn
import Derived.TacticsIn
import Derived.Shelf.Spec.TrailingZeros
import Derived.StillTailTactics
import Derived.Test.YtckbhhaigpajpaaDoorRaag
import Derived.RowKit
import Derived.Laws.CopyRow
import Derived.Lib.SlBuf
import Derived.RangeFuncWrites
import Derived.Maps.OwnIn
import Derived.Maps.Ext
import Derived.DeepKeys4
import Derived.MapKept
import Derived.Lib.AppendZeros
import Derived.Lib.SlicesCompact
import Derived.Lib.OwnBridge
import Derived.Shelf.Sort.Plain
import Derived.Shelf.Slices.In.SortNone
import Derived.Shelf.Slices.CompactI
import Derived.Ground.Names2Prog
import Derived.Lib.SliceRun
import Derived.Deep.LoopGhost
import Derived.Test.YtckbhhaigpajpaaDoorRaab
import Derived.Test.YtckbhhaigpajpaaDoorRaah
namespace Go.Proofs.YtckbhhaigpajpaaDoor

/-- No node ahead of x has its label. -/
def headL (L : Nat → Nat) (x : Nat) : Bool := (List.range x).all fun y => L y != L x

theorem headL_iff {L : Nat → Nat} {x : Nat} : headL L x = true ↔ ∀ y, y < x → L y ≠ L x := by
  simp [headL]

def cntL6 (L : Nat → Nat) (N : Nat) : Nat := (List.range N).countP (headL L)
def relab (a b : Nat) (L : Nat → Nat) : Nat → Nat := fun x => if L x = b then a else L x
theorem count_one {p q : Nat → Bool} {z : Nat} : ∀ {N : Nat}, z < N → p z = true → q z = false → (∀ x, x < N → x ≠ z → q x = p x) → (List.range N).countP q + 1 = (List.range N).countP p
  | 0, h, _, _, _ => by omega
  | N + 1, h, hp, hq, ha => by
    rw [List.range_succ, List.countP_append, List.countP_append, List.countP_singleton, List.countP_singleton]
    by_cases e : z = N
    · subst e
      have : (List.range z).countP q = (List.range z).countP p := List.countP_congr fun x hx => by rw [ha x (by have := List.mem_range.1 hx; omega) (by have := List.mem_range.1 hx; omega)]
      rw [this, hp, hq]; simp
    · have ih := count_one (N := N) (by omega) hp hq (fun x hx hne => ha x (by omega) hne)
      rw [ha N (by omega) (by omega)]
      omega

/-- The first node with a label. -/
theorem least_node {P : Nat → Prop} [DecidablePred P] {n : Nat} (h : P n) : ∃ k, k ≤ n ∧ P k ∧ ∀ y, y < k → ¬ P y := by
  induction n using Nat.strongRecOn with
  | ind n ih =>
    by_cases hx : ∃ y, y < n ∧ P y
    · obtain ⟨y, hy, hp⟩ := hx
      obtain ⟨k, h1, h2, h3⟩ := ih y hy hp
      exact ⟨k, by omega, h2, h3⟩
    · exact ⟨n, Nat.le_refl _, h, fun y hy hp => hx ⟨y, hy, hp⟩⟩

theorem relab_count {L : Nat → Nat} {N u w : Nat} (hu : u < N) (hw : w < N) (hne : L u ≠ L w) : cntL6 (relab (L u) (L w) L) N + 1 = cntL6 L N := by
  obtain ⟨xa, ha1, ha2, ha3⟩ := least_node (P := fun x => L x = L u) (n := u) rfl
  obtain ⟨xb, hb1, hb2, hb3⟩ := least_node (P := fun x => L x = L w) (n := w) rfl
  have hxy : xa ≠ xb := fun e => hne (by rw [← ha2, e, hb2])
  have key : ∀ x, headL L x = true → (L x = L u → x = xa) ∧ (L x = L w → x = xb) := fun x hx => by
    rw [headL_iff] at hx
    refine ⟨fun e => ?_, fun e => ?_⟩
    · rcases Nat.lt_trichotomy x xa with h | h | h
      · exact (ha3 x h e).elim
      · exact h
      · exact (hx xa h (by rw [ha2, e])).elim
    · rcases Nat.lt_trichotomy x xb with h | h | h
      · exact (hb3 x h e).elim
      · exact h
      · exact (hx xb h (by rw [hb2, e])).elim
  have fa : headL L xa = true := headL_iff.2 fun y hy e => ha3 y hy (by rw [e, ha2])
  have fb : headL L xb = true := headL_iff.2 fun y hy e => hb3 y hy (by rw [e, hb2])
  have ra : ∀ x, relab (L u) (L w) L x = L u ↔ L x = L u ∨ L x = L w := fun x => by
    unfold relab
    split
    · rename_i h; exact ⟨fun _ => .inr h, fun _ => rfl⟩
    · rename_i h; exact ⟨fun e => .inl e, fun e => e.elim id (fun e' => (h e').elim)⟩
  have ro : ∀ x, L x ≠ L u → L x ≠ L w → ∀ y, (relab (L u) (L w) L y = relab (L u) (L w) L x ↔ L y = L x) := fun x h1 h2 y => by
    have e : relab (L u) (L w) L x = L x := by unfold relab; rw [if_neg h2]
    rw [e]
    unfold relab
    split
    · rename_i h
      constructor
      · intro e'; exact (h1 e'.symm).elim
      · intro e'; rw [h] at e'; exact (h2 e'.symm).elim
    · exact Iff.rfl
  unfold cntL6
  -- the greater one of both first nodes falls away
  obtain ⟨z, lo, hz, hlo, hfz, hlz⟩ : ∃ z lo, (z = xa ∧ lo = xb ∨ z = xb ∧ lo = xa) ∧ lo < z ∧ headL L z = true ∧ (L lo = L u ∨ L lo = L w) := by
    rcases Nat.lt_or_gt_of_ne hxy with h | h
    · exact ⟨xb, xa, .inr ⟨rfl, rfl⟩, h, fb, .inl ha2⟩
    · exact ⟨xa, xb, .inl ⟨rfl, rfl⟩, h, fa, .inr hb2⟩
  have hzl : L z = L u ∨ L z = L w := by
    rcases hz with ⟨rfl, _⟩ | ⟨rfl, _⟩
    · exact .inl ha2
    · exact .inr hb2
  refine count_one (z := z) (by rcases hz with ⟨rfl, _⟩ | ⟨rfl, _⟩ <;> omega) hfz ?_ fun x hx hxz => ?_
  · cases hq : headL (relab (L u) (L w) L) z
    · rfl
    · exact (headL_iff.1 hq lo hlo (by rw [(ra lo).2 hlz, (ra z).2 hzl])).elim
  · rw [Bool.eq_iff_iff]
    by_cases hl : L x = L u ∨ L x = L w
    · constructor
      · intro hq
        rw [headL_iff] at hq ⊢
        intro y hy e
        refine hq y hy ?_
        rw [(ra y).2 (by rw [e]; exact hl), (ra x).2 hl]
      · intro hp
        have hk := key x hp
        have hxlo : x = lo := by
          rcases hl with h | h
          · have := hk.1 h
            rcases hz with ⟨h1, h2⟩ | ⟨h1, h2⟩ <;> omega
          · have := hk.2 h
            rcases hz with ⟨h1, h2⟩ | ⟨h1, h2⟩ <;> omega
        rw [headL_iff]
        intro y hy e
        rw [(ra x).2 hl] at e
        rcases (ra y).1 e with h | h
        · exact ha3 y (by rcases hz with ⟨h1, h2⟩ | ⟨h1, h2⟩ <;> omega) h
        · exact hb3 y (by rcases hz with ⟨h1, h2⟩ | ⟨h1, h2⟩ <;> omega) h
    · have h1 : L x ≠ L u := fun e => hl (.inl e)
      have h2 : L x ≠ L w := fun e => hl (.inr e)
      rw [headL_iff, headL_iff]
      exact ⟨fun hq y hy e => hq y hy ((ro x h1 h2 y).2 e), fun hp y hy e => hp y hy ((ro x h1 h2 y).1 e)⟩

/-- Two nodes are put together, if they are apart. -/
def joinL (L : Nat → Nat) (e : Nat × Nat) : Nat → Nat := if L e.1 = L e.2 then L else relab (L e.1) (L e.2) L

def runL (E : List (Nat × Nat)) : Nat → Nat := E.foldl joinL id
def okL : (Nat → Nat) → List (Nat × Nat) → Bool
  | _, [] => true
  | L, e :: E => decide (L e.1 ≠ L e.2) && okL (joinL L e) E

theorem okL_snoc : ∀ (E : List (Nat × Nat)) (L : Nat → Nat) (e : Nat × Nat), okL L (E ++ [e]) = (okL L E && decide ((E.foldl joinL L) e.1 ≠ (E.foldl joinL L) e.2))
  | [], L, e => by by_cases h : L e.1 = L e.2 <;> simp [okL, h]
  | x :: E, L, e => by rw [List.cons_append, okL, okL_snoc E, okL, Bool.and_assoc]; rfl

theorem ok_count {N : Nat} : ∀ (E : List (Nat × Nat)) (L : Nat → Nat), (∀ e ∈ E, e.1 < N ∧ e.2 < N) → cntL6 L N ≤ cntL6 (E.foldl joinL L) N + E.length ∧ (okL L E = true ↔ cntL6 (E.foldl joinL L) N + E.length = cntL6 L N)
  | [], L, _ => by simp [okL]
  | e :: E, L, h => by
    obtain ⟨h1, h2⟩ := ok_count E (joinL L e) (fun x hx => h x (by simp [hx]))
    obtain ⟨he1, he2⟩ := h e (by simp)
    rw [List.foldl_cons, List.length_cons, okL]
    by_cases hd : L e.1 = L e.2
    · have hj : joinL L e = L := by unfold joinL; rw [if_pos hd]
      rw [hj] at h1 h2 ⊢
      refine ⟨by omega, ?_⟩
      rw [decide_eq_false (fun h => h hd), Bool.false_and]
      constructor
      · intro h; cases h
      · intro h; omega
    · have hj : joinL L e = relab (L e.1) (L e.2) L := by unfold joinL; rw [if_neg hd]
      have hr := relab_count he1 he2 hd
      rw [← hj] at hr
      refine ⟨by omega, ?_⟩
      rw [decide_eq_true hd, Bool.true_and, h2]
      omega

theorem cnt_id (N : Nat) : cntL6 id N = N := by
  unfold cntL6
  rw [List.countP_eq_length.2 (fun x _ => headL_iff.2 fun y hy => by simp; omega), List.length_range]

/-- Labels are equal only where links lead. -/
theorem run_keeps {C : Nat → Prop} : ∀ (E : List (Nat × Nat)) (L : Nat → Nat), (∀ e ∈ E, (C e.1 ↔ C e.2)) → (∀ x y, L x = L y → (C x ↔ C y)) → ∀ x y, (E.foldl joinL L) x = (E.foldl joinL L) y → (C x ↔ C y)
  | [], _, _, h => h
  | e :: E, L, hE, h => by
    rw [List.foldl_cons]
    refine run_keeps E _ (fun x hx => hE x (by simp [hx])) fun x y hxy => ?_
    unfold joinL at hxy
    split at hxy
    · exact h x y hxy
    · have he := hE e (by simp)
      unfold relab at hxy
      split at hxy <;> split at hxy
      · rename_i h1 h2; exact h x y (by rw [h1, h2])
      · rename_i h1 h2; exact (h x e.2 h1).trans (he.symm.trans (h e.1 y hxy))
      · rename_i h1 h2; exact (h x e.1 hxy).trans (he.trans (h e.2 y h2.symm))
      · exact h x y hxy

theorem join_mono (L : Nat → Nat) (e : Nat × Nat) {x y : Nat} (h : L x = L y) : joinL L e x = joinL L e y := by
  unfold joinL
  split
  · exact h
  · unfold relab; rw [h]

theorem fold_mono : ∀ (E : List (Nat × Nat)) (L : Nat → Nat) {x y : Nat}, L x = L y → (E.foldl joinL L) x = (E.foldl joinL L) y
  | [], _, _, _, h => h
  | e :: E, L, _, _, h => fold_mono E _ (join_mono L e h)

theorem run_links : ∀ (E : List (Nat × Nat)) (L : Nat → Nat), ∀ e ∈ E, (E.foldl joinL L) e.1 = (E.foldl joinL L) e.2
  | [], _, e, h => by simp at h
  | x :: E, L, e, h => by
    rcases List.mem_cons.1 h with rfl | h
    · refine fold_mono E _ ?_
      unfold joinL
      split
      · assumption
      · rename_i hne
        unfold relab
        rw [if_pos rfl, if_neg hne]
    · exact run_links E _ e h

/-- The links of the clubs ahead of i, and of the members ahead of v in i. -/
def bitsL (k v : Nat) : List Nat := (List.range v).filter fun u => k.testBit u

def linksL (m : Nat) (ks : List Nat) (i : Nat) : List (Nat × Nat) := (List.range i).flatMap fun j => (bitsL (ks[j]?.getD 0) m).map fun v => (v, m + j)
theorem bitsL_succ (k v : Nat) : bitsL k (v + 1) = bitsL k v ++ if k.testBit v then [v] else [] := by
  unfold bitsL
  rw [List.range_succ, List.filter_append]
  by_cases h : k.testBit v = true
  · simp [h]
  · simp [h]

theorem linksL_succ (m : Nat) (ks : List Nat) (i : Nat) : linksL m ks (i + 1) = linksL m ks i ++ (bitsL (ks[i]?.getD 0) m).map fun v => (v, m + i) := by
  unfold linksL
  rw [List.range_succ, List.flatMap_append]
  simp

theorem links_mem {m : Nat} {ks : List Nat} {n : Nat} {e : Nat × Nat} : e ∈ linksL m ks n ↔ ∃ j v, j < n ∧ v < m ∧ (ks[j]?.getD 0).testBit v = true ∧ e = (v, m + j) := by
  unfold linksL bitsL
  simp only [List.mem_flatMap, List.mem_range, List.mem_map, List.mem_filter]
  constructor
  · rintro ⟨j, hj, v, ⟨hv, hb⟩, rfl⟩; exact ⟨j, v, hj, hv, hb, rfl⟩
  · rintro ⟨j, v, hj, hv, hb, rfl⟩; exact ⟨j, hj, v, ⟨hv, hb⟩, rfl⟩

def empL (ks : List Nat) : Nat := ks.countP fun k => decide (k = 0)
theorem range_ks (ks : List Nat) (p : Nat → Bool) : ((List.range ks.length).countP fun i => p (ks[i]?.getD 0)) = ks.countP p := by
  induction ks with
  | nil => rfl
  | cons k ks ih =>
    rw [List.length_cons, List.range_succ_eq_map, List.countP_cons, List.countP_map, List.countP_cons, ← ih]
    rfl

theorem links_parts {m : Nat} {ks : List Nat} (h : Ksm m ks) : cntL6 (runL (linksL m ks ks.length)) (m + ks.length) = cntP m ks m + empL ks := by
  obtain ⟨L, hL⟩ : ∃ L, L = runL (linksL m ks ks.length) := ⟨_, rfl⟩
  have h1 : ∀ j v, j < ks.length → v < m → (ks[j]?.getD 0).testBit v = true → L v = L (m + j) := fun j v hj hv hb => by
    rw [hL]
    exact run_links _ id (v, m + j) (links_mem.2 ⟨j, v, hj, hv, hb, rfl⟩)
  have h2 : ∀ C : Nat → Prop, (∀ j v, j < ks.length → v < m → (ks[j]?.getD 0).testBit v = true → (C v ↔ C (m + j))) → ∀ x y, L x = L y → (C x ↔ C y) := fun C hC x y hxy => by
    rw [hL] at hxy
    refine run_keeps _ id (fun e he => ?_) (fun x y e => by rw [show x = y from e]) x y hxy
    obtain ⟨j, v, hj, hv, hb, rfl⟩ := links_mem.1 he
    exact hC j v hj hv hb
  have hbit : ∀ j v, (ks[j]?.getD 0).testBit v = true → j < ks.length ∧ v < m := fun j v hb => by
    have hj : j < ks.length := by
      by_cases e : j < ks.length
      · exact e
      · rw [List.getElem?_eq_none (by omega), Option.getD_none, Nat.zero_testBit] at hb; cases hb
    refine ⟨hj, ?_⟩
    by_cases e : v < m
    · exact e
    · rw [List.getElem?_eq_getElem hj, Option.getD_some, Nat.testBit_lt_two_pow (Nat.lt_of_lt_of_le (h.lt _ (List.getElem_mem hj)) (Nat.pow_le_pow_right (by decide) (by omega)))] at hb
      cases hb
  have hpart : ∀ u v, u < m → v < m → (L u = L v ↔ (partP m ks u).testBit v = true) := fun u v hu hv => by
    constructor
    · intro e
      refine (h2 (fun x => (x < m ∧ (partP m ks u).testBit x = true) ∨ ∃ j, x = m + j ∧ ∃ w, (ks[j]?.getD 0).testBit w = true ∧ (partP m ks u).testBit w = true) (fun j w hj hw hb => ?_) u v e).1 (.inl ⟨hu, partP_self u⟩) |>.elim (fun h => h.2) (fun ⟨j, hj, _⟩ => by omega)
      constructor
      · rintro (⟨_, hp⟩ | ⟨j', e', _⟩)
        · exact .inr ⟨j, rfl, w, hb, hp⟩
        · omega
      · rintro (⟨hlt, _⟩ | ⟨j', e', w', hb', hp'⟩)
        · omega
        · obtain rfl : j = j' := by omega
          refine .inl ⟨hw, partP_closed h hu _ ?_ ⟨w', hb', hp'⟩ w hb⟩
          rw [List.getElem?_eq_getElem hj, Option.getD_some]
          exact List.getElem_mem hj
    · intro hp
      refine (partP_min (m := m) (ks := ks) (v := u) (C := fun w => L w = L u) ?_ rfl v hp).symm
      rintro k hk ⟨w, hw1, hw2⟩ i hi
      obtain ⟨j, hj, rfl⟩ := List.getElem_of_mem hk
      have e : ks[j] = ks[j]?.getD 0 := by rw [List.getElem?_eq_getElem hj, Option.getD_some]
      rw [e] at hw1 hi
      rw [h1 j i hj (hbit j i hi).2 hi, ← h1 j w hj (hbit j w hw1).2 hw1]
      exact hw2
  rw [← hL]
  unfold cntL6
  rw [List.range_add, List.countP_append, List.countP_map]
  congr 1
  · unfold cntP
    rw [← List.countP_eq_length_filter]
    refine List.countP_congr fun v hv => ?_
    have hv' := List.mem_range.1 hv
    rw [headL_iff, firstP_iff h hv']
    refine ⟨fun hq u hu => ?_, fun hq u hu e => ?_⟩
    · cases hb : (partP m ks u).testBit v
      · rfl
      · exact (hq u hu ((hpart u v (by omega) hv').2 hb)).elim
    · have := (hpart u v (by omega) hv').1 e
      rw [hq u hu] at this; cases this
  · unfold empL
    rw [← range_ks ks fun k => decide (k = 0)]
    refine List.countP_congr fun j hj => ?_
    have hj' := List.mem_range.1 hj
    rw [Function.comp_apply, headL_iff, decide_eq_true_eq]
    constructor
    · intro hq
      by_cases e : ks[j]?.getD 0 = 0
      · exact e
      · obtain ⟨v, hv⟩ := Nat.exists_testBit_of_ne_zero e
        have := (hbit j v hv).2
        exact (hq v (by omega) (h1 j v hj' this hv)).elim
    · intro e y hy hyl
      have := (h2 (fun x => x = m + j) (fun j' v hj1 hv hb => ⟨fun e' => by omega, fun e' => by
        obtain rfl : j' = j := by omega
        rw [e, Nat.zero_testBit] at hb; cases hb⟩) y (m + j) hyl).2 rfl
      omega

/-- A forest is told by counting. -/
theorem forest_count {m : Nat} {ks : List Nat} (h : Ksm m ks) : okL id (linksL m ks ks.length) = decide (cntP m ks m + empL ks + (linksL m ks ks.length).length = m + ks.length) := by
  have hN : ∀ e ∈ linksL m ks ks.length, e.1 < m + ks.length ∧ e.2 < m + ks.length := fun e he => by
    obtain ⟨j, v, hj, hv, _, rfl⟩ := links_mem.1 he
    exact ⟨by show v < _; omega, by show m + j < _; omega⟩
  have := (ok_count (linksL m ks ks.length) id hN).2
  rw [cnt_id] at this
  rw [Bool.eq_iff_iff, this, decide_eq_true_eq]
  have hp := links_parts h
  unfold runL at hp
  rw [hp]

end Go.Proofs.YtckbhhaigpajpaaDoor

/- It is proved what EarForest of the model returns; conditions: those of each statement. -/
namespace Go.Proofs.YtckbhhaigpajpaaDoor
open Go.RowKit

def linksV (m : Nat) (ks : List Nat) (i v : Nat) : List (Nat × Nat) := linksL m ks i ++ (bitsL (ks[i]?.getD 0) v).map fun u => (u, m + i)
theorem linksV_zero (m : Nat) (ks : List Nat) (i : Nat) : linksV m ks i 0 = linksL m ks i := by simp [linksV, bitsL]
theorem linksV_all (m : Nat) (ks : List Nat) (i : Nat) : linksV m ks i m = linksL m ks (i + 1) := (linksL_succ m ks i).symm
theorem linksV_no {m : Nat} {ks : List Nat} {i v : Nat} (h : (ks[i]?.getD 0).testBit v = false) : linksV m ks i (v + 1) = linksV m ks i v := by
  unfold linksV
  rw [bitsL_succ, h]; simp

theorem linksV_yes {m : Nat} {ks : List Nat} {i v : Nat} (h : (ks[i]?.getD 0).testBit v = true) : linksV m ks i (v + 1) = linksV m ks i v ++ [(v, m + i)] := by
  unfold linksV
  rw [bitsL_succ, h]; simp

theorem ksOf_at (zs : List Int) (i : Nat) : (ksOf zs)[i]?.getD 0 = (zs[i]?.getD 0 : Int).toNat := by
  unfold ksOf
  rw [List.getElem?_map]
  cases zs[i]? <;> rfl

def forestB (m : Int) (zs : List Int) : Bool := famIn m zs && okL id (linksL m.toNat (ksOf zs) zs.length)
end Go.Proofs.YtckbhhaigpajpaaDoor
