/- It is proved that members and clubs, put together link by link, fall into as many parts as are counted; conditions: those of each statement. -/
import Derived.Test.YtacglafoahmcnaaDoorRows
import Derived.WalkKit
import Derived.WalkSpells
import Derived.ProofKit
import Derived.OpenShut
import Derived.ShutString
import Derived.ChangeOld
import Derived.Below
import Derived.Deep.RegionHeld3
import Derived.Deep.QuietTactic
import Derived.BigQuiet
import Derived.Lib.Hide
import Derived.Lib.SmallJoins
import Derived.Outline
import Derived.Laws.MakeOwn
import Derived.Laws.OwnMore
import Derived.IntWalk
import Derived.RangeFuncNested
import Derived.RangeFuncBound
import Derived.RangeFuncCalls
import Derived.RangeFuncLeaves
import Derived.RangeFuncBox
import Derived.Shelf.Abstract
import Derived.Shelf.RegionOpen
import Derived.OwnWalkIn
import Derived.TacticsInMore
import Derived.LoopNIn
import Derived.LoopIn
import Derived.Maps.AppendAt
import Derived.Deep.AppendLies
import Derived.OwnWalk
import Derived.StillTail
import Derived.StillTactics
import Derived.OrdersIn
import Derived.TacticsIn
import Derived.Shelf.Spec.TrailingZeros
import Derived.StillTailTactics
import Derived.Test.YtacglafoahmcnaaDoorRabaxFnColo
import Derived.RowKit
import Derived.Laws.CopyRow
import Derived.Lib.SlBuf
import Derived.RangeFuncWrites
import Derived.Maps.OwnIn
import Derived.Maps.Ext
import Derived.DeepKeys4
import Derived.MapKept
import Derived.Lib.AppendZeros
import Derived.Lib.SlicesCompact
import Derived.Lib.OwnBridge
import Derived.Shelf.Sort.Plain
import Derived.Shelf.Slices.In.SortNone
import Derived.Shelf.Slices.CompactI
import Derived.Ground.Names2Prog
import Derived.Lib.SliceRun
import Derived.Deep.LoopGhost
import Derived.Test.YtacglafoahmcnaaDoorRaac
import Derived.Test.YtacglafoahmcnaaDoorRaae
import Derived.Test.YtacglafoahmcnaaDoorRaaw
import Derived.Test.YtacglafoahmcnaaDoorRaal
import Derived.Test.YtacglafoahmcnaaDoorRaam
namespace Go.Proofs.YtacglafoahmcnaaDoor

/-- No node ahead of x has its label. -/
def headL (L : Nat → Nat) (x : Nat) : Bool := (List.range x).all fun y => L y != L x

theorem headL_iff {L : Nat → Nat} {x : Nat} : headL L x = true ↔ ∀ y, y < x → L y ≠ L x := by
  simp [headL]

def cntL6 (L : Nat → Nat) (N : Nat) : Nat := (List.range N).countP (headL L)
def relab (a b : Nat) (L : Nat → Nat) : Nat → Nat := fun x => if L x = b then a else L x
theorem count_one {p q : Nat → Bool} {z : Nat} : ∀ {N : Nat}, z < N → p z = true → q z = false → (∀ x, x < N → x ≠ z → q x = p x) → (List.range N).countP q + 1 = (List.range N).countP p
  | 0, h, _, _, _ => by omega
  | N + 1, h, hp, hq, ha => by
    rw [List.range_succ, List.countP_append, List.countP_append, List.countP_singleton, List.countP_singleton]
    by_cases e : z = N
    · subst e
      have : (List.range z).countP q = (List.range z).countP p := List.countP_congr fun x hx => by rw [ha x (by have := List.mem_range.1 hx; omega) (by have := List.mem_range.1 hx; omega)]
      rw [this, hp, hq]; simp
    · have ih := count_one (N := N) (by omega) hp hq (fun x hx hne => ha x (by omega) hne)
      rw [ha N (by omega) (by omega)]
      omega

/-- The first node with a label. -/
theorem least_node {P : Nat → Prop} [DecidablePred P] {n : Nat} (h : P n) : ∃ k, k ≤ n ∧ P k ∧ ∀ y, y < k → ¬ P y := by
  induction n using Nat.strongRecOn with
  | ind n ih =>
    by_cases hx : ∃ y, y < n ∧ P y
    · obtain ⟨y, hy, hp⟩ := hx
      obtain ⟨k, h1, h2, h3⟩ := ih y hy hp
      exact ⟨k, by omega, h2, h3⟩
    · exact ⟨n, Nat.le_refl _, h, fun y hy hp => hx ⟨y, hy, hp⟩⟩

theorem relab_count {L : Nat → Nat} {N u w : Nat} (hu : u < N) (hw : w < N) (hne : L u ≠ L w) : cntL6 (relab (L u) (L w) L) N + 1 = cntL6 L N := by
  obtain ⟨xa, ha1, ha2, ha3⟩ := least_node (P := fun x => L x = L u) (n := u) rfl
  obtain ⟨xb, hb1, hb2, hb3⟩ := least_node (P := fun x => L x = L w) (n := w) rfl
  have hxy : xa ≠ xb := fun e => hne (by rw [← ha2, e, hb2])
  have key : ∀ x, headL L x = true → (L x = L u → x = xa) ∧ (L x = L w → x = xb) := fun x hx => by
    rw [headL_iff] at hx
    refine ⟨fun e => ?_, fun e => ?_⟩
    · rcases Nat.lt_trichotomy x xa with h | h | h
      · exact (ha3 x h e).elim
      · exact h
      · exact (hx xa h (by rw [ha2, e])).elim
    · rcases Nat.lt_trichotomy x xb with h | h | h
      · exact (hb3 x h e).elim
      · exact h
      · exact (hx xb h (by rw [hb2, e])).elim
  have fa : headL L xa = true := headL_iff.2 fun y hy e => ha3 y hy (by rw [e, ha2])
  have fb : headL L xb = true := headL_iff.2 fun y hy e => hb3 y hy (by rw [e, hb2])
  have ra : ∀ x, relab (L u) (L w) L x = L u ↔ L x = L u ∨ L x = L w := fun x => by
    unfold relab
    split
    · rename_i h; exact ⟨fun _ => .inr h, fun _ => rfl⟩
    · rename_i h; exact ⟨fun e => .inl e, fun e => e.elim id (fun e' => (h e').elim)⟩
  have ro : ∀ x, L x ≠ L u → L x ≠ L w → ∀ y, (relab (L u) (L w) L y = relab (L u) (L w) L x ↔ L y = L x) := fun x h1 h2 y => by
    have e : relab (L u) (L w) L x = L x := by unfold relab; rw [if_neg h2]
    rw [e]
    unfold relab
    split
    · rename_i h
      constructor
      · intro e'; exact (h1 e'.symm).elim
      · intro e'; rw [h] at e'; exact (h2 e'.symm).elim
    · exact Iff.rfl
  unfold cntL6
  -- the greater one of both first nodes falls away
  obtain ⟨z, lo, hz, hlo, hfz, hlz⟩ : ∃ z lo, (z = xa ∧ lo = xb ∨ z = xb ∧ lo = xa) ∧ lo < z ∧ headL L z = true ∧ (L lo = L u ∨ L lo = L w) := by
    rcases Nat.lt_or_gt_of_ne hxy with h | h
    · exact ⟨xb, xa, .inr ⟨rfl, rfl⟩, h, fb, .inl ha2⟩
    · exact ⟨xa, xb, .inl ⟨rfl, rfl⟩, h, fa, .inr hb2⟩
  have hzl : L z = L u ∨ L z = L w := by
    rcases hz with ⟨rfl, _⟩ | ⟨rfl, _⟩
    · exact .inl ha2
    · exact .inr hb2
  refine count_one (z := z) (by rcases hz with ⟨rfl, _⟩ | ⟨rfl, _⟩ <;> omega) hfz ?_ fun x hx hxz => ?_
  · cases hq : headL (relab (L u) (L w) L) z
    · rfl
    · exact (headL_iff.1 hq lo hlo (by rw [(ra lo).2 hlz, (ra z).2 hzl])).elim
  · rw [Bool.eq_iff_iff]
    by_cases hl : L x = L u ∨ L x = L w
    · constructor
      · intro hq
        rw [headL_iff] at hq ⊢
        intro y hy e
        refine hq y hy ?_
        rw [(ra y).2 (by rw [e]; exact hl), (ra x).2 hl]
      · intro hp
        have hk := key x hp
        have hxlo : x = lo := by
          rcases hl with h | h
          · have := hk.1 h
            rcases hz with ⟨h1, h2⟩ | ⟨h1, h2⟩ <;> omega
          · have := hk.2 h
            rcases hz with ⟨h1, h2⟩ | ⟨h1, h2⟩ <;> omega
        rw [headL_iff]
        intro y hy e
        rw [(ra x).2 hl] at e
        rcases (ra y).1 e with h | h
        · exact ha3 y (by rcases hz with ⟨h1, h2⟩ | ⟨h1, h2⟩ <;> omega) h
        · exact hb3 y (by rcases hz with ⟨h1, h2⟩ | ⟨h1, h2⟩ <;> omega) h
    · have h1 : L x ≠ L u := fun e => hl (.inl e)
      have h2 : L x ≠ L w := fun e => hl (.inr e)
      rw [headL_iff, headL_iff]
      exact ⟨fun hq y hy e => hq y hy ((ro x h1 h2 y).2 e), fun hp y hy e => hp y hy ((ro x h1 h2 y).1 e)⟩

/-- Two nodes are put together, if they are apart. -/
def joinL (L : Nat → Nat) (e : Nat × Nat) : Nat → Nat := if L e.1 = L e.2 then L else relab (L e.1) (L e.2) L

def runL (E : List (Nat × Nat)) : Nat → Nat := E.foldl joinL id
def okL : (Nat → Nat) → List (Nat × Nat) → Bool
  | _, [] => true
  | L, e :: E => decide (L e.1 ≠ L e.2) && okL (joinL L e) E

theorem okL_snoc : ∀ (E : List (Nat × Nat)) (L : Nat → Nat) (e : Nat × Nat), okL L (E ++ [e]) = (okL L E && decide ((E.foldl joinL L) e.1 ≠ (E.foldl joinL L) e.2))
  | [], L, e => by by_cases h : L e.1 = L e.2 <;> simp [okL, h]
  | x :: E, L, e => by rw [List.cons_append, okL, okL_snoc E, okL, Bool.and_assoc]; rfl

theorem ok_count {N : Nat} : ∀ (E : List (Nat × Nat)) (L : Nat → Nat), (∀ e ∈ E, e.1 < N ∧ e.2 < N) → cntL6 L N ≤ cntL6 (E.foldl joinL L) N + E.length ∧ (okL L E = true ↔ cntL6 (E.foldl joinL L) N + E.length = cntL6 L N)
  | [], L, _ => by simp [okL]
  | e :: E, L, h => by
    obtain ⟨h1, h2⟩ := ok_count E (joinL L e) (fun x hx => h x (by simp [hx]))
    obtain ⟨he1, he2⟩ := h e (by simp)
    rw [List.foldl_cons, List.length_cons, okL]
    by_cases hd : L e.1 = L e.2
    · have hj : joinL L e = L := by unfold joinL; rw [if_pos hd]
      rw [hj] at h1 h2 ⊢
      refine ⟨by omega, ?_⟩
      rw [decide_eq_false (fun h => h hd), Bool.false_and]
      constructor
      · intro h; cases h
      · intro h; omega
    · have hj : joinL L e = relab (L e.1) (L e.2) L := by unfold joinL; rw [if_neg hd]
      have hr := relab_count he1 he2 hd
      rw [← hj] at hr
      refine ⟨by omega, ?_⟩
      rw [decide_eq_true hd, Bool.true_and, h2]
      omega

theorem cnt_id (N : Nat) : cntL6 id N = N := by
  unfold cntL6
  rw [List.countP_eq_length.2 (fun x _ => headL_iff.2 fun y hy => by simp; omega), List.length_range]

/-- Labels are equal only where links lead. -/
theorem run_keeps {C : Nat → Prop} : ∀ (E : List (Nat × Nat)) (L : Nat → Nat), (∀ e ∈ E, (C e.1 ↔ C e.2)) → (∀ x y, L x = L y → (C x ↔ C y)) → ∀ x y, (E.foldl joinL L) x = (E.foldl joinL L) y → (C x ↔ C y)
  | [], _, _, h => h
  | e :: E, L, hE, h => by
    rw [List.foldl_cons]
    refine run_keeps E _ (fun x hx => hE x (by simp [hx])) fun x y hxy => ?_
    unfold joinL at hxy
    split at hxy
    · exact h x y hxy
    · have he := hE e (by simp)
      unfold relab at hxy
      split at hxy <;> split at hxy
      · rename_i h1 h2; exact h x y (by rw [h1, h2])
      · rename_i h1 h2; exact (h x e.2 h1).trans (he.symm.trans (h e.1 y hxy))
      · rename_i h1 h2; exact (h x e.1 hxy).trans (he.trans (h e.2 y h2.symm))
      · exact h x y hxy

theorem join_mono (L : Nat → Nat) (e : Nat × Nat) {x y : Nat} (h : L x = L y) : joinL L e x = joinL L e y := by
  unfold joinL
  split
  · exact h
  · unfold relab; rw [h]

theorem fold_mono : ∀ (E : List (Nat × Nat)) (L : Nat → Nat) {x y : Nat}, L x = L y → (E.foldl joinL L) x = (E.foldl joinL L) y
  | [], _, _, _, h => h
  | e :: E, L, _, _, h => fold_mono E _ (join_mono L e h)

theorem run_links : ∀ (E : List (Nat × Nat)) (L : Nat → Nat), ∀ e ∈ E, (E.foldl joinL L) e.1 = (E.foldl joinL L) e.2
  | [], _, e, h => by simp at h
  | x :: E, L, e, h => by
    rcases List.mem_cons.1 h with rfl | h
    · refine fold_mono E _ ?_
      unfold joinL
      split
      · assumption
      · rename_i hne
        unfold relab
        rw [if_pos rfl, if_neg hne]
    · exact run_links E _ e h

/-- The links of the clubs ahead of i, and of the members ahead of v in i. -/
def bitsL (k v : Nat) : List Nat := (List.range v).filter fun u => k.testBit u

def linksL (m : Nat) (ks : List Nat) (i : Nat) : List (Nat × Nat) := (List.range i).flatMap fun j => (bitsL (ks[j]?.getD 0) m).map fun v => (v, m + j)
theorem bitsL_succ (k v : Nat) : bitsL k (v + 1) = bitsL k v ++ if k.testBit v then [v] else [] := by
  unfold bitsL
  rw [List.range_succ, List.filter_append]
  by_cases h : k.testBit v = true
  · simp [h]
  · simp [h]

theorem linksL_succ (m : Nat) (ks : List Nat) (i : Nat) : linksL m ks (i + 1) = linksL m ks i ++ (bitsL (ks[i]?.getD 0) m).map fun v => (v, m + i) := by
  unfold linksL
  rw [List.range_succ, List.flatMap_append]
  simp

theorem links_mem {m : Nat} {ks : List Nat} {n : Nat} {e : Nat × Nat} : e ∈ linksL m ks n ↔ ∃ j v, j < n ∧ v < m ∧ (ks[j]?.getD 0).testBit v = true ∧ e = (v, m + j) := by
  unfold linksL bitsL
  simp only [List.mem_flatMap, List.mem_range, List.mem_map, List.mem_filter]
  constructor
  · rintro ⟨j, hj, v, ⟨hv, hb⟩, rfl⟩; exact ⟨j, v, hj, hv, hb, rfl⟩
  · rintro ⟨j, v, hj, hv, hb, rfl⟩; exact ⟨j, hj, v, ⟨hv, hb⟩, rfl⟩

def empL (ks : List Nat) : Nat := ks.countP fun k => decide (k = 0)
theorem range_ks (ks : List Nat) (p : Nat → Bool) : ((List.range ks.length).countP fun i => p (ks[i]?.getD 0)) = ks.countP p := by
  induction ks with
  | nil => rfl
  | cons k ks ih =>
    rw [List.length_cons, List.range_succ_eq_map, List.countP_cons, List.countP_map, List.countP_cons, ← ih]
    rfl

theorem links_parts {m : Nat} {ks : List Nat} (h : Ksm m ks) : cntL6 (runL (linksL m ks ks.length)) (m + ks.length) = cntP m ks m + empL ks := by
  obtain ⟨L, hL⟩ : ∃ L, L = runL (linksL m ks ks.length) := ⟨_, rfl⟩
  have h1 : ∀ j v, j < ks.length → v < m → (ks[j]?.getD 0).testBit v = true → L v = L (m + j) := fun j v hj hv hb => by
    rw [hL]
    exact run_links _ id (v, m + j) (links_mem.2 ⟨j, v, hj, hv, hb, rfl⟩)
  have h2 : ∀ C : Nat → Prop, (∀ j v, j < ks.length → v < m → (ks[j]?.getD 0).testBit v = true → (C v ↔ C (m + j))) → ∀ x y, L x = L y → (C x ↔ C y) := fun C hC x y hxy => by
    rw [hL] at hxy
    refine run_keeps _ id (fun e he => ?_) (fun x y e => by rw [show x = y from e]) x y hxy
    obtain ⟨j, v, hj, hv, hb, rfl⟩ := links_mem.1 he
    exact hC j v hj hv hb
  have hbit : ∀ j v, (ks[j]?.getD 0).testBit v = true → j < ks.length ∧ v < m := fun j v hb => by
    have hj : j < ks.length := by
      by_cases e : j < ks.length
      · exact e
      · rw [List.getElem?_eq_none (by omega), Option.getD_none, Nat.zero_testBit] at hb; cases hb
    refine ⟨hj, ?_⟩
    by_cases e : v < m
    · exact e
    · rw [List.getElem?_eq_getElem hj, Option.getD_some, Nat.testBit_lt_two_pow (Nat.lt_of_lt_of_le (h.lt _ (List.getElem_mem hj)) (Nat.pow_le_pow_right (by decide) (by omega)))] at hb
      cases hb
  have hpart : ∀ u v, u < m → v < m → (L u = L v ↔ (partP m ks u).testBit v = true) := fun u v hu hv => by
    constructor
    · intro e
      refine (h2 (fun x => (x < m ∧ (partP m ks u).testBit x = true) ∨ ∃ j, x = m + j ∧ ∃ w, (ks[j]?.getD 0).testBit w = true ∧ (partP m ks u).testBit w = true) (fun j w hj hw hb => ?_) u v e).1 (.inl ⟨hu, partP_self u⟩) |>.elim (fun h => h.2) (fun ⟨j, hj, _⟩ => by omega)
      constructor
      · rintro (⟨_, hp⟩ | ⟨j', e', _⟩)
        · exact .inr ⟨j, rfl, w, hb, hp⟩
        · omega
      · rintro (⟨hlt, _⟩ | ⟨j', e', w', hb', hp'⟩)
        · omega
        · obtain rfl : j = j' := by omega
          refine .inl ⟨hw, partP_closed h hu _ ?_ ⟨w', hb', hp'⟩ w hb⟩
          rw [List.getElem?_eq_getElem hj, Option.getD_some]
          exact List.getElem_mem hj
    · intro hp
      refine (partP_min (m := m) (ks := ks) (v := u) (C := fun w => L w = L u) ?_ rfl v hp).symm
      rintro k hk ⟨w, hw1, hw2⟩ i hi
      obtain ⟨j, hj, rfl⟩ := List.getElem_of_mem hk
      have e : ks[j] = ks[j]?.getD 0 := by rw [List.getElem?_eq_getElem hj, Option.getD_some]
      rw [e] at hw1 hi
      rw [h1 j i hj (hbit j i hi).2 hi, ← h1 j w hj (hbit j w hw1).2 hw1]
      exact hw2
  rw [← hL]
  unfold cntL6
  rw [List.range_add, List.countP_append, List.countP_map]
  congr 1
  · unfold cntP
    rw [← List.countP_eq_length_filter]
    refine List.countP_congr fun v hv => ?_
    have hv' := List.mem_range.1 hv
    rw [headL_iff, firstP_iff h hv']
    refine ⟨fun hq u hu => ?_, fun hq u hu e => ?_⟩
    · cases hb : (partP m ks u).testBit v
      · rfl
      · exact (hq u hu ((hpart u v (by omega) hv').2 hb)).elim
    · have := (hpart u v (by omega) hv').1 e
      rw [hq u hu] at this; cases this
  · unfold empL
    rw [← range_ks ks fun k => decide (k = 0)]
    refine List.countP_congr fun j hj => ?_
    have hj' := List.mem_range.1 hj
    rw [Function.comp_apply, headL_iff, decide_eq_true_eq]
    constructor
    · intro hq
      by_cases e : ks[j]?.getD 0 = 0
      · exact e
      · obtain ⟨v, hv⟩ := Nat.exists_testBit_of_ne_zero e
        have := (hbit j v hv).2
        exact (hq v (by omega) (h1 j v hj' this hv)).elim
    · intro e y hy hyl
      have := (h2 (fun x => x = m + j) (fun j' v hj1 hv hb => ⟨fun e' => by omega, fun e' => by
        obtain rfl : j' = j := by omega
        rw [e, Nat.zero_testBit] at hb; cases hb⟩) y (m + j) hyl).2 rfl
      omega

/-- A forest is told by counting. -/
theorem forest_count {m : Nat} {ks : List Nat} (h : Ksm m ks) : okL id (linksL m ks ks.length) = decide (cntP m ks m + empL ks + (linksL m ks ks.length).length = m + ks.length) := by
  have hN : ∀ e ∈ linksL m ks ks.length, e.1 < m + ks.length ∧ e.2 < m + ks.length := fun e he => by
    obtain ⟨j, v, hj, hv, _, rfl⟩ := links_mem.1 he
    exact ⟨by show v < _; omega, by show m + j < _; omega⟩
  have := (ok_count (linksL m ks ks.length) id hN).2
  rw [cnt_id] at this
  rw [Bool.eq_iff_iff, this, decide_eq_true_eq]
  have hp := links_parts h
  unfold runL at hp
  rw [hp]

end Go.Proofs.YtacglafoahmcnaaDoor

/- It is proved what EarForest of the model returns; conditions: those of each statement. -/
namespace Go.Proofs.YtacglafoahmcnaaDoor
open Go.RowKit

def linksV (m : Nat) (ks : List Nat) (i v : Nat) : List (Nat × Nat) := linksL m ks i ++ (bitsL (ks[i]?.getD 0) v).map fun u => (u, m + i)
theorem linksV_zero (m : Nat) (ks : List Nat) (i : Nat) : linksV m ks i 0 = linksL m ks i := by simp [linksV, bitsL]
theorem linksV_all (m : Nat) (ks : List Nat) (i : Nat) : linksV m ks i m = linksL m ks (i + 1) := (linksL_succ m ks i).symm
theorem linksV_no {m : Nat} {ks : List Nat} {i v : Nat} (h : (ks[i]?.getD 0).testBit v = false) : linksV m ks i (v + 1) = linksV m ks i v := by
  unfold linksV
  rw [bitsL_succ, h]; simp

theorem linksV_yes {m : Nat} {ks : List Nat} {i v : Nat} (h : (ks[i]?.getD 0).testBit v = true) : linksV m ks i (v + 1) = linksV m ks i v ++ [(v, m + i)] := by
  unfold linksV
  rw [bitsL_succ, h]; simp

theorem ksOf_at (zs : List Int) (i : Nat) : (ksOf zs)[i]?.getD 0 = (zs[i]?.getD 0 : Int).toNat := by
  unfold ksOf
  rw [List.getElem?_map]
  cases zs[i]? <;> rfl

def forestB (m : Int) (zs : List Int) : Bool := famIn m zs && okL id (linksL m.toNat (ksOf zs) zs.length)
end Go.Proofs.YtacglafoahmcnaaDoor

/- It is proved what the iterator over a set's parts yields; conditions: those of each statement. -/
namespace Go.Proofs.YtacglafoahmcnaaDoor
open Go.RowKit Go.Shelf

attribute [local go_sem] Oper.semAt_some

/-- What a round must keep: the cell with the set. -/
def CellK (Bs : Nat) (v : Value) (A B : World) : Prop := A.cell? ⟨Bs, 0, none⟩ = some v → B.cell? ⟨Bs, 0, none⟩ = some v

end Go.Proofs.YtacglafoahmcnaaDoor

/- It is proved what the iterators over the members and the parts of a set of places yield; conditions: those of each statement. -/
namespace Go.Proofs.YtacglafoahmcnaaDoor
open Go.RowKit Go.Shelf

attribute [local go_sem] Oper.semAt_some

set_option maxRecDepth 100000 in
theorem memW_cons_fin : ∀ s : Fin 256, s.val ≠ 0 → memK 8 s.val = Lib.ctz 64 s.val :: memK 8 (s.val &&& (s.val - 1)) := by decide +kernel

theorem memW_cons (s : Nat) (hs : s < 256) (h : s ≠ 0) : memK 8 s = Lib.ctz 64 s :: memK 8 (s &&& (s - 1)) := memW_cons_fin ⟨s, hs⟩ h
theorem memK_len (k s : Nat) : (memK k s).length ≤ k := by unfold memK; exact Nat.le_trans (List.length_filter_le _ _) (by simp)
theorem memK_lt {k s v : Nat} (h : v ∈ memK k s) : v < k := List.mem_range.1 (List.mem_filter.1 h).1
theorem memW_is {k s : Nat} (hk : k ≤ 8) (hs : s < 2 ^ k) : memK 8 s = memK k s := by
  unfold memK
  obtain ⟨d, hd⟩ : ∃ d, 8 = k + d := ⟨8 - k, by omega⟩
  rw [hd, List.range_add, List.filter_append]
  have : (List.map (fun x => k + x) (List.range d)).filter (fun i => s.testBit i) = [] := by
    rw [List.filter_eq_nil_iff]
    intro i hi
    obtain ⟨j, -, rfl⟩ := List.mem_map.1 hi
    rw [Nat.testBit_lt_two_pow (Nat.lt_of_lt_of_le hs (Nat.pow_le_pow_right (by decide) (by omega)))]
    decide
  rw [this, List.append_nil]

theorem tzW_any (x : Nat) (hx0 : x ≠ 0) (hx : x < 256) (w : World) (hT : Tab w) :
    Calls Tryd.prog 90 #[.int .u64 x] w fun e w' => e = .returned (.int .i64 (Lib.ctz 64 x : Nat)) ∧ w = w' := by
  obtain ⟨hlow, hk⟩ := Lib.lowest_bit 64 x hx0 (by omega)
  obtain ⟨hi, htab⟩ := Lib.deBruijn64_at _ hk
  have hcell := hT _ hi
  rw [htab] at hcell
  have H := tz64_coreD x _ _ w (by simp; omega) (tz64_key x _ (by omega) hx0 hlow) hi hk hcell
  clear hT hcell htab hi hlow
  go_enter Tryd.func90, Tryd.ntmps90
  go_wp2_with (go_at_call 123; refine H.mono ?_; rintro e w' ⟨rfl, rfl⟩)
  go_ret
  exact ⟨rfl, rfl⟩

theorem lowW_and (t : Nat) (h0 : t ≠ 0) (h : t < 256) : bits BinOp.and IntKind.u64 (t : Int) ((t : Int) - 1) = ((t &&& (t - 1) : Nat) : Int) := by
  rw [show (t : Int) - 1 = ((t - 1 : Nat) : Int) from by omega, bits_and_u64_nat t _ (by omega) (by omega)]

/-- A place of s. -/
abbrev MemW (s : Nat) := { v : Nat // v ∈ memK 8 s }

def valsW {s : Nat} (ys : List (MemW s)) : List Nat := ys.map (·.1)
theorem valsW_snoc {s : Nat} (ys : List (MemW s)) (y : MemW s) : valsW (ys ++ [y]) = valsW ys ++ [y.1] := by simp [valsW]
set_option maxRecDepth 100000 in
set_option maxHeartbeats 2000000 in
theorem membersW1_in (n : Nat) (hn : 1 ≤ n) (l Bs n₀ s : Nat) (hs64 : s < 256) (J Jx : List (MemW s) → World → Prop)
    (hY : ∀ pre x W, J pre W → pre.length < 8 → valsW (pre ++ [x]) <+: memK 8 s → YieldAt Fence.wide (n - 1) Tryd.prog l #[.int .i64 (x.1 : Int)] W fun e W' =>
      (e = .returned (.bool true) ∧ J (pre ++ [x]) W' ∧ Below n₀ W W') ∨ (e = .returned (.bool false) ∧ Jx (pre ++ [x]) W'))
    (W : World) (hBs : W.cell? ⟨Bs, 0, none⟩ = some (.int .i64 (s : Int))) (hT : Tab W) (hn0 : 1 < n₀) (h0 : J [] W) :
    CallsIn Fence.wide n Tryd.prog 89 #[.func (.yield l) #[] #[], .pointer (some ⟨Bs, 0, none⟩)] W fun e W' => (∃ v, e = .returned v) ∧
      ((∃ ys, valsW ys = memK 8 s ∧ J ys W') ∨ (∃ pre, valsW pre <+: memK 8 s ∧ Jx pre W')) := by
  have hss : (s : Int) < 256 := by omega
  refine callsIn_of_wp Tryd.func89 rfl trivial ?_ rfl
  simp only [Tryd.ntmps89, List.size_toArray, List.length_cons, List.length_nil, Nat.reduceAdd, Nat.reduceSub, Array.replicate_succ, Array.replicate_zero, List.push_toArray, List.append_toArray, List.nil_append, List.cons_append]
  gi_wp2
  gi_loopw [3] (fun r wr => ∃ (t : Nat) (pre : List (MemW s)), t < 256 ∧ valsW pre ++ memK 8 t = memK 8 s ∧ r = .int .u64 (t : Int) ∧ J pre wr ∧ Below n₀ W wr)
    (fun r _ => (intOf r).toNat)
  case atStart => exact ⟨s, [], hs64, by simp [valsW], rfl, h0, Below.refl _ _⟩
  case round =>
    obtain ⟨t, pre, ht, hpre, rfl, hJs, hnx⟩ := hrel
    by_cases h0 : t = 0
    · subst h0
      rw [show memK 8 0 = [] from rfl, List.append_nil] at hpre
      gi_wp2
      go_end0
      exact ⟨⟨_, rfl⟩, .inl ⟨pre, hpre, hJs⟩⟩
    · have hc := memW_cons t ht h0
      rw [hc] at hpre
      have hk : Lib.ctz 64 t ∈ memK 8 s := by rw [← hpre]; simp
      have hlen : pre.length < 8 := by
        have h1 := memK_len 8 s
        rw [← hpre] at h1
        simp [valsW] at h1
        omega
      have HA := Lib.hid (lowW_and t h0 ht)
      have hT2 : Tab wr := hT.below hnx hn0
      have hpre' : valsW (pre ++ [(⟨Lib.ctz 64 t, hk⟩ : MemW s)]) ++ memK 8 (t &&& (t - 1)) = memK 8 s := (by rw [valsW_snoc, List.append_assoc]; exact hpre)
      have hlt : t &&& (t - 1) < t := by have := @Nat.and_le_right t (t - 1); omega
      obtain ⟨fn, tmps, assign, body, hy, hR⟩ := hY _ ⟨Lib.ctz 64 t, hk⟩ wr hJs hlen ⟨_, hpre'⟩
      dsimp only at hy
      have ht0 : (0 : Int) < (t : Int) := by omega
      clear hc hpre
      gi_wp2
      refine ⟨trivial, (callsIn_wide.2 (tzW_any t h0 ht _ hT2)).mono ?_⟩
      rintro e w' ⟨rfl, rfl⟩
      gi_wp2
      refine hR.mono ?_
      rintro e W3 (⟨rfl, hJ3, hk3⟩ | ⟨rfl, hJx3⟩)
      · gi_wp2
        go_roundw
        case rel => exact ⟨t &&& (t - 1), _, by omega, hpre', by rw [HA.out], hJ3, hnx.trans hk3⟩
        case measure => rw [HA.out]; simp only [intOf]; omega
      · gi_wp2
        refine bodyPost_ret (results_none rfl _ _ _) rfl ?_
        exact ⟨⟨_, rfl⟩, .inr ⟨_, ⟨memK 8 (t &&& (t - 1)), hpre'⟩, hJx3⟩⟩

theorem membersW_stops (n : Nat) (hn : 1 ≤ n) (Bs n₀ s : Nat) (hs : s < 256) (w : World) (hBs : Bs < w.heap.size) (hn₀ : n₀ ≤ w.heap.size) (hn1 : 1 < n₀)
    (hc : w.cell? ⟨Bs, 0, none⟩ = some (.int .i64 (s : Int))) (hT : Tab w) :
    SeqStopsK Fence.wide n Tryd.prog 89 #[.pointer (some ⟨Bs, 0, none⟩)] (fun x : MemW s => #[Value.int .i64 (x.1 : Int)]) (Below n₀) (fun ys => valsW ys = memK 8 s)
      (fun pre => valsW pre <+: memK 8 s) 8 w := fun l J Jx W hW _ _ hY h0 =>
  membersW1_in n hn l Bs n₀ s hs J Jx (fun pre x W h1 h2 _ => hY pre x W h1 h2) W ((hW.cell (p := ⟨Bs, 0, none⟩) hBs).trans hc) (hT.below hW (by omega)) hn1 h0

/-- A number below N. -/
abbrev PrtF (N : Nat) := { s : Nat // s < N }

def valsF {N : Nat} (ys : List (PrtF N)) : List Nat := ys.map (·.1)
theorem valsF_snoc {N : Nat} (ys : List (PrtF N)) (y : PrtF N) : valsF (ys ++ [y]) = valsF ys ++ [y.1] := by simp [valsF]
set_option maxRecDepth 100000 in
theorem nextF_fin : ∀ k : Fin 9, ∀ t : Fin 256, t.val < 2 ^ k.val - 1 → bits .and .i64 ((t.val : Int) - (2 ^ k.val - 1)) (2 ^ k.val - 1) = (t.val : Int) + 1 := by decide +kernel

theorem full_lt {k : Nat} (hk : k ≤ 8) : 1 ≤ 2 ^ k ∧ 2 ^ k ≤ 256 := ⟨Nat.one_le_two_pow, Nat.pow_le_pow_right (n := 2) (by decide) hk⟩
theorem cast_full (k : Nat) : ((2 ^ k - 1 : Nat) : Int) = 2 ^ k - 1 := by
  have : 1 ≤ 2 ^ k := Nat.one_le_two_pow
  have h2 : ((2 ^ k : Nat) : Int) = (2 : Int) ^ k := by norm_cast
  omega

set_option maxRecDepth 100000 in
set_option maxHeartbeats 2000000 in
theorem partsF1_in (n : Nat) (hn : 1 ≤ n) (l Bs k N : Nat) (hN : N = 2 ^ k) (hk8 : k ≤ 8) (c : Int) (hc : c = ((2 ^ k - 1 : Nat) : Int)) (J Jx : List (PrtF N) → World → Prop)
    (hY : ∀ pre x W, J pre W → pre.length < N → valsF pre = List.range x.1 → YieldAt Fence.wide (n - 1) Tryd.prog l #[.int .i64 (x.1 : Int)] W fun e W' =>
      (e = .returned (.bool true) ∧ J (pre ++ [x]) W' ∧ CellK Bs (.int .i64 c) W W') ∨ (e = .returned (.bool false) ∧ Jx (pre ++ [x]) W'))
    (W : World) (hBs : W.cell? ⟨Bs, 0, none⟩ = some (.int .i64 c)) (h0 : J [] W) :
    CallsIn Fence.wide n Tryd.prog 140 #[.func (.yield l) #[] #[], .pointer (some ⟨Bs, 0, none⟩)] W fun e W' => (∃ v, e = .returned v) ∧
      ((∃ ys, valsF ys = List.range N ∧ J ys W') ∨ (∃ pre, (∃ j, j ≤ N ∧ valsF pre = List.range j) ∧ Jx pre W')) := by
  obtain ⟨hk1, hk2⟩ := full_lt hk8
  have hcN : c = (N : Int) - 1 := by rw [hc, ← hN]; omega
  have HNX : Hid (∀ t : Nat, t < N - 1 → bits .and .i64 ((t : Int) - c) c = (t : Int) + 1) := Lib.hid (fun t ht => by
    have h := nextF_fin ⟨k, by omega⟩ ⟨t, by omega⟩ (by rw [← hN]; exact ht)
    have e : (2 : Int) ^ k - 1 = c := by rw [hc, cast_full]
    simp only [e] at h
    exact h)
  have hcA : c ≤ (N : Int) - 1 := by omega
  have hcB : (N : Int) - 1 ≤ c := by omega
  have HNK := Lib.hid hN
  rw [← hN] at hk1 hk2
  clear hN hc hcN
  refine callsIn_of_wp Tryd.func140 rfl trivial ?_ rfl
  simp only [Tryd.ntmps140, List.size_toArray, List.length_cons, List.length_nil, Nat.reduceAdd, Nat.reduceSub, Array.replicate_succ, Array.replicate_zero, List.push_toArray, List.append_toArray, List.nil_append, List.cons_append]
  gi_wp2
  gi_loopw [3] (fun r wr => ∃ (t : Nat) (pre : List (PrtF N)), t < N ∧ valsF pre = List.range t ∧ r = .int .i64 (t : Int) ∧ J pre wr ∧ wr.cell? ⟨Bs, 0, none⟩ = some (.int .i64 c))
    (fun r _ => N - (intOf r).toNat)
  case atStart => exact ⟨0, [], by omega, rfl, rfl, h0, hBs⟩
  case round =>
    obtain ⟨t, pre, ht, hpre, rfl, hJs, hcl⟩ := hrel
    have hlen : pre.length < N := by
      have := congrArg List.length hpre
      simp [valsF] at this
      omega
    obtain ⟨x, hx⟩ : ∃ x : PrtF N, x.1 = t := ⟨⟨t, ht⟩, rfl⟩
    have HPX : Hid (valsF (pre ++ [x]) = List.range (t + 1)) := Lib.hid (by rw [valsF_snoc, hx, hpre, List.range_succ])
    obtain ⟨fn, tmps, assign, body, hy, hR⟩ := hY _ x wr hJs hlen (by rw [hx]; exact hpre)
    rw [hx] at hy
    have HX := Lib.hid hx
    have HC := Lib.hid hcl
    clear hx hpre
    have ht0 : (0 : Int) ≤ (t : Int) := by omega
    have ht1 : (t : Int) < 256 := by omega
    have hc0 : (0 : Int) ≤ c := by omega
    have hc1 : c < 256 := by omega
    gi_wp2
    refine hR.mono ?_
    rintro e W3 (⟨rfl, hJ3, hk3⟩ | ⟨rfl, hJx3⟩)
    · have hc3 := hk3 HC.out
      clear hk3
      by_cases e : t + 1 = N
      · have heI : ((t : Int) == c) = true := by rw [beq_iff_eq]; omega
        have HE := Lib.hid e
        clear e
        gi_wp2
        go_end0
        exact ⟨⟨_, rfl⟩, .inl ⟨_, by rw [HPX.out, HE.out], hJ3⟩⟩
      · have heI : ((t : Int) == c) = false := by rw [beq_eq_false_iff_ne]; omega
        have HN1 := Lib.hid (HNX.out t (by omega))
        have HT1 : Hid (t + 1 < N) := Lib.hid (by omega)
        clear e
        gi_wp2
        go_roundw
        case rel => exact ⟨t + 1, _, HT1.out, HPX.out, by rw [HN1.out]; rfl, hJ3, hc3⟩
        case measure => rw [HN1.out]; have := HT1.out; simp only [intOf]; omega
    · gi_wp2
      go_end0
      exact ⟨⟨_, rfl⟩, .inr ⟨_, ⟨t + 1, by omega, HPX.out⟩, hJx3⟩⟩

theorem partsF_stops (n : Nat) (hn : 1 ≤ n) (Bs k : Nat) (hk8 : k ≤ 8) (c : Int) (hc : c = ((2 ^ k - 1 : Nat) : Int)) (w : World) (hBs : Bs < w.heap.size) (hcl : w.cell? ⟨Bs, 0, none⟩ = some (.int .i64 c)) :
    SeqStopsK Fence.wide n Tryd.prog 140 #[.pointer (some ⟨Bs, 0, none⟩)] (fun x : PrtF (2 ^ k) => #[Value.int .i64 (x.1 : Int)]) (CellK Bs (.int .i64 c)) (fun ys => valsF ys = List.range (2 ^ k))
      (fun pre => ∃ j, j ≤ 2 ^ k ∧ valsF pre = List.range j) (2 ^ k) w := fun l J Jx W hW _ _ hY h0 =>
  partsF1_in n hn l Bs k (2 ^ k) rfl hk8 c hc J Jx (fun pre x W h1 h2 _ => hY pre x W h1 h2) W ((hW.cell (p := ⟨Bs, 0, none⟩) hBs).trans hcl) h0

theorem partsW_any (c : Int) (w : World) : Calls Tryd.prog 120 #[.int .i64 c] w fun e w' => e = .returned (.func (.func 140) #[] #[.pointer (some ⟨w.heap.size, 0, none⟩)]) ∧ w' = w.alloc (.cells #[.int .i64 c] 50) := by
  go_enter Tryd.func120, Tryd.ntmps120
  go_wp2
  go_ret
  exact ⟨rfl, rfl⟩

set_option maxRecDepth 100000 in
theorem sizeW_any (z : Nat) (w : World) (h : z < 256) : Calls Tryd.prog 53 #[.int .i64 (z : Int)] w fun e w' => e = .returned (.int .i64 ((memK 8 z).length : Int)) ∧ w = w' := by
  go_enter Tryd.func53, Tryd.ntmps53
  go_wp2
  go_ret
  refine ⟨ret_int ?_, rfl⟩
  obtain ⟨i, rfl⟩ : ∃ i : Fin 256, z = i.val := ⟨⟨z, h⟩, rfl⟩
  clear h
  revert i
  decide +kernel

end Go.Proofs.YtacglafoahmcnaaDoor

/- It is proved what CoverIn of the program and of the reference model returns; conditions: those of each statement. -/
namespace Go.Proofs.YtacglafoahmcnaaDoor
open Go.RowKit

/-- A set is a cover, or something is not as told. -/
def inCov (m : Int) (zs : List Int) (x : Int) : Bool := famIn m zs && (inB x 0 (fullI m) && covB zs x.toNat)

theorem set_nat {k : Nat} {x : Int} (h : inB x 0 (fullI (k : Int)) = true) : ∃ s : Nat, x = (s : Int) ∧ s < 2 ^ k := by
  obtain ⟨h1, h2⟩ := inB_out h
  unfold fullI at h2
  rw [Int.toNat_natCast] at h2
  have e : (2 : Int) ^ k = ((2 ^ k : Nat) : Int) := by norm_cast
  exact ⟨x.toNat, by omega, by omega⟩

theorem fam_nat2 {m : Int} {zs : List Int} (h : famIn m zs = true) : ∃ k : Nat, m = (k : Int) ∧ 1 ≤ k ∧ k ≤ 6 ∧ Sets k zs ∧ zs.length ≤ 8 := by
  obtain ⟨h1, h2, h3, -⟩ := famIn_out h
  obtain ⟨k, rfl⟩ : ∃ k : Nat, m = (k : Int) := ⟨m.toNat, by omega⟩
  exact ⟨k, rfl, by omega, by omega, sets_of_fam h, h3⟩

end Go.Proofs.YtacglafoahmcnaaDoor

/- It is proved what FamilyAll of the program and of the model return; conditions: those of each statement. -/
namespace Go.Proofs.YtacglafoahmcnaaDoor
open Go.RowKit Go.Shelf

attribute [local go_sem] Oper.semAt_some

/-- What a function of an int and a bool returns; nothing that lay has turned. -/
def RetIB (w : World) (r : Int) (ok : Bool) (e : Ending) (w' : World) : Prop := e = .returned (.tuple #[.int .i64 r, .bool ok]) ∧ Below w.heap.size w w'

end Go.Proofs.YtacglafoahmcnaaDoor
