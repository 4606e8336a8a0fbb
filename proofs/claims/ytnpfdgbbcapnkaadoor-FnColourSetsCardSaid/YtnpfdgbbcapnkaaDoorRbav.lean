/- It is proved that members and clubs, put together link by link, fall into as many parts as are counted; conditions: those of each statement. -/
import Derived.Test.YtnpfdgbbcapnkaaDoorRows
import Derived.WalkKit
import Derived.WalkSpells
import Derived.ProofKit
import Derived.OpenShut
import Derived.ShutString
import Derived.ChangeOld
import Derived.Below
import Derived.Deep.RegionHeld3
import Derived.Deep.QuietTactic
import Derived.BigQuiet
import Derived.Lib.Hide
import Derived.Lib.SmallJoins
import Derived.Outline
import Derived.Laws.MakeOwn
import Derived.Laws.OwnMore
import Derived.IntWalk
import Derived.RangeFuncNested
import Derived.RangeFuncBound
import Derived.RangeFuncCalls
import Derived.RangeFuncLeaves
import Derived.RangeFuncBox
import Derived.Shelf.Abstract
import Derived.Shelf.RegionOpen
import Derived.OwnWalkIn
import Derived.TacticsInMore
import Derived.LoopNIn
import Derived.LoopIn
import Derived.Maps.AppendAt
import Derived.Deep.AppendLies
import Derived.OwnWalk
import Derived.StillTail
import Derived.StillTactics
import Derived.OrdersIn
import Derived.TacticsIn
import Derived.Shelf.Spec.TrailingZeros
import Derived.StillTailTactics
import Derived.Test.YtnpfdgbbcapnkaaDoorRbar
import Derived.RowKit
import Derived.Laws.CopyRow
import Derived.Lib.SlBuf
import Derived.RangeFuncWrites
import Derived.Maps.OwnIn
import Derived.Maps.Ext
import Derived.DeepKeys4
import Derived.MapKept
import Derived.Lib.AppendZeros
import Derived.Lib.SlicesCompact
import Derived.Lib.OwnBridge
import Derived.Shelf.Sort.Plain
import Derived.Shelf.Slices.In.SortNone
import Derived.Shelf.Slices.CompactI
import Derived.Ground.Names2Prog
import Derived.Lib.SliceRun
import Derived.Deep.LoopGhost
import Derived.Test.YtnpfdgbbcapnkaaDoorRbaa
import Derived.Test.YtnpfdgbbcapnkaaDoorRbab
import Derived.Test.YtnpfdgbbcapnkaaDoorRbae
namespace Go.Proofs.YtnpfdgbbcapnkaaDoor

/-- No node ahead of x has its label. -/
def headL (L : Nat → Nat) (x : Nat) : Bool := (List.range x).all fun y => L y != L x

theorem headL_iff {L : Nat → Nat} {x : Nat} : headL L x = true ↔ ∀ y, y < x → L y ≠ L x := by
  simp [headL]

def cntL6 (L : Nat → Nat) (N : Nat) : Nat := (List.range N).countP (headL L)
def relab (a b : Nat) (L : Nat → Nat) : Nat → Nat := fun x => if L x = b then a else L x
theorem count_one {p q : Nat → Bool} {z : Nat} : ∀ {N : Nat}, z < N → p z = true → q z = false → (∀ x, x < N → x ≠ z → q x = p x) → (List.range N).countP q + 1 = (List.range N).countP p
  | 0, h, _, _, _ => by omega
  | N + 1, h, hp, hq, ha => by
    rw [List.range_succ, List.countP_append, List.countP_append, List.countP_singleton, List.countP_singleton]
    by_cases e : z = N
    · subst e
      have : (List.range z).countP q = (List.range z).countP p := List.countP_congr fun x hx => by rw [ha x (by have := List.mem_range.1 hx; omega) (by have := List.mem_range.1 hx; omega)]
      rw [this, hp, hq]; simp
    · have ih := count_one (N := N) (by omega) hp hq (fun x hx hne => ha x (by omega) hne)
      rw [ha N (by omega) (by omega)]
      omega

/-- The first node with a label. -/
theorem least_node {P : Nat → Prop} [DecidablePred P] {n : Nat} (h : P n) : ∃ k, k ≤ n ∧ P k ∧ ∀ y, y < k → ¬ P y := by
  induction n using Nat.strongRecOn with
  | ind n ih =>
    by_cases hx : ∃ y, y < n ∧ P y
    · obtain ⟨y, hy, hp⟩ := hx
      obtain ⟨k, h1, h2, h3⟩ := ih y hy hp
      exact ⟨k, by omega, h2, h3⟩
    · exact ⟨n, Nat.le_refl _, h, fun y hy hp => hx ⟨y, hy, hp⟩⟩

theorem relab_count {L : Nat → Nat} {N u w : Nat} (hu : u < N) (hw : w < N) (hne : L u ≠ L w) : cntL6 (relab (L u) (L w) L) N + 1 = cntL6 L N := by
  obtain ⟨xa, ha1, ha2, ha3⟩ := least_node (P := fun x => L x = L u) (n := u) rfl
  obtain ⟨xb, hb1, hb2, hb3⟩ := least_node (P := fun x => L x = L w) (n := w) rfl
  have hxy : xa ≠ xb := fun e => hne (by rw [← ha2, e, hb2])
  have key : ∀ x, headL L x = true → (L x = L u → x = xa) ∧ (L x = L w → x = xb) := fun x hx => by
    rw [headL_iff] at hx
    refine ⟨fun e => ?_, fun e => ?_⟩
    · rcases Nat.lt_trichotomy x xa with h | h | h
      · exact (ha3 x h e).elim
      · exact h
      · exact (hx xa h (by rw [ha2, e])).elim
    · rcases Nat.lt_trichotomy x xb with h | h | h
      · exact (hb3 x h e).elim
      · exact h
      · exact (hx xb h (by rw [hb2, e])).elim
  have fa : headL L xa = true := headL_iff.2 fun y hy e => ha3 y hy (by rw [e, ha2])
  have fb : headL L xb = true := headL_iff.2 fun y hy e => hb3 y hy (by rw [e, hb2])
  have ra : ∀ x, relab (L u) (L w) L x = L u ↔ L x = L u ∨ L x = L w := fun x => by
    unfold relab
    split
    · rename_i h; exact ⟨fun _ => .inr h, fun _ => rfl⟩
    · rename_i h; exact ⟨fun e => .inl e, fun e => e.elim id (fun e' => (h e').elim)⟩
  have ro : ∀ x, L x ≠ L u → L x ≠ L w → ∀ y, (relab (L u) (L w) L y = relab (L u) (L w) L x ↔ L y = L x) := fun x h1 h2 y => by
    have e : relab (L u) (L w) L x = L x := by unfold relab; rw [if_neg h2]
    rw [e]
    unfold relab
    split
    · rename_i h
      constructor
      · intro e'; exact (h1 e'.symm).elim
      · intro e'; rw [h] at e'; exact (h2 e'.symm).elim
    · exact Iff.rfl
  unfold cntL6
  -- the greater one of both first nodes falls away
  obtain ⟨z, lo, hz, hlo, hfz, hlz⟩ : ∃ z lo, (z = xa ∧ lo = xb ∨ z = xb ∧ lo = xa) ∧ lo < z ∧ headL L z = true ∧ (L lo = L u ∨ L lo = L w) := by
    rcases Nat.lt_or_gt_of_ne hxy with h | h
    · exact ⟨xb, xa, .inr ⟨rfl, rfl⟩, h, fb, .inl ha2⟩
    · exact ⟨xa, xb, .inl ⟨rfl, rfl⟩, h, fa, .inr hb2⟩
  have hzl : L z = L u ∨ L z = L w := by
    rcases hz with ⟨rfl, _⟩ | ⟨rfl, _⟩
    · exact .inl ha2
    · exact .inr hb2
  refine count_one (z := z) (by rcases hz with ⟨rfl, _⟩ | ⟨rfl, _⟩ <;> omega) hfz ?_ fun x hx hxz => ?_
  · cases hq : headL (relab (L u) (L w) L) z
    · rfl
    · exact (headL_iff.1 hq lo hlo (by rw [(ra lo).2 hlz, (ra z).2 hzl])).elim
  · rw [Bool.eq_iff_iff]
    by_cases hl : L x = L u ∨ L x = L w
    · constructor
      · intro hq
        rw [headL_iff] at hq ⊢
        intro y hy e
        refine hq y hy ?_
        rw [(ra y).2 (by rw [e]; exact hl), (ra x).2 hl]
      · intro hp
        have hk := key x hp
        have hxlo : x = lo := by
          rcases hl with h | h
          · have := hk.1 h
            rcases hz with ⟨h1, h2⟩ | ⟨h1, h2⟩ <;> omega
          · have := hk.2 h
            rcases hz with ⟨h1, h2⟩ | ⟨h1, h2⟩ <;> omega
        rw [headL_iff]
        intro y hy e
        rw [(ra x).2 hl] at e
        rcases (ra y).1 e with h | h
        · exact ha3 y (by rcases hz with ⟨h1, h2⟩ | ⟨h1, h2⟩ <;> omega) h
        · exact hb3 y (by rcases hz with ⟨h1, h2⟩ | ⟨h1, h2⟩ <;> omega) h
    · have h1 : L x ≠ L u := fun e => hl (.inl e)
      have h2 : L x ≠ L w := fun e => hl (.inr e)
      rw [headL_iff, headL_iff]
      exact ⟨fun hq y hy e => hq y hy ((ro x h1 h2 y).2 e), fun hp y hy e => hp y hy ((ro x h1 h2 y).1 e)⟩

/-- Two nodes are put together, if they are apart. -/
def joinL (L : Nat → Nat) (e : Nat × Nat) : Nat → Nat := if L e.1 = L e.2 then L else relab (L e.1) (L e.2) L

def runL (E : List (Nat × Nat)) : Nat → Nat := E.foldl joinL id
def okL : (Nat → Nat) → List (Nat × Nat) → Bool
  | _, [] => true
  | L, e :: E => decide (L e.1 ≠ L e.2) && okL (joinL L e) E

theorem run_snoc (E : List (Nat × Nat)) (e : Nat × Nat) : runL (E ++ [e]) = joinL (runL E) e := by simp [runL]
theorem okL_snoc : ∀ (E : List (Nat × Nat)) (L : Nat → Nat) (e : Nat × Nat), okL L (E ++ [e]) = (okL L E && decide ((E.foldl joinL L) e.1 ≠ (E.foldl joinL L) e.2))
  | [], L, e => by by_cases h : L e.1 = L e.2 <;> simp [okL, h]
  | x :: E, L, e => by rw [List.cons_append, okL, okL_snoc E, okL, Bool.and_assoc]; rfl

theorem okL_prefix : ∀ (E F : List (Nat × Nat)) (L : Nat → Nat), okL L E = false → okL L (E ++ F) = false
  | [], _, _, h => by cases h
  | x :: E, F, L, h => by
    rw [okL] at h
    rw [List.cons_append, okL]
    cases hd : decide (L x.1 ≠ L x.2)
    · rfl
    · rw [hd, Bool.true_and] at h
      rw [Bool.true_and]
      exact okL_prefix E F _ h

theorem ok_count {N : Nat} : ∀ (E : List (Nat × Nat)) (L : Nat → Nat), (∀ e ∈ E, e.1 < N ∧ e.2 < N) → cntL6 L N ≤ cntL6 (E.foldl joinL L) N + E.length ∧ (okL L E = true ↔ cntL6 (E.foldl joinL L) N + E.length = cntL6 L N)
  | [], L, _ => by simp [okL]
  | e :: E, L, h => by
    obtain ⟨h1, h2⟩ := ok_count E (joinL L e) (fun x hx => h x (by simp [hx]))
    obtain ⟨he1, he2⟩ := h e (by simp)
    rw [List.foldl_cons, List.length_cons, okL]
    by_cases hd : L e.1 = L e.2
    · have hj : joinL L e = L := by unfold joinL; rw [if_pos hd]
      rw [hj] at h1 h2 ⊢
      refine ⟨by omega, ?_⟩
      rw [decide_eq_false (fun h => h hd), Bool.false_and]
      constructor
      · intro h; cases h
      · intro h; omega
    · have hj : joinL L e = relab (L e.1) (L e.2) L := by unfold joinL; rw [if_neg hd]
      have hr := relab_count he1 he2 hd
      rw [← hj] at hr
      refine ⟨by omega, ?_⟩
      rw [decide_eq_true hd, Bool.true_and, h2]
      omega

theorem cnt_id (N : Nat) : cntL6 id N = N := by
  unfold cntL6
  rw [List.countP_eq_length.2 (fun x _ => headL_iff.2 fun y hy => by simp; omega), List.length_range]

/-- Labels are equal only where links lead. -/
theorem run_keeps {C : Nat → Prop} : ∀ (E : List (Nat × Nat)) (L : Nat → Nat), (∀ e ∈ E, (C e.1 ↔ C e.2)) → (∀ x y, L x = L y → (C x ↔ C y)) → ∀ x y, (E.foldl joinL L) x = (E.foldl joinL L) y → (C x ↔ C y)
  | [], _, _, h => h
  | e :: E, L, hE, h => by
    rw [List.foldl_cons]
    refine run_keeps E _ (fun x hx => hE x (by simp [hx])) fun x y hxy => ?_
    unfold joinL at hxy
    split at hxy
    · exact h x y hxy
    · have he := hE e (by simp)
      unfold relab at hxy
      split at hxy <;> split at hxy
      · rename_i h1 h2; exact h x y (by rw [h1, h2])
      · rename_i h1 h2; exact (h x e.2 h1).trans (he.symm.trans (h e.1 y hxy))
      · rename_i h1 h2; exact (h x e.1 hxy).trans (he.trans (h e.2 y h2.symm))
      · exact h x y hxy

theorem join_mono (L : Nat → Nat) (e : Nat × Nat) {x y : Nat} (h : L x = L y) : joinL L e x = joinL L e y := by
  unfold joinL
  split
  · exact h
  · unfold relab; rw [h]

theorem fold_mono : ∀ (E : List (Nat × Nat)) (L : Nat → Nat) {x y : Nat}, L x = L y → (E.foldl joinL L) x = (E.foldl joinL L) y
  | [], _, _, _, h => h
  | e :: E, L, _, _, h => fold_mono E _ (join_mono L e h)

theorem run_links : ∀ (E : List (Nat × Nat)) (L : Nat → Nat), ∀ e ∈ E, (E.foldl joinL L) e.1 = (E.foldl joinL L) e.2
  | [], _, e, h => by simp at h
  | x :: E, L, e, h => by
    rcases List.mem_cons.1 h with rfl | h
    · refine fold_mono E _ ?_
      unfold joinL
      split
      · assumption
      · rename_i hne
        unfold relab
        rw [if_pos rfl, if_neg hne]
    · exact run_links E _ e h

/-- The links of the clubs ahead of i, and of the members ahead of v in i. -/
def bitsL (k v : Nat) : List Nat := (List.range v).filter fun u => k.testBit u

def linksL (m : Nat) (ks : List Nat) (i : Nat) : List (Nat × Nat) := (List.range i).flatMap fun j => (bitsL (ks[j]?.getD 0) m).map fun v => (v, m + j)
theorem bitsL_succ (k v : Nat) : bitsL k (v + 1) = bitsL k v ++ if k.testBit v then [v] else [] := by
  unfold bitsL
  rw [List.range_succ, List.filter_append]
  by_cases h : k.testBit v = true
  · simp [h]
  · simp [h]

theorem linksL_succ (m : Nat) (ks : List Nat) (i : Nat) : linksL m ks (i + 1) = linksL m ks i ++ (bitsL (ks[i]?.getD 0) m).map fun v => (v, m + i) := by
  unfold linksL
  rw [List.range_succ, List.flatMap_append]
  simp

theorem links_mem {m : Nat} {ks : List Nat} {n : Nat} {e : Nat × Nat} : e ∈ linksL m ks n ↔ ∃ j v, j < n ∧ v < m ∧ (ks[j]?.getD 0).testBit v = true ∧ e = (v, m + j) := by
  unfold linksL bitsL
  simp only [List.mem_flatMap, List.mem_range, List.mem_map, List.mem_filter]
  constructor
  · rintro ⟨j, hj, v, ⟨hv, hb⟩, rfl⟩; exact ⟨j, v, hj, hv, hb, rfl⟩
  · rintro ⟨j, v, hj, hv, hb, rfl⟩; exact ⟨j, hj, v, ⟨hv, hb⟩, rfl⟩

def empL (ks : List Nat) : Nat := ks.countP fun k => decide (k = 0)
theorem range_ks (ks : List Nat) (p : Nat → Bool) : ((List.range ks.length).countP fun i => p (ks[i]?.getD 0)) = ks.countP p := by
  induction ks with
  | nil => rfl
  | cons k ks ih =>
    rw [List.length_cons, List.range_succ_eq_map, List.countP_cons, List.countP_map, List.countP_cons, ← ih]
    rfl

theorem links_parts {m : Nat} {ks : List Nat} (h : Ksm m ks) : cntL6 (runL (linksL m ks ks.length)) (m + ks.length) = cntP m ks m + empL ks := by
  obtain ⟨L, hL⟩ : ∃ L, L = runL (linksL m ks ks.length) := ⟨_, rfl⟩
  have h1 : ∀ j v, j < ks.length → v < m → (ks[j]?.getD 0).testBit v = true → L v = L (m + j) := fun j v hj hv hb => by
    rw [hL]
    exact run_links _ id (v, m + j) (links_mem.2 ⟨j, v, hj, hv, hb, rfl⟩)
  have h2 : ∀ C : Nat → Prop, (∀ j v, j < ks.length → v < m → (ks[j]?.getD 0).testBit v = true → (C v ↔ C (m + j))) → ∀ x y, L x = L y → (C x ↔ C y) := fun C hC x y hxy => by
    rw [hL] at hxy
    refine run_keeps _ id (fun e he => ?_) (fun x y e => by rw [show x = y from e]) x y hxy
    obtain ⟨j, v, hj, hv, hb, rfl⟩ := links_mem.1 he
    exact hC j v hj hv hb
  have hbit : ∀ j v, (ks[j]?.getD 0).testBit v = true → j < ks.length ∧ v < m := fun j v hb => by
    have hj : j < ks.length := by
      by_cases e : j < ks.length
      · exact e
      · rw [List.getElem?_eq_none (by omega), Option.getD_none, Nat.zero_testBit] at hb; cases hb
    refine ⟨hj, ?_⟩
    by_cases e : v < m
    · exact e
    · rw [List.getElem?_eq_getElem hj, Option.getD_some, Nat.testBit_lt_two_pow (Nat.lt_of_lt_of_le (h.lt _ (List.getElem_mem hj)) (Nat.pow_le_pow_right (by decide) (by omega)))] at hb
      cases hb
  have hpart : ∀ u v, u < m → v < m → (L u = L v ↔ (partP m ks u).testBit v = true) := fun u v hu hv => by
    constructor
    · intro e
      refine (h2 (fun x => (x < m ∧ (partP m ks u).testBit x = true) ∨ ∃ j, x = m + j ∧ ∃ w, (ks[j]?.getD 0).testBit w = true ∧ (partP m ks u).testBit w = true) (fun j w hj hw hb => ?_) u v e).1 (.inl ⟨hu, partP_self u⟩) |>.elim (fun h => h.2) (fun ⟨j, hj, _⟩ => by omega)
      constructor
      · rintro (⟨_, hp⟩ | ⟨j', e', _⟩)
        · exact .inr ⟨j, rfl, w, hb, hp⟩
        · omega
      · rintro (⟨hlt, _⟩ | ⟨j', e', w', hb', hp'⟩)
        · omega
        · obtain rfl : j = j' := by omega
          refine .inl ⟨hw, partP_closed h hu _ ?_ ⟨w', hb', hp'⟩ w hb⟩
          rw [List.getElem?_eq_getElem hj, Option.getD_some]
          exact List.getElem_mem hj
    · intro hp
      refine (partP_min (m := m) (ks := ks) (v := u) (C := fun w => L w = L u) ?_ rfl v hp).symm
      rintro k hk ⟨w, hw1, hw2⟩ i hi
      obtain ⟨j, hj, rfl⟩ := List.getElem_of_mem hk
      have e : ks[j] = ks[j]?.getD 0 := by rw [List.getElem?_eq_getElem hj, Option.getD_some]
      rw [e] at hw1 hi
      rw [h1 j i hj (hbit j i hi).2 hi, ← h1 j w hj (hbit j w hw1).2 hw1]
      exact hw2
  rw [← hL]
  unfold cntL6
  rw [List.range_add, List.countP_append, List.countP_map]
  congr 1
  · unfold cntP
    rw [← List.countP_eq_length_filter]
    refine List.countP_congr fun v hv => ?_
    have hv' := List.mem_range.1 hv
    rw [headL_iff, firstP_iff h hv']
    refine ⟨fun hq u hu => ?_, fun hq u hu e => ?_⟩
    · cases hb : (partP m ks u).testBit v
      · rfl
      · exact (hq u hu ((hpart u v (by omega) hv').2 hb)).elim
    · have := (hpart u v (by omega) hv').1 e
      rw [hq u hu] at this; cases this
  · unfold empL
    rw [← range_ks ks fun k => decide (k = 0)]
    refine List.countP_congr fun j hj => ?_
    have hj' := List.mem_range.1 hj
    rw [Function.comp_apply, headL_iff, decide_eq_true_eq]
    constructor
    · intro hq
      by_cases e : ks[j]?.getD 0 = 0
      · exact e
      · obtain ⟨v, hv⟩ := Nat.exists_testBit_of_ne_zero e
        have := (hbit j v hv).2
        exact (hq v (by omega) (h1 j v hj' this hv)).elim
    · intro e y hy hyl
      have := (h2 (fun x => x = m + j) (fun j' v hj1 hv hb => ⟨fun e' => by omega, fun e' => by
        obtain rfl : j' = j := by omega
        rw [e, Nat.zero_testBit] at hb; cases hb⟩) y (m + j) hyl).2 rfl
      omega

/-- A forest is told by counting. -/
theorem forest_count {m : Nat} {ks : List Nat} (h : Ksm m ks) : okL id (linksL m ks ks.length) = decide (cntP m ks m + empL ks + (linksL m ks ks.length).length = m + ks.length) := by
  have hN : ∀ e ∈ linksL m ks ks.length, e.1 < m + ks.length ∧ e.2 < m + ks.length := fun e he => by
    obtain ⟨j, v, hj, hv, _, rfl⟩ := links_mem.1 he
    exact ⟨by show v < _; omega, by show m + j < _; omega⟩
  have := (ok_count (linksL m ks ks.length) id hN).2
  rw [cnt_id] at this
  rw [Bool.eq_iff_iff, this, decide_eq_true_eq]
  have hp := links_parts h
  unfold runL at hp
  rw [hp]

end Go.Proofs.YtnpfdgbbcapnkaaDoor

/- It is proved what EarForest of the model returns; conditions: those of each statement. -/
namespace Go.Proofs.YtnpfdgbbcapnkaaDoor
open Go.RowKit

/-- A row of labels. -/
def rowL (L : Nat → Nat) (N : Nat) : List Int := (List.range N).map fun x => ((L x : Nat) : Int)

def halfL (L L' : Nat → Nat) (N x : Nat) : List Int := rowL (fun y => if y < x then L' y else L y) N
theorem rowL_len (L : Nat → Nat) (N : Nat) : (rowL L N).length = N := by simp [rowL]
theorem rowL_at {L : Nat → Nat} {N x : Nat} (h : x < N) : (rowL L N)[x]?.getD 0 = ((L x : Nat) : Int) := by simp [rowL, h]
theorem rowL_succ (L : Nat → Nat) (N : Nat) : rowL L (N + 1) = rowL L N ++ [((L N : Nat) : Int)] := by simp [rowL, List.range_succ]
theorem half_zero (L L' : Nat → Nat) (N : Nat) : halfL L L' N 0 = rowL L N := by simp [halfL]
theorem half_all (L L' : Nat → Nat) (N : Nat) : halfL L L' N N = rowL L' N := by
  unfold halfL rowL
  refine List.map_congr_left fun x hx => ?_
  dsimp only
  rw [if_pos (List.mem_range.1 hx)]

theorem half_at {L L' : Nat → Nat} {N x : Nat} (h : x < N) : (halfL L L' N x)[x]?.getD 0 = ((L x : Nat) : Int) := by
  unfold halfL
  rw [rowL_at h, if_neg (by omega)]

theorem half_keep {L L' : Nat → Nat} {N x : Nat} (h : L' x = L x) : halfL L L' N (x + 1) = halfL L L' N x := by
  unfold halfL rowL
  refine List.map_congr_left fun y _ => ?_
  dsimp only
  by_cases e : y = x
  · subst e; rw [if_pos (by omega), if_neg (by omega), h]
  · by_cases h1 : y < x
    · rw [if_pos (by omega), if_pos h1]
    · rw [if_neg (by omega), if_neg h1]

theorem half_set (L L' : Nat → Nat) (N x : Nat) : halfL L L' N (x + 1) = (halfL L L' N x).set x ((L' x : Nat) : Int) := by
  apply List.ext_getElem
  · simp [halfL, rowL]
  · intro y h1 h2
    simp only [halfL, rowL, List.getElem_map, List.getElem_range, List.getElem_set]
    by_cases e : x = y
    · subst e; rw [if_pos (by omega), if_pos rfl]
    · rw [if_neg e]
      by_cases h3 : y < x
      · rw [if_pos (by omega), if_pos h3]
      · rw [if_neg (by omega), if_neg h3]

def linksV (m : Nat) (ks : List Nat) (i v : Nat) : List (Nat × Nat) := linksL m ks i ++ (bitsL (ks[i]?.getD 0) v).map fun u => (u, m + i)
theorem linksV_zero (m : Nat) (ks : List Nat) (i : Nat) : linksV m ks i 0 = linksL m ks i := by simp [linksV, bitsL]
theorem linksV_all (m : Nat) (ks : List Nat) (i : Nat) : linksV m ks i m = linksL m ks (i + 1) := (linksL_succ m ks i).symm
theorem linksV_no {m : Nat} {ks : List Nat} {i v : Nat} (h : (ks[i]?.getD 0).testBit v = false) : linksV m ks i (v + 1) = linksV m ks i v := by
  unfold linksV
  rw [bitsL_succ, h]; simp

theorem linksV_yes {m : Nat} {ks : List Nat} {i v : Nat} (h : (ks[i]?.getD 0).testBit v = true) : linksV m ks i (v + 1) = linksV m ks i v ++ [(v, m + i)] := by
  unfold linksV
  rw [bitsL_succ, h]; simp

theorem bitsL_pre (k : Nat) {v m : Nat} (h : v ≤ m) : bitsL k v <+: bitsL k m := by
  induction m with
  | zero => obtain rfl : v = 0 := by omega
            exact List.prefix_rfl
  | succ m ih =>
    by_cases e : v = m + 1
    · subst e; exact List.prefix_rfl
    · rw [bitsL_succ]
      exact (ih (by omega)).trans (List.prefix_append _ _)

theorem linksL_pre (m : Nat) (ks : List Nat) {i n : Nat} (h : i ≤ n) : linksL m ks i <+: linksL m ks n := by
  induction n with
  | zero => obtain rfl : i = 0 := by omega
            exact List.prefix_rfl
  | succ n ih =>
    by_cases e : i = n + 1
    · subst e; exact List.prefix_rfl
    · rw [linksL_succ]
      exact (ih (by omega)).trans (List.prefix_append _ _)

theorem linksV_pre (m : Nat) (ks : List Nat) {i n v : Nat} (hi : i < n) (hv : v ≤ m) : linksV m ks i v <+: linksL m ks n := by
  refine List.IsPrefix.trans ?_ (linksL_pre m ks (show i + 1 ≤ n by omega))
  rw [← linksV_all]
  unfold linksV
  exact (List.prefix_append_right_inj _).2 ((bitsL_pre _ hv).map _)

theorem okL_pre {E F : List (Nat × Nat)} (h : E <+: F) (ho : okL id E = false) : okL id F = false := by
  obtain ⟨t, rfl⟩ := h
  exact okL_prefix E t id ho

theorem ksOf_at (zs : List Int) (i : Nat) : (ksOf zs)[i]?.getD 0 = (zs[i]?.getD 0 : Int).toNat := by
  unfold ksOf
  rw [List.getElem?_map]
  cases zs[i]? <;> rfl

def forestB (m : Int) (zs : List Int) : Bool := famIn m zs && okL id (linksL m.toNat (ksOf zs) zs.length)
end Go.Proofs.YtnpfdgbbcapnkaaDoor

/- It is proved what FamilyAll of the program and of the model return; conditions: those of each statement. -/
namespace Go.Proofs.YtnpfdgbbcapnkaaDoor
open Go.RowKit Go.Shelf

attribute [local go_sem] Oper.semAt_some

/-- What a function of an int and a bool returns; nothing that lay has turned. -/
def RetIB (w : World) (r : Int) (ok : Bool) (e : Ending) (w' : World) : Prop := e = .returned (.tuple #[.int .i64 r, .bool ok]) ∧ Below w.heap.size w w'

end Go.Proofs.YtnpfdgbbcapnkaaDoor

/- It is proved what full returns, and how parts are counted; conditions: those of each statement. -/
namespace Go.Proofs.YtnpfdgbbcapnkaaDoor
open Go.RowKit

theorem fullB_any (m : Int) (a : Option Addr) (n cap : Nat) (w : World) (h1 : 1 ≤ m) (h2 : m ≤ 6) :
    Calls Tryd.prog 47 #[.agg #[.int .i64 m, .slice a n cap]] w fun e w' => e = .returned (.int .i64 (fullI m)) ∧ Below w.heap.size w w' := by
  rcases m16 h1 h2 with rfl | rfl | rfl | rfl | rfl | rfl
  all_goals
    go_enter Tryd.func47, Tryd.ntmps47
    go_wp2
    go_ret
    exact ⟨rfl, below1 _ _⟩

theorem with0_any (p : Nat) (hp : p < 8) (w : World) :
    Calls Tryd.prog 111 #[.int .i64 0, .int .i64 (p : Int)] w fun e w' => e = .returned (.int .i64 ((2 ^ p : Nat) : Int)) ∧ w = w' := by
  have h := with_any 0 p (by decide) hp w
  rw [Nat.zero_or] at h
  exact h

/-- Members one after the other: what is met, and how many parts. -/
def stP (m : Nat) (ks us : List Nat) : Nat × Nat := us.foldl (fun p v => if p.1.testBit v = true then p else (p.1 ||| partP m ks v, p.2 + 1)) (0, 0)

theorem stP_snoc (m : Nat) (ks us : List Nat) (u : Nat) : stP m ks (us ++ [u]) = if (stP m ks us).1.testBit u = true then stP m ks us else ((stP m ks us).1 ||| partP m ks u, (stP m ks us).2 + 1) := by
  unfold stP; rw [List.foldl_append]; rfl

theorem stP_small (m : Nat) (ks : List Nat) (h : Ksm m ks) (us : List Nat) (hu : ∀ u ∈ us, u < m) : (stP m ks us).1 < 2 ^ m ∧ (stP m ks us).2 ≤ us.length := by
  have key : ∀ (l : List Nat) (p : Nat × Nat), (∀ u ∈ l, u < m) → p.1 < 2 ^ m → (l.foldl (fun p v => if p.1.testBit v = true then p else (p.1 ||| partP m ks v, p.2 + 1)) p).1 < 2 ^ m ∧ (l.foldl (fun p v => if p.1.testBit v = true then p else (p.1 ||| partP m ks v, p.2 + 1)) p).2 ≤ p.2 + l.length := by
    intro l
    induction l with
    | nil => intro p _ hp; exact ⟨hp, by simp⟩
    | cons x l ih =>
      intro p hl hp
      rw [List.foldl_cons]
      split
      · have := ih p (fun u h => hl u (by simp [h])) hp
        exact ⟨this.1, by simp only [List.length_cons]; omega⟩
      · have := ih (p.1 ||| partP m ks x, p.2 + 1) (fun u h => hl u (by simp [h])) (Nat.or_lt_two_pow hp (partP_lt h (hl x (by simp))))
        exact ⟨this.1, by simp only [List.length_cons]; have := this.2; omega⟩
  have := key us (0, 0) hu (Nat.two_pow_pos m)
  exact ⟨this.1, by have h2 := this.2; simp only [Nat.zero_add] at h2; exact h2⟩

theorem stP_range (m : Nat) (ks : List Nat) (h : Ksm m ks) : ∀ i, i ≤ m → (∀ x, x < m → ((stP m ks (List.range i)).1.testBit x = true ↔ ∃ u, u < i ∧ (partP m ks u).testBit x = true)) ∧ (stP m ks (List.range i)).2 = cntP m ks i := by
  intro i
  induction i with
  | zero => intro _; exact ⟨fun x _ => by simp [stP], rfl⟩
  | succ i ih =>
    intro hi
    obtain ⟨h1, h2⟩ := ih (by omega)
    rw [List.range_succ, stP_snoc, cntP_succ]
    have hfi := firstP_iff h (v := i) (by omega)
    by_cases hb : (stP m ks (List.range i)).1.testBit i = true
    · rw [if_pos hb]
      obtain ⟨u, hu, hub⟩ := (h1 i (by omega)).1 hb
      have hnf : ¬ firstP m ks i = true := fun hf => by
        have := hfi.1 hf u hu
        rw [hub] at this; cases this
      rw [if_neg hnf]
      refine ⟨fun x hx => ?_, by omega⟩
      rw [h1 x hx]
      constructor
      · rintro ⟨v, hv, hvb⟩; exact ⟨v, by omega, hvb⟩
      · rintro ⟨v, hv, hvb⟩
        rcases Nat.lt_succ_iff_lt_or_eq.1 hv with h3 | rfl
        · exact ⟨v, h3, hvb⟩
        · exact ⟨u, hu, partP_trans h (by omega) hub x hvb⟩
    · rw [if_neg hb]
      have hf : firstP m ks i = true := hfi.2 (fun u hu => by
        cases hc : (partP m ks u).testBit i
        · rfl
        · exact absurd ((h1 i (by omega)).2 ⟨u, hu, hc⟩) hb)
      rw [if_pos hf]
      refine ⟨fun x hx => ?_, by simp only; omega⟩
      simp only [Nat.testBit_or, Bool.or_eq_true]
      rw [h1 x hx]
      constructor
      · rintro (⟨v, hv, hvb⟩ | hvb)
        · exact ⟨v, by omega, hvb⟩
        · exact ⟨i, by omega, hvb⟩
      · rintro ⟨v, hv, hvb⟩
        rcases Nat.lt_succ_iff_lt_or_eq.1 hv with h3 | rfl
        · exact .inl ⟨v, h3, hvb⟩
        · exact .inr hvb

set_option maxRecDepth 100000 in
theorem mem_full : ∀ m, m ≤ 6 → mem (2 ^ m - 1) = List.range m := by decide +kernel

theorem ksm_of {m : Nat} {zs : List Int} (hf : famIn (m : Int) zs = true) : Ksm m (ksOf zs) := by
  have h := famIn_out hf
  refine ⟨by omega, ?_⟩
  intro k hk
  obtain ⟨z, hz, rfl⟩ := List.mem_map.1 hk
  obtain ⟨j, hj, rfl⟩ := List.getElem_of_mem hz
  have := (isClub_all hf j hj).2.2
  rwa [show ((j, zs[j]?.getD 0) : Nat × Int).2 = zs[j] from by simp [hj]] at this

/-- How many parts. -/
def partsZ (m : Int) (zs : List Int) : Int := if famIn m zs then ((cntP m.toNat (ksOf zs) m.toNat : Nat) : Int) else 0

end Go.Proofs.YtnpfdgbbcapnkaaDoor
