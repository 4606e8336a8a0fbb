/- It is proved that members and clubs, put together link by link, fall into as many parts as are counted; conditions: those of each statement. -/
import Derived.Test.YtphddemilibooaaDoorRows
import Derived.WalkKit
import Derived.WalkSpells
import Derived.ProofKit
import Derived.OpenShut
import Derived.ShutString
import Derived.ChangeOld
import Derived.Below
import Derived.Deep.RegionHeld3
import Derived.Deep.QuietTactic
import Derived.BigQuiet
import Derived.Lib.Hide
import Derived.Lib.SmallJoins
import Derived.Outline
import Derived.Laws.MakeOwn
import Derived.Laws.OwnMore
import Derived.IntWalk
import Derived.RangeFuncNested
import Derived.RangeFuncBound
import Derived.RangeFuncCalls
import Derived.RangeFuncLeaves
import Derived.RangeFuncBox
import Derived.Shelf.Abstract
import Derived.Shelf.RegionOpen
import Derived.OwnWalkIn
import Derived.TacticsInMore
import Derived.LoopNIn
import Derived.LoopIn
import Derived.Maps.AppendAt
import Derived.Deep.AppendLies
import Derived.OwnWalk
import Derived.StillTail
import Derived.StillTactics
import Derived.OrdersIn
import Derived.TacticsIn
import Derived.Shelf.Spec.TrailingZeros
import Derived.StillTailTactics
import Derived.Test.YtphddemilibooaaDoorRabd
import Derived.RowKit
import Derived.Laws.CopyRow
import Derived.Lib.SlBuf
import Derived.RangeFuncWrites
import Derived.Maps.OwnIn
import Derived.Maps.Ext
import Derived.DeepKeys4
import Derived.MapKept
import Derived.Lib.AppendZeros
import Derived.Lib.SlicesCompact
import Derived.Lib.OwnBridge
import Derived.Shelf.Sort.Plain
import Derived.Shelf.Slices.In.SortNone
import Derived.Shelf.Slices.CompactI
import Derived.Ground.Names2Prog
import Derived.Lib.SliceRun
import Derived.Deep.LoopGhost
import Derived.Test.YtphddemilibooaaDoorRaaa
import Derived.Test.YtphddemilibooaaDoorRaac
import Derived.Test.YtphddemilibooaaDoorDb
import Derived.Test.YtphddemilibooaaDoorRaab
import Derived.Test.YtphddemilibooaaDoorRaad
import Derived.Test.YtphddemilibooaaDoorRaaw
import Derived.Test.YtphddemilibooaaDoorRaal
import Derived.Test.YtphddemilibooaaDoorRaaz
import Derived.Test.YtphddemilibooaaDoorRabpxFnProp
import Derived.Test.YtphddemilibooaaDoorYa
import Derived.Test.YtphddemilibooaaDoorRaboxFnProp
namespace Go.Proofs.YtphddemilibooaaDoor

/-- No node ahead of x has its label. -/
def headL (L : Nat → Nat) (x : Nat) : Bool := (List.range x).all fun y => L y != L x

theorem headL_iff {L : Nat → Nat} {x : Nat} : headL L x = true ↔ ∀ y, y < x → L y ≠ L x := by
  simp [headL]

def cntL6 (L : Nat → Nat) (N : Nat) : Nat := (List.range N).countP (headL L)
def relab (a b : Nat) (L : Nat → Nat) : Nat → Nat := fun x => if L x = b then a else L x
theorem count_one {p q : Nat → Bool} {z : Nat} : ∀ {N : Nat}, z < N → p z = true → q z = false → (∀ x, x < N → x ≠ z → q x = p x) → (List.range N).countP q + 1 = (List.range N).countP p
  | 0, h, _, _, _ => by omega
  | N + 1, h, hp, hq, ha => by
    rw [List.range_succ, List.countP_append, List.countP_append, List.countP_singleton, List.countP_singleton]
    by_cases e : z = N
    · subst e
      have : (List.range z).countP q = (List.range z).countP p := List.countP_congr fun x hx => by rw [ha x (by have := List.mem_range.1 hx; omega) (by have := List.mem_range.1 hx; omega)]
      rw [this, hp, hq]; simp
    · have ih := count_one (N := N) (by omega) hp hq (fun x hx hne => ha x (by omega) hne)
      rw [ha N (by omega) (by omega)]
      omega

/-- The first node with a label. -/
theorem least_node {P : Nat → Prop} [DecidablePred P] {n : Nat} (h : P n) : ∃ k, k ≤ n ∧ P k ∧ ∀ y, y < k → ¬ P y := by
  induction n using Nat.strongRecOn with
  | ind n ih =>
    by_cases hx : ∃ y, y < n ∧ P y
    · obtain ⟨y, hy, hp⟩ := hx
      obtain ⟨k, h1, h2, h3⟩ := ih y hy hp
      exact ⟨k, by omega, h2, h3⟩
    · exact ⟨n, Nat.le_refl _, h, fun y hy hp => hx ⟨y, hy, hp⟩⟩

theorem relab_count {L : Nat → Nat} {N u w : Nat} (hu : u < N) (hw : w < N) (hne : L u ≠ L w) : cntL6 (relab (L u) (L w) L) N + 1 = cntL6 L N := by
  obtain ⟨xa, ha1, ha2, ha3⟩ := least_node (P := fun x => L x = L u) (n := u) rfl
  obtain ⟨xb, hb1, hb2, hb3⟩ := least_node (P := fun x => L x = L w) (n := w) rfl
  have hxy : xa ≠ xb := fun e => hne (by rw [← ha2, e, hb2])
  have key : ∀ x, headL L x = true → (L x = L u → x = xa) ∧ (L x = L w → x = xb) := fun x hx => by
    rw [headL_iff] at hx
    refine ⟨fun e => ?_, fun e => ?_⟩
    · rcases Nat.lt_trichotomy x xa with h | h | h
      · exact (ha3 x h e).elim
      · exact h
      · exact (hx xa h (by rw [ha2, e])).elim
    · rcases Nat.lt_trichotomy x xb with h | h | h
      · exact (hb3 x h e).elim
      · exact h
      · exact (hx xb h (by rw [hb2, e])).elim
  have fa : headL L xa = true := headL_iff.2 fun y hy e => ha3 y hy (by rw [e, ha2])
  have fb : headL L xb = true := headL_iff.2 fun y hy e => hb3 y hy (by rw [e, hb2])
  have ra : ∀ x, relab (L u) (L w) L x = L u ↔ L x = L u ∨ L x = L w := fun x => by
    unfold relab
    split
    · rename_i h; exact ⟨fun _ => .inr h, fun _ => rfl⟩
    · rename_i h; exact ⟨fun e => .inl e, fun e => e.elim id (fun e' => (h e').elim)⟩
  have ro : ∀ x, L x ≠ L u → L x ≠ L w → ∀ y, (relab (L u) (L w) L y = relab (L u) (L w) L x ↔ L y = L x) := fun x h1 h2 y => by
    have e : relab (L u) (L w) L x = L x := by unfold relab; rw [if_neg h2]
    rw [e]
    unfold relab
    split
    · rename_i h
      constructor
      · intro e'; exact (h1 e'.symm).elim
      · intro e'; rw [h] at e'; exact (h2 e'.symm).elim
    · exact Iff.rfl
  unfold cntL6
  -- the greater one of both first nodes falls away
  obtain ⟨z, lo, hz, hlo, hfz, hlz⟩ : ∃ z lo, (z = xa ∧ lo = xb ∨ z = xb ∧ lo = xa) ∧ lo < z ∧ headL L z = true ∧ (L lo = L u ∨ L lo = L w) := by
    rcases Nat.lt_or_gt_of_ne hxy with h | h
    · exact ⟨xb, xa, .inr ⟨rfl, rfl⟩, h, fb, .inl ha2⟩
    · exact ⟨xa, xb, .inl ⟨rfl, rfl⟩, h, fa, .inr hb2⟩
  have hzl : L z = L u ∨ L z = L w := by
    rcases hz with ⟨rfl, _⟩ | ⟨rfl, _⟩
    · exact .inl ha2
    · exact .inr hb2
  refine count_one (z := z) (by rcases hz with ⟨rfl, _⟩ | ⟨rfl, _⟩ <;> omega) hfz ?_ fun x hx hxz => ?_
  · cases hq : headL (relab (L u) (L w) L) z
    · rfl
    · exact (headL_iff.1 hq lo hlo (by rw [(ra lo).2 hlz, (ra z).2 hzl])).elim
  · rw [Bool.eq_iff_iff]
    by_cases hl : L x = L u ∨ L x = L w
    · constructor
      · intro hq
        rw [headL_iff] at hq ⊢
        intro y hy e
        refine hq y hy ?_
        rw [(ra y).2 (by rw [e]; exact hl), (ra x).2 hl]
      · intro hp
        have hk := key x hp
        have hxlo : x = lo := by
          rcases hl with h | h
          · have := hk.1 h
            rcases hz with ⟨h1, h2⟩ | ⟨h1, h2⟩ <;> omega
          · have := hk.2 h
            rcases hz with ⟨h1, h2⟩ | ⟨h1, h2⟩ <;> omega
        rw [headL_iff]
        intro y hy e
        rw [(ra x).2 hl] at e
        rcases (ra y).1 e with h | h
        · exact ha3 y (by rcases hz with ⟨h1, h2⟩ | ⟨h1, h2⟩ <;> omega) h
        · exact hb3 y (by rcases hz with ⟨h1, h2⟩ | ⟨h1, h2⟩ <;> omega) h
    · have h1 : L x ≠ L u := fun e => hl (.inl e)
      have h2 : L x ≠ L w := fun e => hl (.inr e)
      rw [headL_iff, headL_iff]
      exact ⟨fun hq y hy e => hq y hy ((ro x h1 h2 y).2 e), fun hp y hy e => hp y hy ((ro x h1 h2 y).1 e)⟩

/-- Two nodes are put together, if they are apart. -/
def joinL (L : Nat → Nat) (e : Nat × Nat) : Nat → Nat := if L e.1 = L e.2 then L else relab (L e.1) (L e.2) L

def runL (E : List (Nat × Nat)) : Nat → Nat := E.foldl joinL id
def okL : (Nat → Nat) → List (Nat × Nat) → Bool
  | _, [] => true
  | L, e :: E => decide (L e.1 ≠ L e.2) && okL (joinL L e) E

theorem run_snoc (E : List (Nat × Nat)) (e : Nat × Nat) : runL (E ++ [e]) = joinL (runL E) e := by simp [runL]
theorem okL_snoc : ∀ (E : List (Nat × Nat)) (L : Nat → Nat) (e : Nat × Nat), okL L (E ++ [e]) = (okL L E && decide ((E.foldl joinL L) e.1 ≠ (E.foldl joinL L) e.2))
  | [], L, e => by by_cases h : L e.1 = L e.2 <;> simp [okL, h]
  | x :: E, L, e => by rw [List.cons_append, okL, okL_snoc E, okL, Bool.and_assoc]; rfl

theorem okL_prefix : ∀ (E F : List (Nat × Nat)) (L : Nat → Nat), okL L E = false → okL L (E ++ F) = false
  | [], _, _, h => by cases h
  | x :: E, F, L, h => by
    rw [okL] at h
    rw [List.cons_append, okL]
    cases hd : decide (L x.1 ≠ L x.2)
    · rfl
    · rw [hd, Bool.true_and] at h
      rw [Bool.true_and]
      exact okL_prefix E F _ h

theorem ok_count {N : Nat} : ∀ (E : List (Nat × Nat)) (L : Nat → Nat), (∀ e ∈ E, e.1 < N ∧ e.2 < N) → cntL6 L N ≤ cntL6 (E.foldl joinL L) N + E.length ∧ (okL L E = true ↔ cntL6 (E.foldl joinL L) N + E.length = cntL6 L N)
  | [], L, _ => by simp [okL]
  | e :: E, L, h => by
    obtain ⟨h1, h2⟩ := ok_count E (joinL L e) (fun x hx => h x (by simp [hx]))
    obtain ⟨he1, he2⟩ := h e (by simp)
    rw [List.foldl_cons, List.length_cons, okL]
    by_cases hd : L e.1 = L e.2
    · have hj : joinL L e = L := by unfold joinL; rw [if_pos hd]
      rw [hj] at h1 h2 ⊢
      refine ⟨by omega, ?_⟩
      rw [decide_eq_false (fun h => h hd), Bool.false_and]
      constructor
      · intro h; cases h
      · intro h; omega
    · have hj : joinL L e = relab (L e.1) (L e.2) L := by unfold joinL; rw [if_neg hd]
      have hr := relab_count he1 he2 hd
      rw [← hj] at hr
      refine ⟨by omega, ?_⟩
      rw [decide_eq_true hd, Bool.true_and, h2]
      omega

theorem cnt_id (N : Nat) : cntL6 id N = N := by
  unfold cntL6
  rw [List.countP_eq_length.2 (fun x _ => headL_iff.2 fun y hy => by simp; omega), List.length_range]

/-- Labels are equal only where links lead. -/
theorem run_keeps {C : Nat → Prop} : ∀ (E : List (Nat × Nat)) (L : Nat → Nat), (∀ e ∈ E, (C e.1 ↔ C e.2)) → (∀ x y, L x = L y → (C x ↔ C y)) → ∀ x y, (E.foldl joinL L) x = (E.foldl joinL L) y → (C x ↔ C y)
  | [], _, _, h => h
  | e :: E, L, hE, h => by
    rw [List.foldl_cons]
    refine run_keeps E _ (fun x hx => hE x (by simp [hx])) fun x y hxy => ?_
    unfold joinL at hxy
    split at hxy
    · exact h x y hxy
    · have he := hE e (by simp)
      unfold relab at hxy
      split at hxy <;> split at hxy
      · rename_i h1 h2; exact h x y (by rw [h1, h2])
      · rename_i h1 h2; exact (h x e.2 h1).trans (he.symm.trans (h e.1 y hxy))
      · rename_i h1 h2; exact (h x e.1 hxy).trans (he.trans (h e.2 y h2.symm))
      · exact h x y hxy

theorem join_mono (L : Nat → Nat) (e : Nat × Nat) {x y : Nat} (h : L x = L y) : joinL L e x = joinL L e y := by
  unfold joinL
  split
  · exact h
  · unfold relab; rw [h]

theorem fold_mono : ∀ (E : List (Nat × Nat)) (L : Nat → Nat) {x y : Nat}, L x = L y → (E.foldl joinL L) x = (E.foldl joinL L) y
  | [], _, _, _, h => h
  | e :: E, L, _, _, h => fold_mono E _ (join_mono L e h)

theorem run_links : ∀ (E : List (Nat × Nat)) (L : Nat → Nat), ∀ e ∈ E, (E.foldl joinL L) e.1 = (E.foldl joinL L) e.2
  | [], _, e, h => by simp at h
  | x :: E, L, e, h => by
    rcases List.mem_cons.1 h with rfl | h
    · refine fold_mono E _ ?_
      unfold joinL
      split
      · assumption
      · rename_i hne
        unfold relab
        rw [if_pos rfl, if_neg hne]
    · exact run_links E _ e h

/-- The links of the clubs ahead of i, and of the members ahead of v in i. -/
def bitsL (k v : Nat) : List Nat := (List.range v).filter fun u => k.testBit u

def linksL (m : Nat) (ks : List Nat) (i : Nat) : List (Nat × Nat) := (List.range i).flatMap fun j => (bitsL (ks[j]?.getD 0) m).map fun v => (v, m + j)
theorem bitsL_succ (k v : Nat) : bitsL k (v + 1) = bitsL k v ++ if k.testBit v then [v] else [] := by
  unfold bitsL
  rw [List.range_succ, List.filter_append]
  by_cases h : k.testBit v = true
  · simp [h]
  · simp [h]

theorem linksL_succ (m : Nat) (ks : List Nat) (i : Nat) : linksL m ks (i + 1) = linksL m ks i ++ (bitsL (ks[i]?.getD 0) m).map fun v => (v, m + i) := by
  unfold linksL
  rw [List.range_succ, List.flatMap_append]
  simp

theorem links_mem {m : Nat} {ks : List Nat} {n : Nat} {e : Nat × Nat} : e ∈ linksL m ks n ↔ ∃ j v, j < n ∧ v < m ∧ (ks[j]?.getD 0).testBit v = true ∧ e = (v, m + j) := by
  unfold linksL bitsL
  simp only [List.mem_flatMap, List.mem_range, List.mem_map, List.mem_filter]
  constructor
  · rintro ⟨j, hj, v, ⟨hv, hb⟩, rfl⟩; exact ⟨j, v, hj, hv, hb, rfl⟩
  · rintro ⟨j, v, hj, hv, hb, rfl⟩; exact ⟨j, hj, v, ⟨hv, hb⟩, rfl⟩

def empL (ks : List Nat) : Nat := ks.countP fun k => decide (k = 0)
theorem range_ks (ks : List Nat) (p : Nat → Bool) : ((List.range ks.length).countP fun i => p (ks[i]?.getD 0)) = ks.countP p := by
  induction ks with
  | nil => rfl
  | cons k ks ih =>
    rw [List.length_cons, List.range_succ_eq_map, List.countP_cons, List.countP_map, List.countP_cons, ← ih]
    rfl

theorem links_parts {m : Nat} {ks : List Nat} (h : Ksm m ks) : cntL6 (runL (linksL m ks ks.length)) (m + ks.length) = cntP m ks m + empL ks := by
  obtain ⟨L, hL⟩ : ∃ L, L = runL (linksL m ks ks.length) := ⟨_, rfl⟩
  have h1 : ∀ j v, j < ks.length → v < m → (ks[j]?.getD 0).testBit v = true → L v = L (m + j) := fun j v hj hv hb => by
    rw [hL]
    exact run_links _ id (v, m + j) (links_mem.2 ⟨j, v, hj, hv, hb, rfl⟩)
  have h2 : ∀ C : Nat → Prop, (∀ j v, j < ks.length → v < m → (ks[j]?.getD 0).testBit v = true → (C v ↔ C (m + j))) → ∀ x y, L x = L y → (C x ↔ C y) := fun C hC x y hxy => by
    rw [hL] at hxy
    refine run_keeps _ id (fun e he => ?_) (fun x y e => by rw [show x = y from e]) x y hxy
    obtain ⟨j, v, hj, hv, hb, rfl⟩ := links_mem.1 he
    exact hC j v hj hv hb
  have hbit : ∀ j v, (ks[j]?.getD 0).testBit v = true → j < ks.length ∧ v < m := fun j v hb => by
    have hj : j < ks.length := by
      by_cases e : j < ks.length
      · exact e
      · rw [List.getElem?_eq_none (by omega), Option.getD_none, Nat.zero_testBit] at hb; cases hb
    refine ⟨hj, ?_⟩
    by_cases e : v < m
    · exact e
    · rw [List.getElem?_eq_getElem hj, Option.getD_some, Nat.testBit_lt_two_pow (Nat.lt_of_lt_of_le (h.lt _ (List.getElem_mem hj)) (Nat.pow_le_pow_right (by decide) (by omega)))] at hb
      cases hb
  have hpart : ∀ u v, u < m → v < m → (L u = L v ↔ (partP m ks u).testBit v = true) := fun u v hu hv => by
    constructor
    · intro e
      refine (h2 (fun x => (x < m ∧ (partP m ks u).testBit x = true) ∨ ∃ j, x = m + j ∧ ∃ w, (ks[j]?.getD 0).testBit w = true ∧ (partP m ks u).testBit w = true) (fun j w hj hw hb => ?_) u v e).1 (.inl ⟨hu, partP_self u⟩) |>.elim (fun h => h.2) (fun ⟨j, hj, _⟩ => by omega)
      constructor
      · rintro (⟨_, hp⟩ | ⟨j', e', _⟩)
        · exact .inr ⟨j, rfl, w, hb, hp⟩
        · omega
      · rintro (⟨hlt, _⟩ | ⟨j', e', w', hb', hp'⟩)
        · omega
        · obtain rfl : j = j' := by omega
          refine .inl ⟨hw, partP_closed h hu _ ?_ ⟨w', hb', hp'⟩ w hb⟩
          rw [List.getElem?_eq_getElem hj, Option.getD_some]
          exact List.getElem_mem hj
    · intro hp
      refine (partP_min (m := m) (ks := ks) (v := u) (C := fun w => L w = L u) ?_ rfl v hp).symm
      rintro k hk ⟨w, hw1, hw2⟩ i hi
      obtain ⟨j, hj, rfl⟩ := List.getElem_of_mem hk
      have e : ks[j] = ks[j]?.getD 0 := by rw [List.getElem?_eq_getElem hj, Option.getD_some]
      rw [e] at hw1 hi
      rw [h1 j i hj (hbit j i hi).2 hi, ← h1 j w hj (hbit j w hw1).2 hw1]
      exact hw2
  rw [← hL]
  unfold cntL6
  rw [List.range_add, List.countP_append, List.countP_map]
  congr 1
  · unfold cntP
    rw [← List.countP_eq_length_filter]
    refine List.countP_congr fun v hv => ?_
    have hv' := List.mem_range.1 hv
    rw [headL_iff, firstP_iff h hv']
    refine ⟨fun hq u hu => ?_, fun hq u hu e => ?_⟩
    · cases hb : (partP m ks u).testBit v
      · rfl
      · exact (hq u hu ((hpart u v (by omega) hv').2 hb)).elim
    · have := (hpart u v (by omega) hv').1 e
      rw [hq u hu] at this; cases this
  · unfold empL
    rw [← range_ks ks fun k => decide (k = 0)]
    refine List.countP_congr fun j hj => ?_
    have hj' := List.mem_range.1 hj
    rw [Function.comp_apply, headL_iff, decide_eq_true_eq]
    constructor
    · intro hq
      by_cases e : ks[j]?.getD 0 = 0
      · exact e
      · obtain ⟨v, hv⟩ := Nat.exists_testBit_of_ne_zero e
        have := (hbit j v hv).2
        exact (hq v (by omega) (h1 j v hj' this hv)).elim
    · intro e y hy hyl
      have := (h2 (fun x => x = m + j) (fun j' v hj1 hv hb => ⟨fun e' => by omega, fun e' => by
        obtain rfl : j' = j := by omega
        rw [e, Nat.zero_testBit] at hb; cases hb⟩) y (m + j) hyl).2 rfl
      omega

/-- A forest is told by counting. -/
theorem forest_count {m : Nat} {ks : List Nat} (h : Ksm m ks) : okL id (linksL m ks ks.length) = decide (cntP m ks m + empL ks + (linksL m ks ks.length).length = m + ks.length) := by
  have hN : ∀ e ∈ linksL m ks ks.length, e.1 < m + ks.length ∧ e.2 < m + ks.length := fun e he => by
    obtain ⟨j, v, hj, hv, _, rfl⟩ := links_mem.1 he
    exact ⟨by show v < _; omega, by show m + j < _; omega⟩
  have := (ok_count (linksL m ks ks.length) id hN).2
  rw [cnt_id] at this
  rw [Bool.eq_iff_iff, this, decide_eq_true_eq]
  have hp := links_parts h
  unfold runL at hp
  rw [hp]

end Go.Proofs.YtphddemilibooaaDoor

/- It is proved what EarForest of the model returns; conditions: those of each statement. -/
namespace Go.Proofs.YtphddemilibooaaDoor
open Go.RowKit

/-- A row of labels. -/
def rowL (L : Nat → Nat) (N : Nat) : List Int := (List.range N).map fun x => ((L x : Nat) : Int)

def halfL (L L' : Nat → Nat) (N x : Nat) : List Int := rowL (fun y => if y < x then L' y else L y) N
theorem rowL_len (L : Nat → Nat) (N : Nat) : (rowL L N).length = N := by simp [rowL]
theorem rowL_at {L : Nat → Nat} {N x : Nat} (h : x < N) : (rowL L N)[x]?.getD 0 = ((L x : Nat) : Int) := by simp [rowL, h]
theorem rowL_succ (L : Nat → Nat) (N : Nat) : rowL L (N + 1) = rowL L N ++ [((L N : Nat) : Int)] := by simp [rowL, List.range_succ]
theorem half_zero (L L' : Nat → Nat) (N : Nat) : halfL L L' N 0 = rowL L N := by simp [halfL]
theorem half_all (L L' : Nat → Nat) (N : Nat) : halfL L L' N N = rowL L' N := by
  unfold halfL rowL
  refine List.map_congr_left fun x hx => ?_
  dsimp only
  rw [if_pos (List.mem_range.1 hx)]

theorem half_at {L L' : Nat → Nat} {N x : Nat} (h : x < N) : (halfL L L' N x)[x]?.getD 0 = ((L x : Nat) : Int) := by
  unfold halfL
  rw [rowL_at h, if_neg (by omega)]

theorem half_keep {L L' : Nat → Nat} {N x : Nat} (h : L' x = L x) : halfL L L' N (x + 1) = halfL L L' N x := by
  unfold halfL rowL
  refine List.map_congr_left fun y _ => ?_
  dsimp only
  by_cases e : y = x
  · subst e; rw [if_pos (by omega), if_neg (by omega), h]
  · by_cases h1 : y < x
    · rw [if_pos (by omega), if_pos h1]
    · rw [if_neg (by omega), if_neg h1]

theorem half_set (L L' : Nat → Nat) (N x : Nat) : halfL L L' N (x + 1) = (halfL L L' N x).set x ((L' x : Nat) : Int) := by
  apply List.ext_getElem
  · simp [halfL, rowL]
  · intro y h1 h2
    simp only [halfL, rowL, List.getElem_map, List.getElem_range, List.getElem_set]
    by_cases e : x = y
    · subst e; rw [if_pos (by omega), if_pos rfl]
    · rw [if_neg e]
      by_cases h3 : y < x
      · rw [if_pos (by omega), if_pos h3]
      · rw [if_neg (by omega), if_neg h3]

def linksV (m : Nat) (ks : List Nat) (i v : Nat) : List (Nat × Nat) := linksL m ks i ++ (bitsL (ks[i]?.getD 0) v).map fun u => (u, m + i)
theorem linksV_zero (m : Nat) (ks : List Nat) (i : Nat) : linksV m ks i 0 = linksL m ks i := by simp [linksV, bitsL]
theorem linksV_all (m : Nat) (ks : List Nat) (i : Nat) : linksV m ks i m = linksL m ks (i + 1) := (linksL_succ m ks i).symm
theorem linksV_no {m : Nat} {ks : List Nat} {i v : Nat} (h : (ks[i]?.getD 0).testBit v = false) : linksV m ks i (v + 1) = linksV m ks i v := by
  unfold linksV
  rw [bitsL_succ, h]; simp

theorem linksV_yes {m : Nat} {ks : List Nat} {i v : Nat} (h : (ks[i]?.getD 0).testBit v = true) : linksV m ks i (v + 1) = linksV m ks i v ++ [(v, m + i)] := by
  unfold linksV
  rw [bitsL_succ, h]; simp

theorem bitsL_pre (k : Nat) {v m : Nat} (h : v ≤ m) : bitsL k v <+: bitsL k m := by
  induction m with
  | zero => obtain rfl : v = 0 := by omega
            exact List.prefix_rfl
  | succ m ih =>
    by_cases e : v = m + 1
    · subst e; exact List.prefix_rfl
    · rw [bitsL_succ]
      exact (ih (by omega)).trans (List.prefix_append _ _)

theorem linksL_pre (m : Nat) (ks : List Nat) {i n : Nat} (h : i ≤ n) : linksL m ks i <+: linksL m ks n := by
  induction n with
  | zero => obtain rfl : i = 0 := by omega
            exact List.prefix_rfl
  | succ n ih =>
    by_cases e : i = n + 1
    · subst e; exact List.prefix_rfl
    · rw [linksL_succ]
      exact (ih (by omega)).trans (List.prefix_append _ _)

theorem linksV_pre (m : Nat) (ks : List Nat) {i n v : Nat} (hi : i < n) (hv : v ≤ m) : linksV m ks i v <+: linksL m ks n := by
  refine List.IsPrefix.trans ?_ (linksL_pre m ks (show i + 1 ≤ n by omega))
  rw [← linksV_all]
  unfold linksV
  exact (List.prefix_append_right_inj _).2 ((bitsL_pre _ hv).map _)

theorem okL_pre {E F : List (Nat × Nat)} (h : E <+: F) (ho : okL id E = false) : okL id F = false := by
  obtain ⟨t, rfl⟩ := h
  exact okL_prefix E t id ho

theorem ksOf_at (zs : List Int) (i : Nat) : (ksOf zs)[i]?.getD 0 = (zs[i]?.getD 0 : Int).toNat := by
  unfold ksOf
  rw [List.getElem?_map]
  cases zs[i]? <;> rfl

def forestB (m : Int) (zs : List Int) : Bool := famIn m zs && okL id (linksL m.toNat (ksOf zs) zs.length)
set_option maxRecDepth 100000 in
set_option maxHeartbeats 8000000 in
theorem specForest_any (m : Int) (a : Option Addr) (c : Nat) (zs : List Int) (w : World) (ha : Ints w w.heap.size a zs) (hx : zs.length ≤ 1048576) :
    Calls Tryd.prog 14 #[.agg #[.int .i64 m, .slice a zs.length c]] w fun e w' => e = .returned (.bool (forestB m zs)) ∧ Below w.heap.size w w' := by
  unfold forestB
  have HB0 := Lib.hid (below1 w (.cells #[.int .i64 m, .slice a zs.length c] 25))
  have HA := Lib.hid (ha.below HB0.out)
  clear ha
  cases hf : famIn m zs
  · have HF := Lib.hid hf
    clear hf
    go_enter Tryd.func14, Tryd.ntmps14
    go_wp2_with fail
    refine (specFamilyIn_any _ _ _ zs _ (HA.out.mono (by simp)) hx).mono ?_
    rintro e w1 ⟨rfl, hb⟩
    rw [HF.out]
    have HB := Lib.hid (HB0.out.trans (hb.mono (by simp)))
    clear hb
    go_wp2
    go_ret
    exact ⟨rfl, HB.out⟩
  · have HF := Lib.hid hf
    obtain ⟨k, rfl, hk1, hk6, hset, hl8⟩ := fam_nat2 hf
    rw [Int.toNat_natCast, Bool.true_and]
    obtain ⟨i0, hi0, hz0, hz1, hz2⟩ := info_parts Tryd.info3
    obtain ⟨ks, hks⟩ : ∃ ks, ks = ksOf zs := ⟨_, rfl⟩
    have HKS : Hid (∀ i : Nat, ks[i]?.getD 0 = (zs[i]?.getD 0 : Int).toNat) := Lib.hid fun i => by rw [hks]; exact ksOf_at zs i
    rw [← hks]
    have HS := Lib.hid hset
    clear hf hset hks
    go_enter Tryd.func14, Tryd.ntmps14
    go_wp2_with fail
    refine (specFamilyIn_any _ _ _ zs _ (HA.out.mono (by simp)) hx).mono ?_
    rintro e w1 ⟨rfl, hb⟩
    rw [HF.out]
    have b0 : w1.heap[w.heap.size]? = some (.cells #[.int .i64 (k : Int), .slice a zs.length c] 25 (0, 0)) := (hb.block _ (by simp)).trans (alloc_new w _)
    have x0 := (blk_cell b0 0).trans (cell2_0 _ _)
    have x1 := (blk_cell b0 1).trans (cell2_1 _ _)
    have hz1 : w.heap.size < w1.heap.size := lt_of_some b0
    have HB := Lib.hid (HB0.out.trans (hb.mono (by simp)))
    have HI1 := Lib.hid ((HA.out.below (hb.mono (by simp))).mono (show w.heap.size ≤ w1.heap.size by omega))
    obtain ⟨n, hn⟩ : ∃ n, n = zs.length := ⟨_, rfl⟩
    have HN := Lib.hid hn
    rw [← hn] at x1 hl8 ⊢
    have HKEEP : Hid (∀ W, Below w1.heap.size w1 W → W.cell? ⟨w.heap.size, 0, none⟩ = some (.int .i64 (k : Int)) ∧ W.cell? ⟨w.heap.size, 1, none⟩ = some (.slice a n c)) :=
      Lib.hid fun W hW => ⟨(hW.cell (p := ⟨w.heap.size, 0, none⟩) hz1).trans x0, (hW.cell (p := ⟨w.heap.size, 1, none⟩) hz1).trans x1⟩
    have HE : Hid (OwnN (w1.alloc (.cells #[] 3)) w1.heap.size (some ⟨w1.heap.size, 0, none⟩) 0 0 (rowL id 0) ∧ Below w1.heap.size w1 (w1.alloc (.cells #[] 3))) := Lib.hid ⟨own_empty (alloc_new w1 _) (Nat.le_refl _), below1 w1 _⟩
    clear hb b0 hn x0 x1 HA HB0
    go_wp2
    go_loopg [3, 4] (k + n) (fun g s3 s4 wr => ∃ (x : Nat) (b : Option Addr) (d : Nat), x + g = k + n ∧ s4 = .int .i64 (x : Int) ∧ s3 = .slice b x d ∧ Hid (OwnN wr w1.heap.size b x d (rowL id x) ∧ Below w1.heap.size w1 wr))
    case atStart => exact ⟨0, _, _, by omega, rfl, rfl, HE.out⟩
    case round =>
      obtain ⟨x, b, d, hxg, rfl, rfl, HO⟩ := hrel
      obtain ⟨x0, x1⟩ := HKEEP.out _ HO.out.2
      have hwk : IntKind.i64.wrap ((k : Int) + (n : Int)) = (k : Int) + (n : Int) := IntWalk.i64_in _ (by omega)
      clear HE
      cases gk with
      | zero =>
        obtain rfl : x = k + n := by omega
        go_wp2
        have HR0 : Hid (OwnN wr w1.heap.size b (k + n) d (rowL (runL (linksL k ks 0)) (k + n)) ∧ Below w1.heap.size w1 wr) := HO
        clear HO x0 x1
        go_loopg [5, 6, 7, 8, 9] n (fun g s5 s6 s7 s8 s9 wi => ∃ (i : Nat), i + g = n ∧ s5 = .int .i64 (i : Int) ∧ Hid (OwnN wi w1.heap.size b (k + n) d (rowL (runL (linksL k ks i)) (k + n)) ∧ Below w1.heap.size w1 wi ∧ okL id (linksL k ks i) = true))
        case atStart => exact ⟨0, by omega, rfl, HR0.out.1, HR0.out.2, rfl⟩
        case round =>
          obtain ⟨i, hig, rfl, HI⟩ := hrel
          obtain ⟨x0, x1⟩ := HKEEP.out _ HI.out.2.1
          cases gk with
          | zero =>
            obtain rfl : i = n := by omega
            have HR := Lib.hid (HB.out.trans (HI.out.2.1.mono HB.out.size))
            have HOK : Hid (okL id (linksL k ks zs.length) = true) := Lib.hid (by rw [← HN.out]; exact HI.out.2.2)
            clear HI
            go_wp2
            go_ret
            exact ⟨by rw [HOK.out]; rfl, HR.out⟩
          | succ gi =>
            have hin : i < n := by omega
            have hii : (i : Int) < (n : Int) := by omega
            have hi0' : (0 : Int) ≤ (i : Int) := by omega
            have HV0 : Hid (OwnN wr w1.heap.size b (k + n) d (rowL (runL (linksV k ks i 0)) (k + n)) ∧ Below w1.heap.size w1 wr ∧ okL id (linksV k ks i 0) = true) := Lib.hid (by rw [linksV_zero]; exact HI.out)
            go_wp2
            clear HI x0 x1
            go_loopg [6, 7, 8, 9] k (fun g s6 s7 s8 s9 wv => ∃ (v : Nat), v + g = k ∧ s6 = .int .i64 (v : Int) ∧ Hid (OwnN wv w1.heap.size b (k + n) d (rowL (runL (linksV k ks i v)) (k + n)) ∧ Below w1.heap.size w1 wv ∧ okL id (linksV k ks i v) = true))
            case atStart => exact ⟨0, by omega, rfl, HV0.out⟩
            case round =>
              obtain ⟨v, hvg, rfl, HV⟩ := hrel
              obtain ⟨x0, x1⟩ := HKEEP.out _ HV.out.2.1
              clear HV0
              cases gk with
              | zero =>
                obtain rfl : v = k := by omega
                have HI2 : Hid (OwnN wr w1.heap.size b (v + n) d (rowL (runL (linksL v ks (i + 1))) (v + n)) ∧ Below w1.heap.size w1 wr ∧ okL id (linksL v ks (i + 1)) = true) := Lib.hid (by rw [← linksV_all]; exact HV.out)
                go_wp2
                go_roundg gi
                case measure => omega
                case rel => exact ⟨i + 1, by omega, by go_num, HI2.out⟩
              | succ gv =>
                have hvk : v < k := by omega
                have hvi : (v : Int) < (k : Int) := by omega
                have hv0 : (0 : Int) ≤ (v : Int) := by omega
                obtain ⟨bz, oz, rfl, hbz, hcz⟩ := (HI1.out.below HV.out.2.1).at_ (k := i) (by rw [← HN.out]; exact hin)
                obtain ⟨z, hz⟩ : ∃ z, z = zs[i]?.getD 0 := ⟨_, rfl⟩
                have HKI : Hid (ks[i]?.getD 0 = z.toNat) := Lib.hid (by rw [hz]; exact HKS.out i)
                have hzm : z ∈ zs := by rw [hz]; exact at_in (by rw [← HN.out]; exact hin)
                have hzz0 : 0 ≤ z := (HS.out z hzm).1
                have hz64 : z.toNat < 64 := p64 hk6 (HS.out z hzm).2
                have hbt := bt_int hzz0 hz64 (show v < 6 by omega)
                have hz63 : z ≤ 63 := by omega
                rw [← hz] at hcz
                clear hz hzm
                cases hb : Bt v z
                · rw [hb] at hbt
                  simp only [Bool.false_eq_true, if_false] at hbt
                  have HV2 : Hid (OwnN wr w1.heap.size b (k + n) d (rowL (runL (linksV k ks i (v + 1))) (k + n)) ∧ Below w1.heap.size w1 wr ∧ okL id (linksV k ks i (v + 1)) = true) := Lib.hid (by rw [linksV_no (by rw [HKI.out]; exact hb)]; exact HV.out)
                  clear hb HV
                  go_wp2
                  go_roundg gv
                  case measure => omega
                  case rel => exact ⟨v + 1, by omega, by go_num, HV2.out⟩
                · rw [hb] at hbt
                  simp only [if_true] at hbt
                  have HE2 : Hid (linksV k ks i (v + 1) = linksV k ks i v ++ [(v, k + i)]) := Lib.hid (linksV_yes (by rw [HKI.out]; exact hb))
                  obtain ⟨L, hL⟩ : ∃ L, L = runL (linksV k ks i v) := ⟨_, rfl⟩
                  have HL := Lib.hid hL
                  have HO : Hid (OwnN wr w1.heap.size b (k + n) d (rowL L (k + n))) := Lib.hid (by rw [hL]; exact HV.out.1)
                  obtain ⟨A, hA⟩ : ∃ A, A = L v := ⟨_, rfl⟩
                  obtain ⟨B, hB⟩ : ∃ B, B = L (k + i) := ⟨_, rfl⟩
                  obtain ⟨g, rfl, hg1, hg2, ca, -, -⟩ := own_wr6 HO.out (show v < k + n by omega)
                  have cb := HO.out.cell (show k + i < k + n by omega)
                  rw [rowL_at (by omega), ← hA] at ca
                  rw [rowL_at (by omega), ← hB] at cb
                  have hwi : IntKind.i64.wrap ((k : Int) + (i : Int)) = (k : Int) + (i : Int) := IntWalk.i64_in _ (by omega)
                  have hki0 : (0 : Int) ≤ (k : Int) + (i : Int) := by omega
                  have hkin : (k : Int) + (i : Int) < (k : Int) + (n : Int) := by omega
                  have hvin : (v : Int) < (k : Int) + (n : Int) := by omega
                  have hcap : k + n ≤ d := HO.out.cap_le
                  have htn : ((k : Int) + (i : Int)).toNat = k + i := by omega
                  clear hb hL
                  by_cases hAB : A = B
                  · have hb1 : ((A : Int) == (B : Int)) = true := by rw [hAB]; simp
                    have HNO : Hid (okL id (linksL k ks zs.length) = false) := Lib.hid (by rw [← HN.out]; exact okL_pre (linksV_pre k ks hin (show v + 1 ≤ k by omega)) (by
                      rw [HE2.out, okL_snoc, decide_eq_false, Bool.and_false]
                      show ¬ ((runL (linksV k ks i v)) v ≠ (runL (linksV k ks i v)) (k + i))
                      rw [← HL.out, ← hA, ← hB]
                      exact fun h => h hAB))
                    have HR := Lib.hid (HB.out.trans (HV.out.2.1.mono HB.out.size))
                    clear HV HO hA hB hAB
                    go_wp2
                    go_ret
                    exact ⟨by rw [HNO.out]; rfl, HR.out⟩
                  · have hb1 : ((A : Int) == (B : Int)) = false := by rw [beq_eq_false_iff_ne]; omega
                    have hb2 : (A == B) = false := by rw [beq_eq_false_iff_ne]; exact hAB
                    have HAB := Lib.hid hAB
                    have HRUN : Hid (runL (linksV k ks i (v + 1)) = relab A B L) := Lib.hid (by
                      rw [HE2.out, run_snoc, ← HL.out]
                      unfold joinL
                      rw [if_neg (by show L v ≠ L (k + i); rw [← hA, ← hB]; exact HAB.out), ← hA, ← hB])
                    have HOK : Hid (okL id (linksV k ks i (v + 1)) = true) := Lib.hid (by
                      rw [HE2.out, okL_snoc, HV.out.2.2, decide_eq_true, Bool.true_and]
                      show (runL (linksV k ks i v)) v ≠ (runL (linksV k ks i v)) (k + i)
                      rw [← HL.out, ← hA, ← hB]
                      exact HAB.out)
                    have HX0 : Hid (OwnN wr w1.heap.size (some ⟨g, 0, none⟩) (k + n) d (halfL L (relab A B L) (k + n) 0) ∧ Below w1.heap.size w1 wr) := Lib.hid ⟨by rw [half_zero]; exact HO.out, HV.out.2.1⟩
                    clear hA hB hAB HV HO HE2
                    go_wp2
                    clear ca cb
                    go_loopg [9] (k + n) (fun g2 s9 wx => ∃ x : Nat, x + g2 = k + n ∧ s9 = .int .i64 (x : Int) ∧ Hid (OwnN wx w1.heap.size (some ⟨g, 0, none⟩) (k + n) d (halfL L (relab A B L) (k + n) x) ∧ Below w1.heap.size w1 wx))
                    case atStart => exact ⟨0, by omega, rfl, HX0.out⟩
                    case round =>
                      obtain ⟨x, hxg2, rfl, HX⟩ := hrel
                      cases gk with
                      | zero =>
                        obtain rfl : x = k + n := by omega
                        have HV2 : Hid (OwnN wr w1.heap.size (some ⟨g, 0, none⟩) (k + n) d (rowL (runL (linksV k ks i (v + 1))) (k + n)) ∧ Below w1.heap.size w1 wr ∧ okL id (linksV k ks i (v + 1)) = true) := Lib.hid ⟨by rw [HRUN.out, ← half_all L]; exact HX.out.1, HX.out.2, HOK.out⟩
                        clear HX HX0
                        go_wp2
                        go_roundg gv
                        case measure => omega
                        case rel => exact ⟨v + 1, by omega, by go_num, HV2.out⟩
                      | succ g2 =>
                        have hxn : x < k + n := by omega
                        have hxi : (x : Int) < (k : Int) + (n : Int) := by omega
                        have hxi0 : (0 : Int) ≤ (x : Int) := by omega
                        obtain ⟨g', he, -, -, cx, fx, sx⟩ := own_wr6 HX.out.1 hxn
                        injection he with he
                        injection he with he _
                        subst he
                        rw [half_at hxn] at cx
                        obtain ⟨lx, hlx⟩ : ∃ lx, lx = L x := ⟨_, rfl⟩
                        rw [← hlx] at cx
                        by_cases hlB : lx = B
                        · subst hlB
                          have HS2 : Hid (OwnN (wr.setCell ⟨g, x, none⟩ (.int .i64 (A : Int))) w1.heap.size (some ⟨g, 0, none⟩) (k + n) d (halfL L (relab A lx L) (k + n) (x + 1)) ∧ Below w1.heap.size w1 (wr.setCell ⟨g, x, none⟩ (.int .i64 (A : Int)))) := Lib.hid ⟨by
                            rw [half_set, show relab A lx L x = A from by unfold relab; rw [if_pos hlx.symm]]
                            exact sx _, HX.out.2.setCell (p := ⟨g, x, none⟩) hg1 _⟩
                          clear HX sx hlx
                          go_wp2
                          go_roundg g2
                          case measure => omega
                          case rel => exact ⟨x + 1, by omega, by go_num, HS2.out⟩
                        · have hb3 : ((lx : Int) == (B : Int)) = false := by rw [beq_eq_false_iff_ne]; omega
                          have hb4 : (lx == B) = false := by rw [beq_eq_false_iff_ne]; exact hlB
                          have HS2 : Hid (OwnN wr w1.heap.size (some ⟨g, 0, none⟩) (k + n) d (halfL L (relab A B L) (k + n) (x + 1)) ∧ Below w1.heap.size w1 wr) := Lib.hid ⟨by
                            rw [half_keep (by unfold relab; rw [if_neg (by rw [← hlx]; exact hlB)])]
                            exact HX.out.1, HX.out.2⟩
                          clear HX sx hlx hlB
                          go_wp2
                          go_roundg g2
                          case measure => omega
                          case rel => exact ⟨x + 1, by omega, by go_num, HS2.out⟩
      | succ g =>
        have hxn : x < k + n := by omega
        have hxi : (x : Int) < (k : Int) + (n : Int) := by omega
        have hsz : w1.heap.size ≤ wr.heap.size := HO.out.2.size
        go_wp2_with (at_builtin; refine wpList_append_own _ rfl _ _ 23 rfl w1.heap.size 3 i0 (.int .i64 0) 1 8 Tryd.underlying23 hi0 hz0 ‹_› hz2 rfl (by decide) _ _ _ rfl (HO.out.1.alloc _) ⟨wr.heap.size, 0, none⟩ 1 1 [.int .i64 _] rfl rfl (cell_one_new _ _ _) (by simp [Value.oneCell']) (by simp only [maxLen]; omega) (by omega) (by simp; omega) ?_; intro v' w9 hown hgrow _; obtain ⟨g', cap', rfl, _, _⟩ := World.ownsRow.form hown (by omega))
        go_roundg g
        case measure => omega
        case rel => exact ⟨x + 1, _, _, by omega, by go_num, rfl, by rw [rowL_succ]; exact own_more hown, (HO.out.2.alloc hsz _).grown hgrow (by simp; omega) (fun g e => (World.ownsRow.lt HO.out.1 g e).1)⟩

end Go.Proofs.YtphddemilibooaaDoor
