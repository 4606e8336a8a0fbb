/- It is proved that the search finds as many tables as the reference model counts; conditions: those of each statement. -/
import Derived.RowKit
import Derived.Laws.CopyRow
import Derived.Lib.SlBuf
import Derived.Deep.QuietTactic
import Derived.RangeFuncNested
import Derived.RangeFuncBound
import Derived.RangeFuncCalls
import Derived.RangeFuncLeaves
import Derived.RangeFuncBox
import Derived.RangeFuncWrites
import Derived.StillTailTactics
import Derived.Maps.OwnIn
import Derived.Maps.Ext
import Derived.DeepKeys4
import Derived.MapKept
import Derived.Test.YtbiggilheicfjaaDoorRows
import Derived.WalkKit
import Derived.WalkSpells
import Derived.ProofKit
import Derived.OpenShut
import Derived.ShutString
import Derived.ChangeOld
import Derived.Below
import Derived.Deep.RegionHeld3
import Derived.BigQuiet
import Derived.Lib.Hide
import Derived.Lib.SmallJoins
import Derived.Outline
import Derived.Laws.MakeOwn
import Derived.Laws.OwnMore
import Derived.IntWalk
import Derived.Maps.AppendAt
import Derived.Sort.QuietIn
import Derived.Lib.AppendZeros
import Derived.Deep.AppendLies
import Derived.OwnWalk
import Derived.Lib.SlicesCompact
import Derived.Lib.OwnBridge
import Derived.OrdersIn
import Derived.TacticsIn
import Derived.Shelf.Sort.Plain
import Derived.Shelf.Slices.In.SortNone
import Derived.Shelf.Slices.CompactI
import Derived.Ground.Names2Prog
import Derived.Shelf.Abstract
import Derived.Shelf.RegionOpen
import Derived.OwnWalkIn
import Derived.TacticsInMore
import Derived.LoopNIn
import Derived.LoopIn
import Derived.StillTail
import Derived.StillTactics
import Derived.Shelf.Spec.TrailingZeros
import Derived.Test.YtbiggilheicfjaaDoorEc
import Derived.Test.YtbiggilheicfjaaDoorEk
import Derived.Test.YtbiggilheicfjaaDoorEl
import Derived.Test.YtbiggilheicfjaaDoorEm
import Derived.Test.YtbiggilheicfjaaDoorEn
import Derived.Test.YtbiggilheicfjaaDoorEq
import Derived.Test.YtbiggilheicfjaaDoorEr
import Derived.Test.YtbiggilheicfjaaDoorHu
import Derived.Test.YtbiggilheicfjaaDoorT
import Derived.Test.YtbiggilheicfjaaDoorZa
namespace Go.Proofs.YtbiggilheicfjaaDoor
open Go.RowKit Go.Shelf

theorem sumN_zero {α : Type} (f : α → Nat) : ∀ (xs : List α), (∀ x ∈ xs, f x = 0) → sumN (xs.map f) = 0
  | [], _ => rfl
  | x :: xs, h => by rw [List.map_cons, sumN, h x (by simp), sumN_zero f xs (fun y hy => h y (by simp [hy]))]

/-- Degrees that have one that is greater than the number of clubs are no family's. -/
theorem cnt_many : ∀ (ss left : List Int) (v : Nat), v < left.length → (ss.length : Int) < left[v]?.getD 0 → cntL ss left = 0
  | [], left, v, hv, h => by
    have : left.all (fun x => x == 0) = false := all0_no hv (by simp at h; omega)
    rw [cntL, this]; simp
  | z :: ss, left, v, hv, h => by
    rw [cntL]
    refine sumN_zero _ _ (fun s _ => ?_)
    split
    · refine cnt_many ss _ v (by rw [takeN_len]; exact hv) ?_
      have := bitI_01 s v
      rw [takeN_at _ _ _ hv]
      simp at h; omega
    · rfl

theorem bitI_count {s v : Nat} (hs : s < 64) (hv : v < 6) : ((mem s).count v : Int) = bitI s v := by
  rw [count01 hs hv, bitI]; split <;> rfl

theorem pad5_at (ds : List Int) (v : Nat) : (pad5 ds)[v]?.getD 0 = ds[v]?.getD 0 := by
  unfold pad5
  by_cases h : v < ds.length
  · rw [List.getElem?_append_left h]
  · rw [List.getElem?_append_right (by omega), List.getElem?_eq_none (l := ds) (by omega), List.getElem?_replicate]
    split <;> rfl

theorem ext5 {xs ys : List Int} (hx : xs.length = 5) (hy : ys.length = 5) (h : ∀ v, v < 5 → xs[v]?.getD 0 = ys[v]?.getD 0) : xs = ys := by
  apply List.ext_getElem (by omega)
  intro i h1 h2
  have := h i (by omega)
  simpa [h1, h2] using this

theorem less_pad {ds : List Int} (hd : ds.length ≤ 5) {s : Nat} (hs : s < 2 ^ ds.length) : lessV (pad5 ds) (mem s) = pad5 (takeN ds s) := by
  have h32 : 2 ^ ds.length ≤ 32 := Nat.pow_le_pow_right (n := 2) (by decide) hd
  refine ext5 (by rw [lessV_len, pad5_len hd]) (pad5_len (by rw [takeN_len]; exact hd)) (fun v hv => ?_)
  rw [lessV_at _ _ _ (by rw [pad5_len hd]; exact hv), bitI_count (by omega) (by omega), pad5_at, pad5_at]
  by_cases h : v < ds.length
  · rw [takeN_at _ _ _ h]
  · have : s.testBit v = false := Nat.testBit_lt_two_pow (Nat.lt_of_lt_of_le hs (Nat.pow_le_pow_right (by decide) (by omega)))
    rw [List.getElem?_eq_none (l := ds) (by omega), List.getElem?_eq_none (l := takeN ds s) (by rw [takeN_len]; omega), bitI, this]
    rfl

theorem pad_all (ds : List Int) : (pad5 ds).all (fun x => x == 0) = ds.all (fun x => x == 0) := by
  unfold pad5
  rw [List.all_append]
  have : (List.replicate (5 - ds.length) (0 : Int)).all (fun x => x == 0) = true := by simp
  rw [this, Bool.and_true]

set_option maxRecDepth 100000 in
theorem leG32_fin : ∀ a b : Fin 32, leG (a.val : Int) (b.val : Int) = (a.val &&& b.val == a.val) := by decide +kernel

theorem sub_bits {a b : Nat} (ha : a < 32) (hb : b < 32) : (a &&& b == a) = true ↔ ∀ v, v < 5 → a.testBit v = true → b.testBit v = true := by
  rw [beq_iff_eq]
  constructor
  · intro h v _ hv
    rw [← h, Nat.testBit_and, Bool.and_eq_true] at hv
    exact hv.2
  · intro h
    apply Nat.eq_of_testBit_eq
    intro v
    rw [Nat.testBit_and]
    by_cases h5 : v < 5
    · cases ht : a.testBit v
      · rfl
      · rw [h v h5 ht]; rfl
    · have : a.testBit v = false := Nat.testBit_lt_two_pow (Nat.lt_of_lt_of_le (show a < 2 ^ 5 from ha) (Nat.pow_le_pow_right (by decide) (by omega)))
      rw [this]; rfl

theorem flat_sum {α β : Type} (f : α → List β) : ∀ (xs : List α), (xs.flatMap f).length = sumN (xs.map fun x => (f x).length)
  | [] => rfl
  | x :: xs => by rw [List.flatMap_cons, List.length_append, List.map_cons, sumN, flat_sum f xs]

theorem sum_filter {α : Type} (q : α → Bool) (f : α → Nat) : ∀ (xs : List α), sumN ((xs.filter q).map f) = sumN (xs.map fun x => if q x then f x else 0)
  | [] => rfl
  | x :: xs => by
    rw [List.map_cons, sumN, ← sum_filter q f xs]
    cases h : q x
    · simp [List.filter, h]
    · simp [List.filter, h, sumN]

theorem sum_range_more (f : Nat → Nat) (a : Nat) : ∀ b, a ≤ b → (∀ s, a ≤ s → s < b → f s = 0) → sumN ((List.range b).map f) = sumN ((List.range a).map f)
  | 0, h, _ => by have : a = 0 := by omega
                  rw [this]
  | b + 1, h, hf => by
    by_cases e : a = b + 1
    · rw [e]
    · rw [List.range_succ, List.map_append, sumN_append, sum_range_more f a b (by omega) (fun s h1 h2 => hf s h1 (by omega))]
      simp [sumN, hf b (by omega) (by omega)]

theorem tabs_cnt : ∀ (ss ds : List Int), ss.length ≤ 5 → ds.length ≤ 5 → (∀ x ∈ ds, 0 ≤ x ∧ x ≤ 5) → (tabs ss (pad5 ds)).length = cntL ss ds
  | [], ds, _, _, _ => by
    rw [tabs, cntL, pad_all]
    split <;> simp
  | z :: ss, ds, hs, hd, hB => by
    have h32 : 2 ^ ds.length ≤ 32 := Nat.pow_le_pow_right (n := 2) (by decide) hd
    have hc0 : atL (pad5 ds) 1 5 < 32 := atL_lt _ 1 5 (Nat.le_refl 5)
    rw [tabs, cntL, flat_sum, sum_filter, prtL, sum_filter, sum_range_more _ (2 ^ ds.length) 64 (by omega) ?_]
    · congr 1
      apply List.map_congr_left
      intro s hsr
      rw [List.mem_range] at hsr
      have ih := fun (h : takeB z ds s = true) => tabs_cnt ss (takeN ds s) (by simp at hs; omega) (by rw [takeN_len]; exact hd) (takeN_in hB h)
      rw [List.length_map, less_pad hd hsr]
      have hsub := sub_bits (a := s) (b := atL (pad5 ds) 1 5) (by omega) hc0
      have hnd : atL (pad5 ds) ((ss.length + 1 : Nat) : Int) 5 < 32 := atL_lt _ _ 5 (Nat.le_refl 5)
      have hle := leG32_fin ⟨_, hnd⟩ ⟨s, by omega⟩
      have hneed := sub_bits (a := atL (pad5 ds) ((ss.length + 1 : Nat) : Int) 5) (b := s) hnd (by omega)
      have hok : okC (pad5 ds) (ss.length + 1) z s = (decide (pop (s : Int) = z) && (atL (pad5 ds) ((ss.length + 1 : Nat) : Int) 5 &&& s == atL (pad5 ds) ((ss.length + 1 : Nat) : Int) 5)) := by
        rw [okC]; exact congrArg _ hle
      rw [hok]
      by_cases ht : takeB z ds s = true
      · rw [if_pos ht, ← ih ht]
        obtain ⟨t1, t2⟩ := takeB_iff.1 ht
        have e1 : (s &&& atL (pad5 ds) 1 5 == s) = true := hsub.2 (fun v hv hb => by
          rw [atL_bit, pad5_at]
          simp only [Bool.and_eq_true, decide_eq_true_eq]
          refine ⟨hv, ?_⟩
          by_cases h : v < ds.length
          · have := t2 v h
            rw [bitI, if_pos hb] at this
            omega
          · have : s.testBit v = false := Nat.testBit_lt_two_pow (Nat.lt_of_lt_of_le hsr (Nat.pow_le_pow_right (by decide) (by omega)))
            rw [this] at hb; cases hb)
        rw [if_pos e1]
        by_cases e2 : (atL (pad5 ds) ((ss.length + 1 : Nat) : Int) 5 &&& s == atL (pad5 ds) ((ss.length + 1 : Nat) : Int) 5) = true
        · rw [e2, decide_eq_true t1]; simp
        · have e3 : (atL (pad5 ds) ((ss.length + 1 : Nat) : Int) 5 &&& s == atL (pad5 ds) ((ss.length + 1 : Nat) : Int) 5) = false := by simpa using e2
          rw [e3]
          simp only [Bool.and_false, Bool.false_eq_true, if_false]
          -- some member is wanted by more clubs than are left
          have : ∃ v, v < 5 ∧ (atL (pad5 ds) ((ss.length + 1 : Nat) : Int) 5).testBit v = true ∧ s.testBit v = false := Classical.byContradiction (fun hno => e2 (hneed.2 (fun v hv hb => by
            cases h : s.testBit v
            · exact absurd ⟨v, hv, hb, h⟩ hno
            · rfl)))
          obtain ⟨v, hv, hb, hsv⟩ := this
          rw [atL_bit, pad5_at] at hb
          simp only [Bool.and_eq_true, decide_eq_true_eq] at hb
          have hvl : v < ds.length := by
            by_cases h : v < ds.length
            · exact h
            · rw [List.getElem?_eq_none (l := ds) (by omega)] at hb
              simp at hb; omega
          rw [ih ht]
          refine (cnt_many ss _ v (by rw [takeN_len]; exact hvl) ?_).symm
          rw [takeN_at _ _ _ hvl, bitI, hsv]
          have := hb.2
          simp; omega
      · rw [if_neg ht]
        by_cases e1 : (s &&& atL (pad5 ds) 1 5 == s) = true
        · rw [if_pos e1]
          have h2 := hsub.1 e1
          by_cases t1 : pop (s : Int) = z
          · exfalso
            refine ht (takeB_iff.2 ⟨t1, fun v hv => ?_⟩)
            have hb := hB _ (at_mem hv)
            rw [bitI]
            split
            · rename_i hsv
              have := h2 v (by omega) hsv
              rw [atL_bit, pad5_at] at this
              simp only [Bool.and_eq_true, decide_eq_true_eq] at this
              omega
            · omega
          · rw [decide_eq_false t1]; simp
        · rw [if_neg e1]
    · intro s h1 h2
      split
      · rename_i e1
        exfalso
        have hs32 : s < 32 := by
          have : s &&& atL (pad5 ds) 1 5 = s := by simpa using e1
          rw [← this]; exact Nat.lt_of_le_of_lt Nat.and_le_right hc0
        have h3 := (sub_bits hs32 hc0).1 e1
        obtain ⟨v, hv1, hv2⟩ := Nat.exists_ge_and_testBit_of_ge_two_pow h1
        have hv5 : v < 5 := by
          by_cases h : v < 5
          · exact h
          · have : s.testBit v = false := Nat.testBit_lt_two_pow (Nat.lt_of_lt_of_le (show s < 2 ^ 5 from hs32) (Nat.pow_le_pow_right (by decide) (by omega)))
            rw [this] at hv2; cases hv2
        have h4 := h3 v hv5 hv2
        rw [atL_bit, pad5_at, List.getElem?_eq_none (l := ds) (by omega)] at h4
        simp at h4
      · rfl

end Go.Proofs.YtbiggilheicfjaaDoor
