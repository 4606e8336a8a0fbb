/- It is proved that members that may leave first may leave later, too, so that the first choice needs no way back; conditions: those of each statement. -/
import Derived.RowKit
import Derived.Laws.CopyRow
import Derived.Lib.SlBuf
import Derived.Deep.QuietTactic
import Derived.RangeFuncNested
import Derived.RangeFuncBound
import Derived.RangeFuncCalls
import Derived.RangeFuncLeaves
import Derived.RangeFuncBox
import Derived.RangeFuncWrites
import Derived.StillTailTactics
import Derived.Maps.OwnIn
import Derived.Maps.Ext
import Derived.DeepKeys4
import Derived.MapKept
import Derived.Test.YtnpfdgbbcapnkaaDoorRows
import Derived.WalkKit
import Derived.WalkSpells
import Derived.ProofKit
import Derived.OpenShut
import Derived.ShutString
import Derived.ChangeOld
import Derived.Below
import Derived.Deep.RegionHeld3
import Derived.BigQuiet
import Derived.Lib.Hide
import Derived.Lib.SmallJoins
import Derived.Outline
import Derived.Laws.MakeOwn
import Derived.Laws.OwnMore
import Derived.IntWalk
import Derived.Lib.AppendZeros
import Derived.Maps.AppendAt
import Derived.Deep.AppendLies
import Derived.OwnWalk
import Derived.Lib.SlicesCompact
import Derived.Lib.OwnBridge
import Derived.OrdersIn
import Derived.TacticsIn
import Derived.Shelf.Sort.Plain
import Derived.Shelf.Slices.In.SortNone
import Derived.Shelf.Slices.CompactI
import Derived.Ground.Names2Prog
import Derived.Lib.SliceRun
import Derived.Shelf.Abstract
import Derived.Shelf.RegionOpen
import Derived.OwnWalkIn
import Derived.TacticsInMore
import Derived.LoopNIn
import Derived.LoopIn
import Derived.StillTail
import Derived.StillTactics
import Derived.Shelf.Spec.TrailingZeros
import Derived.Test.YtnpfdgbbcapnkaaDoorRbab
import Derived.Test.YtnpfdgbbcapnkaaDoorRbaf
import Derived.Test.YtnpfdgbbcapnkaaDoorRbak
import Derived.Test.YtnpfdgbbcapnkaaDoorRbag
import Derived.Test.YtnpfdgbbcapnkaaDoorRbah
import Derived.Test.YtnpfdgbbcapnkaaDoorRbaa
import Derived.Deep.RegionLaw
namespace Go.Proofs.YtnpfdgbbcapnkaaDoor
open Go.RowKit

/-- All members of the clubs with a member. -/
def arN (v : Nat) (zs : List Int) : Nat := (zs.filter (Bt v)).foldl (fun t z => t ||| z.toNat) 0

theorem arN_snoc (v : Nat) (zs : List Int) (z : Int) : arN v (zs ++ [z]) = if Bt v z = true then arN v zs ||| z.toNat else arN v zs := by
  unfold arN
  rw [List.filter_append]
  cases h : Bt v z <;> simp [h]

theorem fold_bit (i : Nat) : ∀ (l : List Int) (t : Nat), (l.foldl (fun t z => t ||| z.toNat) t).testBit i = (t.testBit i || l.any (Bt i))
  | [], t => by simp
  | z :: l, t => by rw [List.foldl_cons, fold_bit i l, Nat.testBit_or, List.any_cons, Bool.or_assoc]; rfl

theorem arN_bit (v : Nat) (zs : List Int) (i : Nat) : (arN v zs).testBit i = true ↔ ∃ z ∈ zs, Bt v z = true ∧ Bt i z = true := by
  unfold arN
  rw [fold_bit, Nat.zero_testBit, Bool.false_or, List.any_eq_true]
  constructor
  · rintro ⟨z, hz, hb⟩
    obtain ⟨h1, h2⟩ := List.mem_filter.1 hz
    exact ⟨z, h1, h2, hb⟩
  · rintro ⟨z, h1, h2, hb⟩
    exact ⟨z, List.mem_filter.2 ⟨h1, h2⟩, hb⟩

theorem arN_lt {m v : Nat} {zs : List Int} (hS : Sets m zs) : arN v zs < 2 ^ m := by
  apply Nat.lt_pow_two_of_testBit
  intro i hi
  cases hb : (arN v zs).testBit i
  · rfl
  · obtain ⟨z, hz, _, h2⟩ := (arN_bit v zs i).1 hb
    have := bt_lt (hS z hz).2 h2
    omega

/-- A member may leave: one club with it has all the clubs with it, or none has it. -/
def leavB (v : Nat) (zs : List Int) : Bool := decide (arN v zs = 0) || zs.any fun z => decide (z = ((arN v zs : Nat) : Int))

def Leav (v : Nat) (zs : List Int) : Prop := (∀ z ∈ zs, Bt v z = false) ∨ ∃ M ∈ zs, Bt v M = true ∧ ∀ z ∈ zs, Bt v z = true → subZ z M
theorem leav_iff {m v : Nat} {zs : List Int} (hS : Sets m zs) : leavB v zs = true ↔ Leav v zs := by
  unfold leavB
  rw [Bool.or_eq_true, decide_eq_true_eq, List.any_eq_true]
  constructor
  · rintro (h | ⟨z, hz, he⟩)
    · left
      intro z hz
      cases hb : Bt v z
      · rfl
      · have := (arN_bit v zs v).2 ⟨z, hz, hb, hb⟩
        rw [h, Nat.zero_testBit] at this; cases this
    · have he' := of_decide_eq_true he
      by_cases h0 : arN v zs = 0
      · left
        intro y hy
        cases hb : Bt v y
        · rfl
        · have := (arN_bit v zs v).2 ⟨y, hy, hb, hb⟩
          rw [h0, Nat.zero_testBit] at this; cases this
      · right
        obtain ⟨i, hi⟩ := Nat.exists_testBit_of_ne_zero h0
        obtain ⟨y, hy, hv, _⟩ := (arN_bit v zs i).1 hi
        refine ⟨z, hz, ?_, fun x hx hxv => ?_⟩
        · unfold Bt
          rw [he', Int.toNat_natCast]
          exact (arN_bit v zs v).2 ⟨y, hy, hv, hv⟩
        · unfold subZ
          apply Nat.eq_of_testBit_eq
          intro j
          rw [Nat.testBit_and]
          cases hj : x.toNat.testBit j
          · simp
          · have : z.toNat.testBit j = true := by
              rw [he', Int.toNat_natCast]
              exact (arN_bit v zs j).2 ⟨x, hx, hxv, hj⟩
            rw [this]; rfl
  · rintro (h | ⟨M, hM, hv, hs⟩)
    · left
      apply Nat.eq_of_testBit_eq
      intro i
      rw [Nat.zero_testBit]
      cases hb : (arN v zs).testBit i
      · rfl
      · obtain ⟨z, hz, h1, _⟩ := (arN_bit v zs i).1 hb
        rw [h z hz] at h1; cases h1
    · right
      refine ⟨M, hM, decide_eq_true ?_⟩
      have h0 := (hS M hM).1
      have e : M.toNat = arN v zs := by
        apply Nat.eq_of_testBit_eq
        intro i
        rw [Bool.eq_iff_iff, arN_bit]
        constructor
        · exact fun hi => ⟨M, hM, hv, hi⟩
        · rintro ⟨z, hz, h1, h2⟩
          exact subZ_bit (hs z hz h1) h2
      omega

theorem leav_keeps {m : Nat} (hm : m ≤ 6) {zs : List Int} (hS : Sets m zs) {u v : Nat} (hu : u < 6) (hv : v < 6) (hne : u ≠ v) (h : Leav u zs) : Leav u (zs.map (woZ v)) := by
  have hl : ∀ z ∈ zs, z.toNat < 64 := fun z hz => p64 hm (hS z hz).2
  rcases h with h | ⟨M, hM, hb, hs⟩
  · left
    intro z hz
    obtain ⟨x, hx, rfl⟩ := List.mem_map.1 hz
    rw [woZ_bit (hl x hx) hu hv, h x hx]; rfl
  · right
    refine ⟨woZ v M, List.mem_map.2 ⟨M, hM, rfl⟩, ?_, fun z hz hzb => ?_⟩
    · rw [woZ_bit (hl M hM) hu hv, hb, decide_eq_true hne]; rfl
    · obtain ⟨x, hx, rfl⟩ := List.mem_map.1 hz
      rw [woZ_bit (hl x hx) hu hv, Bool.and_eq_true] at hzb
      exact woZ_mono v (hs x hx hzb.1)

/-- The members that are left, without one. -/
def lessP (t v : Nat) : Nat := woP t v

set_option maxRecDepth 100000 in
theorem less_fin : ∀ t : Fin 64, ∀ v : Fin 6, ∀ i : Fin 6, (lessP t.val v.val).testBit i.val = (t.val.testBit i.val && decide (i.val ≠ v.val)) := by decide +kernel

set_option maxRecDepth 100000 in
theorem less_lt_fin : ∀ t : Fin 64, ∀ v : Fin 6, lessP t.val v.val < 64 ∧ (t.val.testBit v.val = true → (memK 6 (lessP t.val v.val)).length + 1 = (memK 6 t.val).length) := by decide +kernel

theorem less_bit {t : Nat} (ht : t < 64) {v i : Nat} (hv : v < 6) (hi : i < 6) : (lessP t v).testBit i = (t.testBit i && decide (i ≠ v)) := less_fin ⟨t, ht⟩ ⟨v, hv⟩ ⟨i, hi⟩
theorem less_lt {t : Nat} (ht : t < 64) {v : Nat} (hv : v < 6) : lessP t v < 64 := (less_lt_fin ⟨t, ht⟩ ⟨v, hv⟩).1
theorem less_cnt {t : Nat} (ht : t < 64) {v : Nat} (hv : v < 6) (hb : t.testBit v = true) : (memK 6 (lessP t v)).length + 1 = (memK 6 t).length := (less_lt_fin ⟨t, ht⟩ ⟨v, hv⟩).2 hb
theorem bit_six {t : Nat} (ht : t < 64) {i : Nat} (h : t.testBit i = true) : i < 6 := by
  by_cases e : i < 6
  · exact e
  · rw [Nat.testBit_lt_two_pow (Nat.lt_of_lt_of_le ht (Nat.le_trans (show 64 ≤ 2 ^ 6 by decide) (Nat.pow_le_pow_right (n := 2) (by decide) (show 6 ≤ i by omega))))] at h; cases h

theorem less_comm {t : Nat} (ht : t < 64) {u v : Nat} (hu : u < 6) (hv : v < 6) : lessP (lessP t u) v = lessP (lessP t v) u := by
  apply Nat.eq_of_testBit_eq
  intro i
  by_cases hi : i < 6
  · rw [less_bit (less_lt ht hu) hv hi, less_bit ht hu hi, less_bit (less_lt ht hv) hu hi, less_bit ht hv hi, Bool.and_assoc, Bool.and_assoc, Bool.and_comm (decide (i ≠ u))]
  · have h1 : ∀ s, s < 64 → s.testBit i = false := fun s hs => by
      cases hb : s.testBit i
      · rfl
      · exact (hi (bit_six hs hb)).elim
    rw [h1 _ (less_lt (less_lt ht hu) hv), h1 _ (less_lt (less_lt ht hv) hu)]

/-- All that are left may leave, in some order. -/
inductive Ex : List Int → Nat → Prop
  | nil (zs : List Int) : Ex zs 0
  | cons {zs : List Int} {t : Nat} (v : Nat) (hv : t.testBit v = true) (hl : Leav v zs) (h : Ex (zs.map (woZ v)) (lessP t v)) : Ex zs t

theorem Ex.first {m : Nat} (hm : m ≤ 6) {zs : List Int} {t : Nat} (h : Ex zs t) : ∀ (_ : Sets m zs) (_ : t < 64) (u : Nat) (_ : t.testBit u = true) (_ : Leav u zs), Ex (zs.map (woZ u)) (lessP t u) := by
  induction h with
  | nil zs => exact fun _ _ u hu _ => by rw [Nat.zero_testBit] at hu; cases hu
  | @cons zs t v hv hl h ih =>
    intro hS ht u hu hlu
    have hu6 := bit_six ht hu
    have hv6 := bit_six ht hv
    by_cases e : u = v
    · subst e; exact h
    · have h1 := ih (woZ_sets hS) (less_lt ht hv6) u (by rw [less_bit ht hv6 hu6, hu, decide_eq_true e]; rfl) (leav_keeps hm hS hu6 hv6 e hlu)
      refine .cons v (by rw [less_bit ht hu6 hv6, hv, decide_eq_true (p := v ≠ u) (fun e' => e e'.symm)]; rfl) (leav_keeps hm hS hv6 hu6 (fun e' => e e'.symm) hl) ?_
      have e1 : (zs.map (woZ u)).map (woZ v) = (zs.map (woZ v)).map (woZ u) := by
        rw [List.map_map, List.map_map]
        exact List.map_congr_left fun z _ => woZ_comm v u z
      rw [e1, less_comm ht hu6 hv6]
      exact h1

/-- The order that takes the first one that may leave, again and again. -/
def ordN : Nat → List Int → Nat → Option (List Int)
  | 0, _, t => if t = 0 then some [] else none
  | f + 1, zs, t => if t = 0 then some [] else match (memK 6 t).find? fun v => leavB v zs with
    | none => none
    | some v => (ordN f (zs.map (woZ v)) (lessP t v)).map fun l => (v : Int) :: l

theorem mem_six {t v : Nat} : v ∈ memK 6 t ↔ v < 6 ∧ t.testBit v = true := by simp [memK]
theorem ord_some {m : Nat} (hm : m ≤ 6) : ∀ (f : Nat) (zs : List Int) (t : Nat), Sets m zs → t < 64 → (memK 6 t).length ≤ f → ((ordN f zs t).isSome = true ↔ Ex zs t)
  | 0, zs, t, _, ht, hc => by
    have : t = 0 := by
      by_cases e : t = 0
      · exact e
      · obtain ⟨i, hi⟩ := Nat.exists_testBit_of_ne_zero e
        have := List.length_pos_of_mem (mem_six.2 ⟨bit_six ht hi, hi⟩)
        omega
    subst this
    exact ⟨fun _ => .nil _, fun _ => rfl⟩
  | f + 1, zs, t, hS, ht, hc => by
    unfold ordN
    by_cases e : t = 0
    · subst e; exact ⟨fun _ => .nil _, fun _ => rfl⟩
    · rw [if_neg e]
      cases hf : (memK 6 t).find? fun v => leavB v zs with
      | none =>
        refine ⟨fun h => (by cases h), fun h => ?_⟩
        cases h with
        | nil _ => exact (e rfl).elim
        | cons v hv hl _ =>
          have := List.find?_eq_none.1 hf v (mem_six.2 ⟨bit_six ht hv, hv⟩)
          exact (this ((leav_iff hS).2 hl)).elim
      | some v =>
        obtain ⟨hv6, hv⟩ := mem_six.1 (List.mem_of_find?_eq_some hf)
        have hl := (leav_iff hS).1 (List.find?_some (p := fun v => leavB v zs) hf)
        have ih := ord_some hm f (zs.map (woZ v)) (lessP t v) (woZ_sets hS) (less_lt ht hv6) (by have := less_cnt ht hv6 hv; omega)
        show ((ordN f (zs.map (woZ v)) (lessP t v)).map _).isSome = true ↔ _
        rw [Option.isSome_map, ih]
        exact ⟨fun h => .cons v hv hl h, fun h => h.first hm hS ht v hv hl⟩

/-- No way back is needed. -/
theorem ord_same {m : Nat} (hm : m ≤ 6) {f : Nat} {zs : List Int} {t : Nat} (hS : Sets m zs) (ht : t < 64) (hc : (memK 6 t).length ≤ f + 1) {v : Nat} (hv : t.testBit v = true) (hl : leavB v zs = true) :
    (ordN (f + 1) zs t).isSome = (ordN f (zs.map (woZ v)) (lessP t v)).isSome := by
  have hv6 := bit_six ht hv
  have h1 := ord_some hm (f + 1) zs t hS ht hc
  have h2 := ord_some hm f (zs.map (woZ v)) (lessP t v) (woZ_sets hS) (less_lt ht hv6) (by have := less_cnt ht hv6 hv; omega)
  rw [Bool.eq_iff_iff, h1, h2]
  exact ⟨fun h => h.first hm hS ht v hv ((leav_iff hS).1 hl), fun h => .cons v hv ((leav_iff hS).1 hl) h⟩

theorem ord_len {m : Nat} (hm : m ≤ 6) : ∀ (f : Nat) (zs : List Int) (t : Nat) (l : List Int), Sets m zs → t < 64 → (memK 6 t).length ≤ f → ordN f zs t = some l → l.length = (memK 6 t).length
  | 0, zs, t, l, _, ht, hc, h => by
    unfold ordN at h
    split at h
    · rename_i e; subst e; cases h; rfl
    · cases h
  | f + 1, zs, t, l, hS, ht, hc, h => by
    unfold ordN at h
    by_cases e : t = 0
    · subst e; rw [if_pos rfl] at h; cases h; rfl
    · rw [if_neg e] at h
      cases hf : (memK 6 t).find? fun v => leavB v zs with
      | none => rw [hf] at h; cases h
      | some v =>
        rw [hf] at h
        obtain ⟨hv6, hv⟩ := mem_six.1 (List.mem_of_find?_eq_some hf)
        have hcn := less_cnt ht hv6 hv
        obtain ⟨r, hr, rfl⟩ := Option.map_eq_some_iff.1 h
        have ih := ord_len hm f (zs.map (woZ v)) (lessP t v) r (woZ_sets hS) (less_lt ht hv6) (by omega) hr
        rw [List.length_cons]
        omega

end Go.Proofs.YtnpfdgbbcapnkaaDoor

/- It is proved what named and its closure return; conditions: those of each statement. -/
namespace Go.Proofs.YtnpfdgbbcapnkaaDoor
open Go.RowKit Go.Shelf

attribute [local go_sem] Oper.semAt_some

/-- Members called by names, as a set. -/
def nm (ps : List Int) (us : List Nat) : Nat := us.foldl (fun t v => t ||| 2 ^ (ps[v]?.getD 0).toNat) 0

theorem nm_snoc (ps : List Int) (us : List Nat) (u : Nat) : nm ps (us ++ [u]) = nm ps us ||| 2 ^ (ps[u]?.getD 0).toNat := by simp [nm]
/-- A set called by names. -/
def called (ps : List Int) (s : Nat) : Nat := nm ps (mem s)

end Go.Proofs.YtnpfdgbbcapnkaaDoor

/- It is proved what has, namesIn, l1Names and l1Called return; conditions: those of each statement. -/
namespace Go.Proofs.YtnpfdgbbcapnkaaDoor
open Go.RowKit

set_option maxRecDepth 100000 in
theorem has_fin : ∀ x : Fin 64, ∀ p : Fin 6, (bits BinOp.and IntKind.i64 ((x.val : Int) / 2 ^ p.val) 1 == 1) = x.val.testBit p.val := by decide +kernel

theorem has_any (x p : Nat) (hx : x < 64) (hp : p < 6) (w : World) :
    Calls Tryd.prog 110 #[.int .i64 (x : Int), .int .i64 (p : Int)] w fun e w' => e = .returned (.bool (x.testBit p)) ∧ w = w' := by
  have HH := Lib.hid (has_fin ⟨x, hx⟩ ⟨p, hp⟩)
  simp only at HH
  go_enter Tryd.func110, Tryd.ntmps110
  go_wp2
  go_ret
  exact ⟨by rw [← HH.out]; rfl, rfl⟩

theorem seen_full (m d : Nat) : (((d : Nat) : Int) == 2 ^ m - 1) = decide (d = 2 ^ m - 1) := by
  have h : (1 : Nat) ≤ 2 ^ m := Nat.one_le_two_pow
  have h2 : ((2 : Int) ^ m) = ((2 ^ m : Nat) : Int) := by simp
  rw [h2]
  by_cases hd : d = 2 ^ m - 1
  · rw [decide_eq_true hd, beq_iff_eq]; omega
  · rw [decide_eq_false hd, beq_eq_false_iff_ne]; omega

/-- What is called after v members. -/
def cal (ps : List Int) (s v : Nat) : Nat := (List.range v).foldl (fun t u => t ||| (((s >>> u) &&& 1) * 2 ^ (ps[u]?.getD 0).toNat)) 0

theorem cal_succ (ps : List Int) (s v : Nat) : cal ps s (v + 1) = cal ps s v ||| (((s >>> v) &&& 1) * 2 ^ (ps[v]?.getD 0).toNat) := by simp [cal, List.range_succ]
set_option maxRecDepth 100000 in
theorem mem_range : ∀ m, m ≤ 6 → ∀ s, s < 2 ^ m → mem s = (List.range m).filter fun i => s.testBit i := by decide +kernel

set_option maxRecDepth 100000 in
theorem bit_if : ∀ s, s < 64 → ∀ u, u < 6 → ((s >>> u) &&& 1) = if s.testBit u then 1 else 0 := by decide +kernel

theorem cal_called (m : Nat) (hm : m ≤ 6) (ps : List Int) (s : Nat) (hs : s < 2 ^ m) : cal ps s m = called ps s := by
  have hs64 : s < 64 := Nat.lt_of_lt_of_le hs (Nat.pow_le_pow_right (by decide) hm : 2 ^ m ≤ 2 ^ 6)
  have key : ∀ v, v ≤ m → cal ps s v = nm ps ((List.range v).filter fun i => s.testBit i) := by
    intro v
    induction v with
    | zero => intro _; rfl
    | succ v ih =>
      intro hv
      rw [cal_succ, ih (by omega), List.range_succ, List.filter_append, bit_if s hs64 v (by omega)]
      cases hb : s.testBit v
      · simp [hb]
      · simp only [List.filter_cons, hb, if_true, List.filter_nil, nm_snoc, Nat.one_mul]
  rw [key m (Nat.le_refl _), called, mem_range m hm s hs]

end Go.Proofs.YtnpfdgbbcapnkaaDoor

/- It is proved what CoverSmall of the program and of the reference model returns; conditions: those of each statement. -/
namespace Go.Proofs.YtnpfdgbbcapnkaaDoor
open Go.RowKit

theorem at_in {xs : List Int} {k : Nat} (h : k < xs.length) : xs[k]?.getD 0 ∈ xs := by
  rw [List.getElem?_eq_getElem h]; exact List.getElem_mem _

end Go.Proofs.YtnpfdgbbcapnkaaDoor

/- It is proved what the FamilyDrop of the model returns; conditions: those of each statement. -/
namespace Go.Proofs.YtnpfdgbbcapnkaaDoor
open Go.RowKit

theorem app_run_n {w : World} {B n k : Nat} {v : Value} {xs : List Value} (h : w.ownsRow B 3 1 v n xs) (hB : B ≤ w.heap.size) (a : Option Addr) (c : Nat) (zs : List Int) (hk : zs.length = k) (hz : Ints w w.heap.size a zs) (hn : n ≤ 1048576) (hzn : k ≤ 1048576) :
    ∃ a' c' w', (Builtin.append_ #[23, 23] 23 #[v, .slice a k c]).run Tryd.prog w = .ok (.slice a' (n + k) c') w' ∧
      w'.ownsRow B 3 1 (.slice a' (n + k) c') (n + k) (xs ++ zs.map (Value.int .i64)) ∧ w.grownBy w' v.ownBlock := by
  subst hk
  exact app_run h hB a c zs hz hn hzn

/-- An append whose run is known, as a step of a region that draws. -/
theorem step_run {P : Program} {w : World} {ops : Array Oper} {o : Oper} {a : Act} {K : Act → World → Prop} {Q : Exit → Act → World → Prop} {E : Prop} (hgd : o.guard = none) (s x : Operand) (t tn : TypeId)
    (ho : o.op = .call { callee := .builtin .append, args := #[s, x], argTypes := #[t, tn] }) (vs vx : Value) (hs : a.eval s = vs) (hx : a.eval x = vx)
    (v' : Value) (w' : World) (hr : (Builtin.append_ #[t, tn] o.type #[vs, vx]).run P w = .ok v' w') (h : K (a.put o.dst v') w') :
    if Region.wanted o (yielded ops a.tmps) = true then Oper.wp P o a w K Q else E := by
  rw [if_pos (by simp [Region.wanted, hgd])]
  exact Lib.wp_append_run w s x t tn ho vs vx hs hx v' w' hr h

theorem step_run2 {P : Program} {w : World} {ops : Array Oper} {o : Oper} {a : Act} {K : Act → World → Prop} {Q : Exit → Act → World → Prop} {E : Prop} (hgd : o.guard = none) (s x : Operand) (t tn : TypeId)
    (ho : o.op = .call { callee := .builtin .append, args := #[s, x], argTypes := #[t, tn] }) (vs vx : Value) (hs : a.eval s = vs) (hx : a.eval x = vx)
    (h : ∃ v' w', (Builtin.append_ #[t, tn] o.type #[vs, vx]).run P w = .ok v' w' ∧ K (a.put o.dst v') w') :
    if Region.wanted o (yielded ops a.tmps) = true then Oper.wp P o a w K Q else E := by
  obtain ⟨v', w', hr, hk⟩ := h
  exact step_run hgd s x t tn ho vs vx hs hx v' w' hr hk

end Go.Proofs.YtnpfdgbbcapnkaaDoor

/- It is proved what the FamilyPut of the model returns; conditions: those of each statement. -/
namespace Go.Proofs.YtnpfdgbbcapnkaaDoor
open Go.RowKit

theorem app_run0 {w : World} {B : Nat} {v : Value} (h : OwnI w B v []) (hB : B ≤ w.heap.size) (a : Option Addr) (c : Nat) (zs : List Int) (hz : Ints w w.heap.size a zs) (_hn : 0 ≤ 1048576) (hzn : zs.length ≤ 1048576) :
    ∃ a' c' w', (Builtin.append_ #[23, 23] 23 #[v, .slice a zs.length c]).run Tryd.prog w = .ok (.slice a' zs.length c') w' ∧
      w'.ownsRow B 3 1 (.slice a' zs.length c') zs.length (zs.map (Value.int .i64)) ∧ w.grownBy w' v.ownBlock := by
  have := app_run (n := 0) (xs := []) h hB a c zs hz (by omega) hzn
  simpa using this

end Go.Proofs.YtnpfdgbbcapnkaaDoor

/- It is proved what l1Put returns; conditions: the bounds in each statement. -/
namespace Go.Proofs.YtnpfdgbbcapnkaaDoor
open Go.RowKit

/-- What l1Put comes to. -/
def PutPost (w : World) (b off n c : Nat) (zs : List Int) (x : Int) (e : Ending) (w' : World) : Prop :=
  ∃ k, k ≤ n ∧ (∀ j, k ≤ j → j < n → x < zs[j]?.getD 0) ∧
    ((∃ k', k = k' + 1 ∧ zs[k']?.getD 0 = x ∧ e = .returned (.slice (some ⟨b, off, none⟩) n c) ∧ w' = w) ∨
     ((∀ k', k = k' + 1 → zs[k']?.getD 0 < x) ∧ ∃ a' c', e = .returned (.slice a' (n + 1) c') ∧ OwnN w' w.heap.size a' (n + 1) c' (zs.take k ++ [x] ++ zs.drop k) ∧ Below w.heap.size w w'))

theorem app_run0n {w : World} {B k : Nat} {v : Value} (h : OwnI w B v []) (hB : B ≤ w.heap.size) (a : Option Addr) (c : Nat) (zs : List Int) (hk : zs.length = k) (hz : Ints w w.heap.size a zs) (hzn : k ≤ 1048576) :
    ∃ a' c' w', (Builtin.append_ #[23, 23] 23 #[v, .slice a k c]).run Tryd.prog w = .ok (.slice a' k c') w' ∧
      w'.ownsRow B 3 1 (.slice a' k c') k (zs.map (Value.int .i64)) ∧ w.grownBy w' v.ownBlock := by
  subst hk
  exact app_run0 h hB a c zs hz (by omega) hzn

theorem app_run_t {w : World} {B n k t : Nat} {v : Value} {xs : List Value} (h : w.ownsRow B 3 1 v n xs) (hB : B ≤ w.heap.size) (a : Option Addr) (c : Nat) (zs : List Int) (hk : zs.length = k) (hz : Ints w w.heap.size a zs) (ht : n + k = t) (hn : n ≤ 1048576) (hzn : k ≤ 1048576) :
    ∃ a' c' w', (Builtin.append_ #[23, 23] 23 #[v, .slice a k c]).run Tryd.prog w = .ok (.slice a' t c') w' ∧
      w'.ownsRow B 3 1 (.slice a' t c') t (xs ++ zs.map (Value.int .i64)) ∧ w.grownBy w' v.ownBlock := by
  subst ht
  exact app_run_n h hB a c zs hk hz hn hzn

end Go.Proofs.YtnpfdgbbcapnkaaDoor

/- It is proved that a family of chapter 5, drawn from bytes and written again, is the call's own; conditions: those of each statement. -/
namespace Go.Proofs.YtnpfdgbbcapnkaaDoor
open Go.RowKit

theorem own_wr {w : World} {B : Nat} {a : Option Addr} {n c k : Nat} {zs : List Int} (h : OwnI w B (.slice a n c) zs) (hk : k < zs.length) :
    ∃ g, a = some ⟨g, 0, none⟩ ∧ B ≤ g ∧ g < w.heap.size ∧ w.cell? ⟨g, k, none⟩ = some (.int .i64 (zs[k]?.getD 0)) ∧ w.frozen? ⟨g, k, none⟩ = false ∧
      ∀ x, OwnI (w.setCell ⟨g, k, none⟩ (.int .i64 x)) B (.slice a n c) (zs.set k x) := by
  have h' := h
  rcases h.2 with ⟨h2, hn⟩ | ⟨g, cap, cur, e, hb, hg, hnc, hcm, hcs, hct⟩
  · omega
  · injection e with e1 e2 e3
    subst e1
    simp only [Nat.mul_one] at hct hcs
    have hcell : cur[k]? = some (.int .i64 (zs[k]?.getD 0)) := by
      have : (cur.toList.take zs.length)[k]? = (zs.map (Value.int .i64))[k]? := by rw [hct]
      rw [List.getElem?_take_of_lt hk, Array.getElem?_toList] at this
      rw [this, List.getElem?_map]
      simp [hk]
    refine ⟨g, rfl, hb, (Array.getElem?_eq_some_iff.1 hg).1, ?_, ?_, fun x => ?_⟩
    · exact (blk_cell hg k).trans hcell
    · exact blk_frozen hg _
    · refine ⟨by simp, .inr ⟨g, cap, cur.setIfInBounds k (.int .i64 x), by rw [List.length_set, e2, e3], hb, heap_setCell_same w g k cur 3 _ hg, by rw [List.length_set]; exact hnc, hcm, by simp [hcs], ?_⟩⟩
      rw [List.length_set, Nat.mul_one, Array.toList_setIfInBounds, List.take_set, hct, List.map_set]

end Go.Proofs.YtnpfdgbbcapnkaaDoor
