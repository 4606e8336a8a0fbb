/- It is proved what triedCovers returns; conditions: those of each statement. -/
import Derived.RowKit
import Derived.Laws.CopyRow
import Derived.Lib.SlBuf
import Derived.Deep.QuietTactic
import Derived.RangeFuncNested
import Derived.RangeFuncBound
import Derived.RangeFuncCalls
import Derived.RangeFuncLeaves
import Derived.RangeFuncBox
import Derived.RangeFuncWrites
import Derived.StillTailTactics
import Derived.Maps.OwnIn
import Derived.Maps.Ext
import Derived.DeepKeys4
import Derived.MapKept
import Derived.Test.YtacglafoahmcnaaDoorRows
import Derived.WalkKit
import Derived.WalkSpells
import Derived.ProofKit
import Derived.OpenShut
import Derived.ShutString
import Derived.ChangeOld
import Derived.Below
import Derived.Deep.RegionHeld3
import Derived.BigQuiet
import Derived.Lib.Hide
import Derived.Lib.SmallJoins
import Derived.Outline
import Derived.Laws.MakeOwn
import Derived.Laws.OwnMore
import Derived.IntWalk
import Derived.Lib.AppendZeros
import Derived.Maps.AppendAt
import Derived.Deep.AppendLies
import Derived.OwnWalk
import Derived.Lib.SlicesCompact
import Derived.Lib.OwnBridge
import Derived.OrdersIn
import Derived.TacticsIn
import Derived.Shelf.Sort.Plain
import Derived.Shelf.Slices.In.SortNone
import Derived.Shelf.Slices.CompactI
import Derived.Ground.Names2Prog
import Derived.Lib.SliceRun
import Derived.Shelf.Abstract
import Derived.Shelf.RegionOpen
import Derived.OwnWalkIn
import Derived.TacticsInMore
import Derived.LoopNIn
import Derived.LoopIn
import Derived.StillTail
import Derived.StillTactics
import Derived.Shelf.Spec.TrailingZeros
import Derived.Test.YtacglafoahmcnaaDoorRabhxFnColo
import Derived.Test.YtacglafoahmcnaaDoorRaam
import Derived.Test.YtacglafoahmcnaaDoorRaab
import Derived.Deep.RegionLaw
import Derived.Test.YtacglafoahmcnaaDoorRaaa
import Derived.Test.YtacglafoahmcnaaDoorRaag
import Derived.Test.YtacglafoahmcnaaDoorRaah
import Derived.Test.YtacglafoahmcnaaDoorRaal
import Derived.Test.YtacglafoahmcnaaDoorRabaxFnColo
import Derived.Test.YtacglafoahmcnaaDoorYa
import Derived.Test.YtacglafoahmcnaaDoorRaazxFnColo
import Derived.Deep.LoopGhost
namespace Go.Proofs.YtacglafoahmcnaaDoor
open Go.RowKit Go.Shelf

attribute [local go_sem] Oper.semAt_some

theorem FamBox.ownF {β : Type} {B D lo : Nat} (hD : D < B) (m : Int) (f : β → List Int) : OwnF B (fun s W => FamBox D lo m (f s) W) := by
  rintro s X Y row ⟨v, hv, hr⟩ hg hrow
  refine ⟨v, hv.kept hg (fun e' => ?_), hr.kept hg ?_⟩
  · have := (hrow D e').1; omega
  · rcases hr.2 with ⟨rfl, _⟩ | ⟨g, cap, cur, rfl, _, hgb, _⟩
    · exact .inl rfl
    · exact .inr fun e' => (hrow g (by simpa [Value.ownBlock] using e'.symm)).2 _ _ hgb

theorem HasBlk.ownF {β : Type} {B b : Nat} (hb : b < B) (cs : Array Value) (t : TypeId) : OwnF B (fun (_ : β) W => HasBlk W b cs t) := fun s X Y row hs hg hrow =>
  hs.kept hg (fun e' => by have := (hrow b e').1; omega)

theorem nI_len' (xs : List Nat) : (nI xs).length = xs.length := nI_len xs
theorem nI_snoc' (xs : List Nat) (x : Nat) : nI (xs ++ [x]) = nI xs ++ [(x : Int)] := by simp [nI]
end Go.Proofs.YtacglafoahmcnaaDoor

/- It is proved what grownBy of the program returns; conditions: those of each statement. -/
namespace Go.Proofs.YtacglafoahmcnaaDoor
open Go.RowKit Go.Shelf

attribute [local go_sem] Oper.semAt_some

theorem wpListIn_append_run {F : Fence} {n : Nat} {P : Program} {w : World} {ops : Array Oper} {rest : List Oper} {o : Oper} {a : Act} {Q : Exit → Act → World → Prop}
    (hg : o.guard = none) (s x : Operand) (t tn : TypeId) (hop : o.op = Op.call { callee := Callee.builtin Builtin.append, args := #[s, x], argTypes := #[t, tn] }) (vs vx : Value) (hs : a.eval s = vs) (hx : a.eval x = vx)
    {v' : Value} {w' : World} (hrun : (Builtin.append_ #[t, tn] o.type #[vs, vx]).run P w = .ok v' w') (hK : wpListIn F n P ops Q rest (a.put o.dst v') w') : wpListIn F n P ops Q (o :: rest) a w := by
  refine wpListIn_plain hg fun K hK' => ?_
  unfold Oper.wpIn
  refine ⟨?_, ?_⟩
  · simp [Oper.about, hop, resolve, Target.leads, Sem.run_pure]
  · rw [Oper.semAt_plain F _ _ (by rw [hop]; intro c hc'; cases hc')]
    simp [execOp, hop, resolve, invoke, builtin, hs, hx, hrun, Result.andThen]
    exact hK' _ _ hK

theorem appW_run {W : World} {lo n : Nat} {v : Value} {xs : List Int} (h : W.ownsRow lo 3 1 v n (xs.map (Value.int .i64))) (hlo : lo ≤ W.heap.size) (hn : n ≤ 100000) (x : Int) :
    ∃ v' w1, (Builtin.append_ #[23, 23] 23 #[v, .slice (some ⟨W.heap.size, 0, none⟩) 1 1]).run Tryd.prog (W.alloc (.cells #[.int .i64 x] 3)) = .ok v' w1 ∧ w1.ownsRow lo 3 1 v' (n + 1) (xs.map (Value.int .i64) ++ [.int .i64 x]) ∧ (W.alloc (.cells #[.int .i64 x] 3)).grownBy w1 v.ownBlock := by
  obtain ⟨i0, hi0, hz0, hz1, hz2⟩ := info_parts Tryd.info3
  have hnb := alloc_new W (.cells #[.int .i64 x] 3)
  have hsz : (W.alloc (.cells #[.int .i64 x] 3)).heap.size = W.heap.size + 1 := by simp
  obtain ⟨v', w1, hr, h2, h3, _⟩ := run_append_own (P := Tryd.prog) (W.alloc (.cells #[.int .i64 x] 3)) lo 23 23 3 i0 (.int .i64 0) 1 8 Tryd.underlying23 hi0 hz0 hz1 hz2 rfl (by decide) v n _ (World.ownsRow.alloc h _) ⟨W.heap.size, 0, none⟩ 1 1 [.int .i64 x] (by simp)
    (fun j u hu => by
      have hj : j = 0 := by have := (List.getElem?_eq_some_iff.1 hu).1; simpa using this
      subst hj
      simp at hu
      subst hu
      exact blk_cell hnb 0) (by simp [Value.oneCell']) (by simp only [maxLen]; omega) (by omega) (by omega)
  exact ⟨v', w1, hr, h2, h3⟩

end Go.Proofs.YtacglafoahmcnaaDoor

/- It is proved what slices.Index, slices.Contains and slices.Max of ints return; conditions: those of each statement. -/
namespace Go.Proofs.YtacglafoahmcnaaDoor
open Go.RowKit

/-- Where a number first stands in a list, or -1. -/
def IdxR (x : Int) (zs : List Int) (r : Int) : Prop := (r = -1 ∧ ∀ j, j < zs.length → zs[j]?.getD 0 ≠ x) ∨ ∃ k : Nat, r = (k : Int) ∧ k < zs.length ∧ zs[k]?.getD 0 = x ∧ ∀ j, j < k → zs[j]?.getD 0 ≠ x

set_option maxRecDepth 100000 in
set_option maxHeartbeats 1600000 in
theorem indexI_any (a : Option Addr) (c : Nat) (zs : List Int) (x : Int) (w : World) (ha : Ints w w.heap.size a zs) (hx : zs.length ≤ 1048576) :
    Calls Tryd.prog 143 #[.slice a zs.length c, .int .i64 x] w fun e w' => (∃ r, e = .returned (.int .i64 r) ∧ IdxR x zs r) ∧ w = w' := by
  obtain ⟨n, hn⟩ : ∃ n, n = zs.length := ⟨_, rfl⟩
  have HN := Lib.hid hn
  have HA := Lib.hid ha
  rw [← hn] at hx ⊢
  clear ha hn
  go_enter Tryd.func143, Tryd.ntmps143
  go_wp2
  go_loop [5, 8] (fun _ i => ∃ k : Nat, k ≤ n ∧ i = .int .i64 k ∧ ∀ j, j < k → zs[j]?.getD 0 ≠ x) (fun _ i => n - (intOf i).toNat)
  case atStart => exact ⟨0, Nat.zero_le _, rfl, fun j hj => by omega⟩
  case round =>
    obtain ⟨k, hk, rfl, he⟩ := hrel
    have HE := Lib.hid he
    clear he
    by_cases hlt : k < n
    · obtain ⟨b1, o1, rfl, hb1, hc1⟩ := HA.out.at_ (k := k) (by rw [← HN.out]; exact hlt)
      obtain ⟨z, hz⟩ : ∃ z, z = zs[k]?.getD 0 := ⟨_, rfl⟩
      rw [← hz] at hc1
      have HZ := Lib.hid hz
      have hki : (k : Int) < (n : Int) := by omega
      clear hz
      cases h0 : (x == z)
      · have HP : Hid (∀ j, j < k + 1 → zs[j]?.getD 0 ≠ x) := Lib.hid (fun j hj e => by
          by_cases e2 : j = k
          · subst e2; rw [← HZ.out] at e; rw [e] at h0; simp at h0
          · exact HE.out j (by omega) e)
        go_wp2
        go_round
        case rel => exact ⟨k + 1, by omega, by go_num, HP.out⟩
        case measure => simp [intOf]; omega
      · have HX : Hid (x = z) := Lib.hid (by simpa using h0)
        go_wp2
        go_ret
        exact ⟨⟨_, rfl, .inr ⟨k, rfl, by rw [← HN.out]; exact hlt, by rw [HX.out, ← HZ.out], HE.out⟩⟩, rfl⟩
    · obtain rfl : k = n := by omega
      go_wp2
      go_ret
      exact ⟨⟨_, rfl, .inl ⟨rfl, by rw [← HN.out]; exact HE.out⟩⟩, rfl⟩

end Go.Proofs.YtacglafoahmcnaaDoor

/- It is proved that members that may leave first may leave later, too, so that the first choice needs no way back; conditions: those of each statement. -/
namespace Go.Proofs.YtacglafoahmcnaaDoor
open Go.RowKit

/-- All members of the clubs with a member. -/
def arN (v : Nat) (zs : List Int) : Nat := (zs.filter (Bt v)).foldl (fun t z => t ||| z.toNat) 0

theorem arN_snoc (v : Nat) (zs : List Int) (z : Int) : arN v (zs ++ [z]) = if Bt v z = true then arN v zs ||| z.toNat else arN v zs := by
  unfold arN
  rw [List.filter_append]
  cases h : Bt v z <;> simp [h]

theorem fold_bit (i : Nat) : ∀ (l : List Int) (t : Nat), (l.foldl (fun t z => t ||| z.toNat) t).testBit i = (t.testBit i || l.any (Bt i))
  | [], t => by simp
  | z :: l, t => by rw [List.foldl_cons, fold_bit i l, Nat.testBit_or, List.any_cons, Bool.or_assoc]; rfl

theorem arN_bit (v : Nat) (zs : List Int) (i : Nat) : (arN v zs).testBit i = true ↔ ∃ z ∈ zs, Bt v z = true ∧ Bt i z = true := by
  unfold arN
  rw [fold_bit, Nat.zero_testBit, Bool.false_or, List.any_eq_true]
  constructor
  · rintro ⟨z, hz, hb⟩
    obtain ⟨h1, h2⟩ := List.mem_filter.1 hz
    exact ⟨z, h1, h2, hb⟩
  · rintro ⟨z, h1, h2, hb⟩
    exact ⟨z, List.mem_filter.2 ⟨h1, h2⟩, hb⟩

theorem arN_lt {m v : Nat} {zs : List Int} (hS : Sets m zs) : arN v zs < 2 ^ m := by
  apply Nat.lt_pow_two_of_testBit
  intro i hi
  cases hb : (arN v zs).testBit i
  · rfl
  · obtain ⟨z, hz, _, h2⟩ := (arN_bit v zs i).1 hb
    have := bt_lt (hS z hz).2 h2
    omega

/-- A member may leave: one club with it has all the clubs with it, or none has it. -/
def leavB (v : Nat) (zs : List Int) : Bool := decide (arN v zs = 0) || zs.any fun z => decide (z = ((arN v zs : Nat) : Int))

def Leav (v : Nat) (zs : List Int) : Prop := (∀ z ∈ zs, Bt v z = false) ∨ ∃ M ∈ zs, Bt v M = true ∧ ∀ z ∈ zs, Bt v z = true → subZ z M
theorem leav_iff {m v : Nat} {zs : List Int} (hS : Sets m zs) : leavB v zs = true ↔ Leav v zs := by
  unfold leavB
  rw [Bool.or_eq_true, decide_eq_true_eq, List.any_eq_true]
  constructor
  · rintro (h | ⟨z, hz, he⟩)
    · left
      intro z hz
      cases hb : Bt v z
      · rfl
      · have := (arN_bit v zs v).2 ⟨z, hz, hb, hb⟩
        rw [h, Nat.zero_testBit] at this; cases this
    · have he' := of_decide_eq_true he
      by_cases h0 : arN v zs = 0
      · left
        intro y hy
        cases hb : Bt v y
        · rfl
        · have := (arN_bit v zs v).2 ⟨y, hy, hb, hb⟩
          rw [h0, Nat.zero_testBit] at this; cases this
      · right
        obtain ⟨i, hi⟩ := Nat.exists_testBit_of_ne_zero h0
        obtain ⟨y, hy, hv, _⟩ := (arN_bit v zs i).1 hi
        refine ⟨z, hz, ?_, fun x hx hxv => ?_⟩
        · unfold Bt
          rw [he', Int.toNat_natCast]
          exact (arN_bit v zs v).2 ⟨y, hy, hv, hv⟩
        · unfold subZ
          apply Nat.eq_of_testBit_eq
          intro j
          rw [Nat.testBit_and]
          cases hj : x.toNat.testBit j
          · simp
          · have : z.toNat.testBit j = true := by
              rw [he', Int.toNat_natCast]
              exact (arN_bit v zs j).2 ⟨x, hx, hxv, hj⟩
            rw [this]; rfl
  · rintro (h | ⟨M, hM, hv, hs⟩)
    · left
      apply Nat.eq_of_testBit_eq
      intro i
      rw [Nat.zero_testBit]
      cases hb : (arN v zs).testBit i
      · rfl
      · obtain ⟨z, hz, h1, _⟩ := (arN_bit v zs i).1 hb
        rw [h z hz] at h1; cases h1
    · right
      refine ⟨M, hM, decide_eq_true ?_⟩
      have h0 := (hS M hM).1
      have e : M.toNat = arN v zs := by
        apply Nat.eq_of_testBit_eq
        intro i
        rw [Bool.eq_iff_iff, arN_bit]
        constructor
        · exact fun hi => ⟨M, hM, hv, hi⟩
        · rintro ⟨z, hz, h1, h2⟩
          exact subZ_bit (hs z hz h1) h2
      omega

theorem leav_keeps {m : Nat} (hm : m ≤ 6) {zs : List Int} (hS : Sets m zs) {u v : Nat} (hu : u < 6) (hv : v < 6) (hne : u ≠ v) (h : Leav u zs) : Leav u (zs.map (woZ v)) := by
  have hl : ∀ z ∈ zs, z.toNat < 64 := fun z hz => p64 hm (hS z hz).2
  rcases h with h | ⟨M, hM, hb, hs⟩
  · left
    intro z hz
    obtain ⟨x, hx, rfl⟩ := List.mem_map.1 hz
    rw [woZ_bit (hl x hx) hu hv, h x hx]; rfl
  · right
    refine ⟨woZ v M, List.mem_map.2 ⟨M, hM, rfl⟩, ?_, fun z hz hzb => ?_⟩
    · rw [woZ_bit (hl M hM) hu hv, hb, decide_eq_true hne]; rfl
    · obtain ⟨x, hx, rfl⟩ := List.mem_map.1 hz
      rw [woZ_bit (hl x hx) hu hv, Bool.and_eq_true] at hzb
      exact woZ_mono v (hs x hx hzb.1)

/-- The members that are left, without one. -/
def lessP (t v : Nat) : Nat := woP t v

set_option maxRecDepth 100000 in
theorem less_fin : ∀ t : Fin 64, ∀ v : Fin 6, ∀ i : Fin 6, (lessP t.val v.val).testBit i.val = (t.val.testBit i.val && decide (i.val ≠ v.val)) := by decide +kernel

set_option maxRecDepth 100000 in
theorem less_lt_fin : ∀ t : Fin 64, ∀ v : Fin 6, lessP t.val v.val < 64 ∧ (t.val.testBit v.val = true → (memK 6 (lessP t.val v.val)).length + 1 = (memK 6 t.val).length) := by decide +kernel

theorem less_bit {t : Nat} (ht : t < 64) {v i : Nat} (hv : v < 6) (hi : i < 6) : (lessP t v).testBit i = (t.testBit i && decide (i ≠ v)) := less_fin ⟨t, ht⟩ ⟨v, hv⟩ ⟨i, hi⟩
theorem less_lt {t : Nat} (ht : t < 64) {v : Nat} (hv : v < 6) : lessP t v < 64 := (less_lt_fin ⟨t, ht⟩ ⟨v, hv⟩).1
theorem less_cnt {t : Nat} (ht : t < 64) {v : Nat} (hv : v < 6) (hb : t.testBit v = true) : (memK 6 (lessP t v)).length + 1 = (memK 6 t).length := (less_lt_fin ⟨t, ht⟩ ⟨v, hv⟩).2 hb
theorem bit_six {t : Nat} (ht : t < 64) {i : Nat} (h : t.testBit i = true) : i < 6 := by
  by_cases e : i < 6
  · exact e
  · rw [Nat.testBit_lt_two_pow (Nat.lt_of_lt_of_le ht (Nat.le_trans (show 64 ≤ 2 ^ 6 by decide) (Nat.pow_le_pow_right (n := 2) (by decide) (show 6 ≤ i by omega))))] at h; cases h

theorem less_comm {t : Nat} (ht : t < 64) {u v : Nat} (hu : u < 6) (hv : v < 6) : lessP (lessP t u) v = lessP (lessP t v) u := by
  apply Nat.eq_of_testBit_eq
  intro i
  by_cases hi : i < 6
  · rw [less_bit (less_lt ht hu) hv hi, less_bit ht hu hi, less_bit (less_lt ht hv) hu hi, less_bit ht hv hi, Bool.and_assoc, Bool.and_assoc, Bool.and_comm (decide (i ≠ u))]
  · have h1 : ∀ s, s < 64 → s.testBit i = false := fun s hs => by
      cases hb : s.testBit i
      · rfl
      · exact (hi (bit_six hs hb)).elim
    rw [h1 _ (less_lt (less_lt ht hu) hv), h1 _ (less_lt (less_lt ht hv) hu)]

/-- All that are left may leave, in some order. -/
inductive Ex : List Int → Nat → Prop
  | nil (zs : List Int) : Ex zs 0
  | cons {zs : List Int} {t : Nat} (v : Nat) (hv : t.testBit v = true) (hl : Leav v zs) (h : Ex (zs.map (woZ v)) (lessP t v)) : Ex zs t

theorem Ex.first {m : Nat} (hm : m ≤ 6) {zs : List Int} {t : Nat} (h : Ex zs t) : ∀ (_ : Sets m zs) (_ : t < 64) (u : Nat) (_ : t.testBit u = true) (_ : Leav u zs), Ex (zs.map (woZ u)) (lessP t u) := by
  induction h with
  | nil zs => exact fun _ _ u hu _ => by rw [Nat.zero_testBit] at hu; cases hu
  | @cons zs t v hv hl h ih =>
    intro hS ht u hu hlu
    have hu6 := bit_six ht hu
    have hv6 := bit_six ht hv
    by_cases e : u = v
    · subst e; exact h
    · have h1 := ih (woZ_sets hS) (less_lt ht hv6) u (by rw [less_bit ht hv6 hu6, hu, decide_eq_true e]; rfl) (leav_keeps hm hS hu6 hv6 e hlu)
      refine .cons v (by rw [less_bit ht hu6 hv6, hv, decide_eq_true (p := v ≠ u) (fun e' => e e'.symm)]; rfl) (leav_keeps hm hS hv6 hu6 (fun e' => e e'.symm) hl) ?_
      have e1 : (zs.map (woZ u)).map (woZ v) = (zs.map (woZ v)).map (woZ u) := by
        rw [List.map_map, List.map_map]
        exact List.map_congr_left fun z _ => woZ_comm v u z
      rw [e1, less_comm ht hu6 hv6]
      exact h1

/-- The order that takes the first one that may leave, again and again. -/
def ordN : Nat → List Int → Nat → Option (List Int)
  | 0, _, t => if t = 0 then some [] else none
  | f + 1, zs, t => if t = 0 then some [] else match (memK 6 t).find? fun v => leavB v zs with
    | none => none
    | some v => (ordN f (zs.map (woZ v)) (lessP t v)).map fun l => (v : Int) :: l

theorem mem_six {t v : Nat} : v ∈ memK 6 t ↔ v < 6 ∧ t.testBit v = true := by simp [memK]
theorem ord_some {m : Nat} (hm : m ≤ 6) : ∀ (f : Nat) (zs : List Int) (t : Nat), Sets m zs → t < 64 → (memK 6 t).length ≤ f → ((ordN f zs t).isSome = true ↔ Ex zs t)
  | 0, zs, t, _, ht, hc => by
    have : t = 0 := by
      by_cases e : t = 0
      · exact e
      · obtain ⟨i, hi⟩ := Nat.exists_testBit_of_ne_zero e
        have := List.length_pos_of_mem (mem_six.2 ⟨bit_six ht hi, hi⟩)
        omega
    subst this
    exact ⟨fun _ => .nil _, fun _ => rfl⟩
  | f + 1, zs, t, hS, ht, hc => by
    unfold ordN
    by_cases e : t = 0
    · subst e; exact ⟨fun _ => .nil _, fun _ => rfl⟩
    · rw [if_neg e]
      cases hf : (memK 6 t).find? fun v => leavB v zs with
      | none =>
        refine ⟨fun h => (by cases h), fun h => ?_⟩
        cases h with
        | nil _ => exact (e rfl).elim
        | cons v hv hl _ =>
          have := List.find?_eq_none.1 hf v (mem_six.2 ⟨bit_six ht hv, hv⟩)
          exact (this ((leav_iff hS).2 hl)).elim
      | some v =>
        obtain ⟨hv6, hv⟩ := mem_six.1 (List.mem_of_find?_eq_some hf)
        have hl := (leav_iff hS).1 (List.find?_some (p := fun v => leavB v zs) hf)
        have ih := ord_some hm f (zs.map (woZ v)) (lessP t v) (woZ_sets hS) (less_lt ht hv6) (by have := less_cnt ht hv6 hv; omega)
        show ((ordN f (zs.map (woZ v)) (lessP t v)).map _).isSome = true ↔ _
        rw [Option.isSome_map, ih]
        exact ⟨fun h => .cons v hv hl h, fun h => h.first hm hS ht v hv hl⟩

/-- No way back is needed. -/
theorem ord_same {m : Nat} (hm : m ≤ 6) {f : Nat} {zs : List Int} {t : Nat} (hS : Sets m zs) (ht : t < 64) (hc : (memK 6 t).length ≤ f + 1) {v : Nat} (hv : t.testBit v = true) (hl : leavB v zs = true) :
    (ordN (f + 1) zs t).isSome = (ordN f (zs.map (woZ v)) (lessP t v)).isSome := by
  have hv6 := bit_six ht hv
  have h1 := ord_some hm (f + 1) zs t hS ht hc
  have h2 := ord_some hm f (zs.map (woZ v)) (lessP t v) (woZ_sets hS) (less_lt ht hv6) (by have := less_cnt ht hv6 hv; omega)
  rw [Bool.eq_iff_iff, h1, h2]
  exact ⟨fun h => h.first hm hS ht v hv ((leav_iff hS).1 hl), fun h => .cons v hv ((leav_iff hS).1 hl) h⟩

theorem ord_len {m : Nat} (hm : m ≤ 6) : ∀ (f : Nat) (zs : List Int) (t : Nat) (l : List Int), Sets m zs → t < 64 → (memK 6 t).length ≤ f → ordN f zs t = some l → l.length = (memK 6 t).length
  | 0, zs, t, l, _, ht, hc, h => by
    unfold ordN at h
    split at h
    · rename_i e; subst e; cases h; rfl
    · cases h
  | f + 1, zs, t, l, hS, ht, hc, h => by
    unfold ordN at h
    by_cases e : t = 0
    · subst e; rw [if_pos rfl] at h; cases h; rfl
    · rw [if_neg e] at h
      cases hf : (memK 6 t).find? fun v => leavB v zs with
      | none => rw [hf] at h; cases h
      | some v =>
        rw [hf] at h
        obtain ⟨hv6, hv⟩ := mem_six.1 (List.mem_of_find?_eq_some hf)
        have hcn := less_cnt ht hv6 hv
        obtain ⟨r, hr, rfl⟩ := Option.map_eq_some_iff.1 h
        have ih := ord_len hm f (zs.map (woZ v)) (lessP t v) r (woZ_sets hS) (less_lt ht hv6) (by omega) hr
        rw [List.length_cons]
        omega

end Go.Proofs.YtacglafoahmcnaaDoor

/- It is proved what CoverSmall of the program and of the reference model returns; conditions: those of each statement. -/
namespace Go.Proofs.YtacglafoahmcnaaDoor
open Go.RowKit

theorem at_in {xs : List Int} {k : Nat} (h : k < xs.length) : xs[k]?.getD 0 ∈ xs := by
  rw [List.getElem?_eq_getElem h]; exact List.getElem_mem _

end Go.Proofs.YtacglafoahmcnaaDoor

/- It is proved what l6eReduce returns; conditions: those of each statement. -/
namespace Go.Proofs.YtacglafoahmcnaaDoor
open Go.RowKit

set_option maxRecDepth 100000 in
theorem bt_int_fin : ∀ z : Fin 64, ∀ v : Fin 6, bits .and .i64 ((z.val : Int) / 2 ^ v.val) 1 = if z.val.testBit v.val then 1 else 0 := by decide +kernel

theorem bt_int {z : Int} (h0 : 0 ≤ z) (hz : z.toNat < 64) {v : Nat} (hv : v < 6) : bits .and .i64 (z / 2 ^ v) 1 = if Bt v z then 1 else 0 := by
  have := bt_int_fin ⟨z.toNat, hz⟩ ⟨v, hv⟩
  simp only [Int.toNat_of_nonneg h0] at this
  exact this

end Go.Proofs.YtacglafoahmcnaaDoor

/- It is proved what l6eFree and l6eOrder return; conditions: those of each statement. -/
namespace Go.Proofs.YtacglafoahmcnaaDoor
open Go.RowKit

theorem arN_take {v : Nat} {zs : List Int} {i : Nat} (h : i < zs.length) : arN v (zs.take (i + 1)) = if Bt v (zs[i]?.getD 0) = true then arN v (zs.take i) ||| (zs[i]?.getD 0 : Int).toNat else arN v (zs.take i) := by
  rw [List.take_succ_eq_append_getElem h, arN_snoc, List.getElem?_eq_getElem h, Option.getD_some]

def inL (n : Int) (zs : List Int) : Bool := zs.any fun z => decide (z = n)
theorem inL_take {n : Int} {zs : List Int} {i : Nat} (h : i < zs.length) : inL n (zs.take (i + 1)) = (inL n (zs.take i) || decide ((zs[i]?.getD 0) = n)) := by
  unfold inL
  rw [List.take_succ_eq_append_getElem h, List.any_append, List.getElem?_eq_getElem h, Option.getD_some]
  simp

set_option maxRecDepth 100000 in
theorem or7_fin : ∀ x : Fin 64, ∀ y : Fin 64, bits .or .i64 (x.val : Int) (y.val : Int) = ((x.val ||| y.val : Nat) : Int) := by decide +kernel

theorem or_at6 {x y : Nat} (hx : x < 64) (hy : y < 64) : bits .or .i64 (x : Int) (y : Int) = ((x ||| y : Nat) : Int) := or7_fin ⟨x, hx⟩ ⟨y, hy⟩
theorem take_sets {m : Nat} {zs : List Int} (h : Sets m zs) (i : Nat) : Sets m (zs.take i) := fun z hz => h z (List.mem_of_mem_take hz)
set_option maxRecDepth 100000 in
set_option maxHeartbeats 4000000 in
theorem l6eFree_any (k : Nat) (hk6 : k ≤ 6) (v : Nat) (hv6 : v < 6) (a : Option Addr) (c : Nat) (zs : List Int) (w : World) (ha : Ints w w.heap.size a zs) (h8 : zs.length ≤ 8) (hz : Sets k zs) :
    Calls Tryd.prog 95 #[.slice a zs.length c, .int .i64 (v : Int)] w fun e w' => e = .returned (.bool (leavB v zs)) ∧ w = w' := by
  have HS := Lib.hid hz
  have HI := Lib.hid ha
  have HAL : Hid (∀ i, arN v (zs.take i) < 64) := Lib.hid fun i => p64 hk6 (arN_lt (take_sets hz i))
  obtain ⟨n, hn⟩ : ∃ n, n = zs.length := ⟨_, rfl⟩
  have HN := Lib.hid hn
  obtain ⟨R, hR⟩ : ∃ R, R = leavB v zs := ⟨_, rfl⟩
  have HR := Lib.hid hR
  rw [← hn] at h8 ⊢
  rw [← hR]
  clear ha hz hn hR
  have hv0 : (0 : Int) ≤ (v : Int) := by omega
  go_enter Tryd.func95, Tryd.ntmps95
  go_wp2
  go_loop [5, 7] (fun s i => ∃ j : Nat, j ≤ n ∧ i = .int .i64 (j : Int) ∧ s = .int .i64 ((arN v (zs.take j) : Nat) : Int)) (fun _ i => n - (intOf i).toNat)
  case atStart => exact ⟨0, Nat.zero_le _, rfl, by simp [arN]⟩
  case round =>
    obtain ⟨j, hj, rfl, rfl⟩ := hrel
    by_cases hlt : j < n
    · have hji : (j : Int) < (n : Int) := by omega
      have hj0 : (0 : Int) ≤ (j : Int) := by omega
      obtain ⟨b, off, rfl, hbb, hcc⟩ := HI.out.at_ (k := j) (by rw [← HN.out]; exact hlt)
      have HAT := Lib.hid (arN_take (v := v) (zs := zs) (i := j) (by rw [← HN.out]; exact hlt))
      obtain ⟨z, hz⟩ : ∃ z, z = zs[j]?.getD 0 := ⟨_, rfl⟩
      have hzm : z ∈ zs := by rw [hz]; exact at_in (by rw [← HN.out]; exact hlt)
      have hz0 : 0 ≤ z := (HS.out z hzm).1
      have hz64 : z.toNat < 64 := p64 hk6 (HS.out z hzm).2
      have hbt := bt_int hz0 hz64 hv6
      have hz63 : z ≤ 63 := by omega
      rw [← hz] at hcc HAT
      have hA64 := HAL.out j
      obtain ⟨A, hA⟩ : ∃ A, A = arN v (zs.take j) := ⟨_, rfl⟩
      rw [← hA] at HAT hA64 ⊢
      have hor : bits .or .i64 (A : Int) z = ((A ||| z.toNat : Nat) : Int) := by
        have := or_at6 hA64 hz64
        rwa [Int.toNat_of_nonneg hz0] at this
      clear hz hzm hA
      cases hb : Bt v z
      · rw [hb] at hbt HAT
        simp only [Bool.false_eq_true, if_false] at hbt HAT
        clear hb hor
        go_wp2
        go_round
        case rel => exact ⟨j + 1, by omega, by go_num, by rw [HAT.out]⟩
        case measure => simp [intOf]; omega
      · rw [hb] at hbt HAT
        simp only [if_true] at hbt HAT
        clear hb
        go_wp2
        go_round
        case rel => exact ⟨j + 1, by omega, by go_num, by rw [HAT.out]⟩
        case measure => simp [intOf]; omega
    · obtain rfl : j = n := by omega
      have hfull : zs.take j = zs := List.take_of_length_le (by rw [← HN.out]; exact Nat.le_refl _)
      rw [hfull]
      obtain ⟨A, hA⟩ : ∃ A, A = arN v zs := ⟨_, rfl⟩
      have HRA : Hid (R = (decide (A = 0) || inL (A : Int) zs)) := Lib.hid (by rw [HR.out, hA]; rfl)
      rw [← hA]
      clear hfull hA
      go_wp2
      go_loop [6, 8] (fun s i => ∃ q : Nat, q ≤ j ∧ i = .int .i64 (q : Int) ∧ s = .bool (inL (A : Int) (zs.take q))) (fun _ i => j - (intOf i).toNat)
      case atStart => exact ⟨0, Nat.zero_le _, rfl, by simp [inL]⟩
      case round =>
        obtain ⟨q, hq, rfl, rfl⟩ := hrel
        by_cases hlt2 : q < j
        · have hqi : (q : Int) < (j : Int) := by omega
          have hq0 : (0 : Int) ≤ (q : Int) := by omega
          obtain ⟨b, off, rfl, hbb, hcc⟩ := HI.out.at_ (k := q) (by rw [← HN.out]; exact hlt2)
          have HIT := Lib.hid (inL_take (n := (A : Int)) (zs := zs) (i := q) (by rw [← HN.out]; exact hlt2))
          obtain ⟨z, hz⟩ : ∃ z, z = zs[q]?.getD 0 := ⟨_, rfl⟩
          rw [← hz] at hcc HIT
          obtain ⟨D, hD⟩ : ∃ D, D = inL (A : Int) (zs.take q) := ⟨_, rfl⟩
          rw [← hD] at HIT ⊢
          have hd : (z == (A : Int)) = decide (z = (A : Int)) := by
            by_cases e : z = (A : Int)
            · rw [decide_eq_true e, beq_iff_eq]; exact e
            · rw [decide_eq_false e, beq_eq_false_iff_ne]; exact e
          clear hz hD
          cases D
          · go_wp2
            go_round
            case rel => exact ⟨q + 1, by omega, by go_num, by rw [HIT.out]; simp⟩
            case measure => simp [intOf]; omega
          · go_wp2
            go_round
            case rel => exact ⟨q + 1, by omega, by go_num, by rw [HIT.out]; simp⟩
            case measure => simp [intOf]; omega
        · obtain rfl : q = j := by omega
          have hfull : zs.take q = zs := List.take_of_length_le (by rw [← HN.out]; exact Nat.le_refl _)
          rw [hfull]
          obtain ⟨D, hD⟩ : ∃ D, D = inL (A : Int) zs := ⟨_, rfl⟩
          rw [← hD] at HRA ⊢
          clear hfull hD
          by_cases h0 : A = 0
          · subst h0
            go_wp2
            go_ret
            exact ⟨by rw [HRA.out]; simp, rfl⟩
          · have hb1 : ((A : Int) == 0) = false := by rw [beq_eq_false_iff_ne]; omega
            have hb2 : (A == 0) = false := by rw [beq_eq_false_iff_ne]; exact h0
            have HRD : Hid (R = D) := Lib.hid (by rw [HRA.out, decide_eq_false h0, Bool.false_or])
            clear h0
            go_wp2
            go_ret
            exact ⟨by rw [HRD.out]; rfl, rfl⟩

end Go.Proofs.YtacglafoahmcnaaDoor
