/- It is proved what the operations on sets of at most eight members are in terms of their bits; conditions: those of each statement. -/
import Derived.Laws.BitsAllLaws
import Derived.RowKit
import Derived.Laws.CopyRow
import Derived.Lib.SlBuf
import Derived.Deep.QuietTactic
import Derived.RangeFuncNested
import Derived.RangeFuncBound
import Derived.RangeFuncCalls
import Derived.RangeFuncLeaves
import Derived.RangeFuncBox
import Derived.RangeFuncWrites
import Derived.StillTailTactics
import Derived.Maps.OwnIn
import Derived.Maps.Ext
import Derived.DeepKeys4
import Derived.MapKept
import Derived.Test.YtobjmiaanoheeaaDoorRows
import Derived.WalkKit
import Derived.WalkSpells
import Derived.ProofKit
import Derived.OpenShut
import Derived.ShutString
import Derived.ChangeOld
import Derived.Below
import Derived.Deep.RegionHeld3
import Derived.BigQuiet
import Derived.Lib.Hide
import Derived.Lib.SmallJoins
import Derived.Outline
import Derived.Laws.MakeOwn
import Derived.Laws.OwnMore
import Derived.IntWalk
import Derived.Lib.AppendZeros
import Derived.Maps.AppendAt
import Derived.Deep.AppendLies
import Derived.OwnWalk
import Derived.Lib.SlicesCompact
import Derived.Lib.OwnBridge
import Derived.OrdersIn
import Derived.TacticsIn
import Derived.Shelf.Sort.Plain
import Derived.Shelf.Slices.In.SortNone
import Derived.Shelf.Slices.CompactI
import Derived.Ground.Names2Prog
import Derived.Lib.SliceRun
import Derived.Shelf.Abstract
import Derived.Shelf.RegionOpen
import Derived.OwnWalkIn
import Derived.TacticsInMore
import Derived.LoopNIn
import Derived.LoopIn
import Derived.StillTail
import Derived.StillTactics
import Derived.Shelf.Spec.TrailingZeros
import Derived.Test.YtobjmiaanoheeaaDoorRaae
import Derived.Test.YtobjmiaanoheeaaDoorRaaf
import Derived.Test.YtobjmiaanoheeaaDoorRaao
import Derived.Test.YtobjmiaanoheeaaDoorKs
import Derived.Test.YtobjmiaanoheeaaDoorKa
import Derived.Test.YtobjmiaanoheeaaDoorRaai
import Derived.Test.YtobjmiaanoheeaaDoorYa
namespace Go.Proofs.YtobjmiaanoheeaaDoor
open Go.RowKit Go.Shelf

theorem and_at8 {x y : Nat} (hx : x < 256) (hy : y < 256) : bits .and .i64 (x : Int) (y : Int) = ((x &&& y : Nat) : Int) := (bits_nat .i64 8 (by decide) (fun n h0 h1 => by rw [IntKind.wrap_i64]; omega) x y hx hy).1
theorem or_at8 {x y : Nat} (hx : x < 256) (hy : y < 256) : bits .or .i64 (x : Int) (y : Int) = ((x ||| y : Nat) : Int) := (bits_nat .i64 8 (by decide) (fun n h0 h1 => by rw [IntKind.wrap_i64]; omega) x y hx hy).2
/-- A set without another one. -/
def anN (a b : Nat) : Nat := a &&& (2 ^ 64 - (b + 1))

theorem anN_bit (a b i : Nat) (ha : a < 256) (hb : b < 256) : (anN a b).testBit i = (a.testBit i && !b.testBit i) := by
  unfold anN
  rw [Nat.testBit_and, Nat.testBit_two_pow_sub_succ (by omega)]
  by_cases hi : i < 64
  · simp [hi]
  · have : a.testBit i = false := Nat.testBit_lt_two_pow (Nat.lt_of_lt_of_le ha (Nat.le_trans (by decide : 256 ≤ 2 ^ 8) (Nat.pow_le_pow_right (by decide) (by omega))))
    simp [this]

theorem anN_le (a b : Nat) : anN a b ≤ a := Nat.and_le_left
theorem an_at8 {a b : Nat} (ha : a < 256) (hb : b < 256) : bits .andNot .i64 (a : Int) (b : Int) = ((anN a b : Nat) : Int) := by
  have h2 := anN_le a b
  show IntKind.i64.wrap ((BitVec.ofInt 64 (a : Int) &&& ~~~BitVec.ofInt 64 (b : Int)).toNat : Int) = _
  rw [BitVec.toNat_and, BitVec.toNat_not, ofInt_u64 a (by omega), ofInt_u64 b (by omega), IntKind.wrap_i64]
  have e : 2 ^ 64 - 1 - b = 2 ^ 64 - (b + 1) := by omega
  rw [e]
  unfold anN at h2 ⊢
  omega

theorem bits_sub (a b : Nat) : a &&& b = a ↔ ∀ i, a.testBit i = true → b.testBit i = true := by
  constructor
  · intro h i hi
    have := congrArg (fun n => n.testBit i) h
    simp only [Nat.testBit_and, hi, Bool.true_and] at this
    exact this
  · intro h
    apply Nat.eq_of_testBit_eq
    intro i
    rw [Nat.testBit_and]
    cases h1 : a.testBit i
    · simp
    · simp [h i h1]

theorem an_zero {a b : Nat} (ha : a < 256) (hb : b < 256) : anN a b = 0 ↔ a &&& b = a := by
  rw [bits_sub]
  constructor
  · intro h i hi
    have := anN_bit a b i ha hb
    rw [h, Nat.zero_testBit, hi, Bool.true_and] at this
    cases h2 : b.testBit i <;> simp_all
  · intro h
    apply Nat.eq_of_testBit_eq
    intro i
    rw [anN_bit a b i ha hb, Nat.zero_testBit]
    cases h1 : a.testBit i
    · rfl
    · rw [h i h1]; rfl

/-- A set is a part of another one. -/
def subN (a b : Nat) : Bool := decide (a &&& b = a)

theorem subN_iff (a b : Nat) : subN a b = true ↔ ∀ i, a.testBit i = true → b.testBit i = true := by unfold subN; rw [decide_eq_true_eq, bits_sub]
theorem leG8 {o z : Nat} (ho : o < 256) (hz : z < 256) : leG (o : Int) (z : Int) = subN o z := by
  unfold leG subN
  rw [an_at8 ho hz, Bool.eq_iff_iff, beq_iff_eq, decide_eq_true_eq, ← an_zero ho hz]
  omega

theorem an_ne {a b : Nat} (ha : a < 256) (hb : b < 256) : (((anN a b : Nat) : Int) != 0) = !subN a b := by
  unfold subN
  rw [Bool.eq_iff_iff, bne_iff_ne, Bool.not_eq_true', decide_eq_false_iff_not, ← an_zero ha hb]
  omega

theorem p256 {m s : Nat} (hm : m ≤ 8) (hs : s < 2 ^ m) : s < 256 := Nat.lt_of_lt_of_le hs (Nat.pow_le_pow_right (n := 2) (by decide) hm)
set_option maxRecDepth 100000 in
theorem has8_fin : ∀ x : Fin 256, ∀ p : Fin 8, (bits BinOp.and IntKind.i64 ((x.val : Int) / 2 ^ p.val) 1 == 1) = x.val.testBit p.val := by decide +kernel

theorem has8_any (x p : Nat) (hx : x < 256) (hp : p < 8) (w : World) :
    Calls Tryd.prog 105 #[.int .i64 (x : Int), .int .i64 (p : Int)] w fun e w' => e = .returned (.bool (x.testBit p)) ∧ w = w' := by
  have HH := Lib.hid (has8_fin ⟨x, hx⟩ ⟨p, hp⟩)
  simp only at HH
  go_enter Tryd.func105, Tryd.ntmps105
  go_wp2
  go_ret
  exact ⟨by rw [← HH.out]; rfl, rfl⟩

theorem wo8_at {x p : Nat} (hx : x < 256) (hp : p < 8) : bits .andNot .i64 (x : Int) (2 ^ p) = ((anN x (2 ^ p) : Nat) : Int) := by
  have h2 : (2 : Nat) ^ p < 256 := Nat.pow_lt_pow_right (a := 2) (n := 8) (by decide) hp
  have := an_at8 hx h2
  rw [← this]
  norm_cast

theorem without8_any (x p : Nat) (hx : x < 256) (hp : p < 8) (w : World) :
    Calls Tryd.prog 85 #[.int .i64 (x : Int), .int .i64 (p : Int)] w fun e w' => e = .returned (.int .i64 ((anN x (2 ^ p) : Nat) : Int)) ∧ w = w' := by
  have hp8 : (p : Int) < 8 := by omega
  obtain ⟨h1, h2⟩ := p2_small p (by omega)
  have HO := Lib.hid (wo8_at hx hp)
  go_enter Tryd.func85, Tryd.ntmps85
  go_wp2
  go_ret
  exact ⟨by rw [HO.out]; rfl, rfl⟩

theorem partOf8_any (x y : Nat) (hx : x < 256) (hy : y < 256) (w : World) : Calls Tryd.prog 62 #[.int .i64 (x : Int), .int .i64 (y : Int)] w fun e w' => e = .returned (.bool (subN x y)) ∧ w = w' := by
  have := partOf_any (x : Int) (y : Int) w
  rwa [leG8 hx hy] at this

set_option maxRecDepth 100000 in
theorem full8_any (k : Nat) (a : Option Addr) (n c : Nat) (w : World) (hk : k ≤ 8) :
    Calls Tryd.prog 45 #[.agg #[.int .i64 (k : Int), .slice a n c]] w fun e w' => e = .returned (.int .i64 ((2 ^ k - 1 : Nat) : Int)) ∧ w' = w.alloc (.cells #[.int .i64 (k : Int), .slice a n c] 25) := by
  rcases n08 hk with rfl | rfl | rfl | rfl | rfl | rfl | rfl | rfl | rfl
  all_goals
    go_enter Tryd.func45, Tryd.ntmps45
    go_wp2
    go_ret
    exact ⟨rfl, rfl⟩

theorem mem8_iff {s v : Nat} (hs : s < 256) : v ∈ memK 8 s ↔ s.testBit v = true := by
  unfold memK
  rw [List.mem_filter, List.mem_range]
  constructor
  · exact fun h => h.2
  · intro h
    refine ⟨?_, h⟩
    apply Decidable.byContradiction
    intro hv
    rw [Nat.testBit_lt_two_pow (Nat.lt_of_lt_of_le hs (Nat.le_trans (by decide : 256 ≤ 2 ^ 8) (Nat.pow_le_pow_right (by decide) (by omega))))] at h
    cases h

end Go.Proofs.YtobjmiaanoheeaaDoor

/- It is proved what a round of reducing does to a list of sets; conditions: those of each statement. -/
namespace Go.Proofs.YtobjmiaanoheeaaDoor
open Go.RowKit

def mbN (zs : List Int) : Nat := (List.range 6).countP fun v => zs.any (Bt v)
theorem mbN_le (zs : List Int) : mbN zs ≤ 6 := by
  have := List.countP_le_length (p := fun v => zs.any (Bt v)) (l := List.range 6)
  simpa [mbN] using this

theorem cnt6 (p q : Nat → Bool) (v : Nat) (hv : v < 6) (hp : p v = true) (hq : q v = false) (h : ∀ u, u < 6 → u ≠ v → q u = p u) : (List.range 6).countP q + 1 = (List.range 6).countP p := by
  have h0 := h 0 (by omega)
  have h1 := h 1 (by omega)
  have h2 := h 2 (by omega)
  have h3 := h 3 (by omega)
  have h4 := h 4 (by omega)
  have h5 := h 5 (by omega)
  rw [show List.range 6 = [0, 1, 2, 3, 4, 5] from rfl]
  simp only [List.countP_cons, List.countP_nil]
  match v, hv with
  | 0, _ => rw [hp, hq, h1 (by omega), h2 (by omega), h3 (by omega), h4 (by omega), h5 (by omega)]; simp
  | 1, _ => rw [hp, hq, h0 (by omega), h2 (by omega), h3 (by omega), h4 (by omega), h5 (by omega)]; simp; omega
  | 2, _ => rw [hp, hq, h0 (by omega), h1 (by omega), h3 (by omega), h4 (by omega), h5 (by omega)]; simp; omega
  | 3, _ => rw [hp, hq, h0 (by omega), h1 (by omega), h2 (by omega), h4 (by omega), h5 (by omega)]; simp; omega
  | 4, _ => rw [hp, hq, h0 (by omega), h1 (by omega), h2 (by omega), h3 (by omega), h5 (by omega)]; simp; omega
  | 5, _ => rw [hp, hq, h0 (by omega), h1 (by omega), h2 (by omega), h3 (by omega), h4 (by omega)]; simp; omega

theorem mb_ext {zs ys : List Int} (h : ∀ v, v < 6 → zs.any (Bt v) = ys.any (Bt v)) : mbN zs = mbN ys := by
  unfold mbN
  exact List.countP_congr fun v hv => by rw [h v (List.mem_range.1 hv)]

theorem mb_gr {m : Nat} (hm : m ≤ 6) {zs : List Int} (hS : Sets m zs) : mbN (grZ zs) = mbN zs := mb_ext fun v _ => by
  rw [Bool.eq_iff_iff, List.any_eq_true, List.any_eq_true]
  constructor
  · rintro ⟨x, hx, h⟩
    exact ⟨x, gr_sub hx, h⟩
  · rintro ⟨x, hx, h⟩
    obtain ⟨o, ho, hs⟩ := gr_above hm hS _ x rfl hx
    exact ⟨o, ho, subZ_bit hs h⟩

theorem mb_cut {m v : Nat} (hm : m ≤ 6) (hv : v < 6) {zs : List Int} (hS : Sets m zs) (h : zs.any (Bt v) = true) : mbN (zs.map (woZ v)) + 1 = mbN zs := by
  have hl : ∀ z ∈ zs, z.toNat < 64 := fun z hz => p64 hm (hS z hz).2
  unfold mbN
  refine cnt6 _ _ v hv h ?_ fun u hu hne => ?_
  · rw [List.any_eq_false]
    intro y hy hb
    obtain ⟨x, hx, rfl⟩ := List.mem_map.1 hy
    rw [woZ_bit (hl x hx) hv hv] at hb
    simp at hb
  · show (zs.map (woZ v)).any (Bt u) = zs.any (Bt u)
    rw [List.any_map, Bool.eq_iff_iff, List.any_eq_true, List.any_eq_true]
    constructor
    · rintro ⟨x, hx, hb⟩
      rw [Function.comp_apply, woZ_bit (hl x hx) hu hv, Bool.and_eq_true] at hb
      exact ⟨x, hx, hb.1⟩
    · rintro ⟨x, hx, hb⟩
      refine ⟨x, hx, ?_⟩
      rw [Function.comp_apply, woZ_bit (hl x hx) hu hv, hb, decide_eq_true hne]; rfl

theorem idx_one {p : Int → Bool} : ∀ {l : List Int}, l.countP p = 1 → ∀ {i j : Nat} {x y : Int}, l[i]? = some x → l[j]? = some y → p x = true → p y = true → i = j
  | [], h, _, _, _, _, _, _, _, _ => by simp at h
  | a :: l, h, 0, 0, _, _, _, _, _, _ => rfl
  | a :: l, h, 0, j + 1, x, y, hx, hy, px, py => by
      simp only [List.getElem?_cons_zero, Option.some.injEq] at hx
      simp only [List.getElem?_cons_succ] at hy
      subst hx
      rw [List.countP_cons, if_pos px] at h
      have := List.countP_eq_zero.1 (by omega : l.countP p = 0) y (List.mem_of_getElem? hy)
      exact (this py).elim
  | a :: l, h, i + 1, 0, x, y, hx, hy, px, py => by
      simp only [List.getElem?_cons_zero, Option.some.injEq] at hy
      simp only [List.getElem?_cons_succ] at hx
      subst hy
      rw [List.countP_cons, if_pos py] at h
      have := List.countP_eq_zero.1 (by omega : l.countP p = 0) x (List.mem_of_getElem? hx)
      exact (this px).elim
  | a :: l, h, i + 1, j + 1, x, y, hx, hy, px, py => by
      simp only [List.getElem?_cons_succ] at hx hy
      rw [List.countP_cons] at h
      have h1 : 1 ≤ l.countP p := List.countP_pos_iff.2 ⟨x, List.mem_of_getElem? hx, px⟩
      by_cases e : p a = true
      · rw [if_pos e] at h; omega
      · rw [if_neg e] at h
        have := idx_one h hx hy px py
        omega

theorem bt_lt {m v : Nat} {z : Int} (h : z.toNat < 2 ^ m) (hb : Bt v z = true) : v < m := by
  by_cases e : v < m
  · exact e
  · unfold Bt at hb
    rw [Nat.testBit_lt_two_pow (Nat.lt_of_lt_of_le h (Nat.pow_le_pow_right (by decide) (by omega)))] at hb
    cases hb

theorem d1_cnt {v : Nat} {l G : List Int} (hn : l.Nodup) (h : ∀ z, z ∈ G ↔ z ∈ l) : D1 v G ↔ l.countP (Bt v) = 1 := by
  constructor
  · rintro ⟨x, hx, hb, hq⟩
    have e : l.countP (Bt v) = l.countP (fun z => decide (z = x)) := List.countP_congr fun z hz => by
      rw [decide_eq_true_eq]
      exact ⟨fun hz' => hq z ((h z).2 hz) hz', fun e => e ▸ hb⟩
    rw [e]
    have h2 : l.countP (fun z => decide (z = x)) = l.count x := by
      rw [List.count]
      exact List.countP_congr fun z _ => by rw [decide_eq_true_eq, beq_iff_eq]
    rw [h2, List.Nodup.count hn, if_pos ((h x).1 hx)]
  · intro hc
    obtain ⟨x, hx, hb⟩ := List.countP_pos_iff.1 (by omega : 0 < l.countP (Bt v))
    obtain ⟨i, hi⟩ := List.mem_iff_getElem?.1 hx
    refine ⟨x, (h x).2 hx, hb, fun y hy hyb => ?_⟩
    obtain ⟨j, hj⟩ := List.mem_iff_getElem?.1 ((h y).1 hy)
    have := idx_one hc hi hj hb hyb
    subst this
    rw [hi] at hj
    exact (Option.some.inj hj).symm

theorem gr_nodup (zs : List Int) : (grZ zs).Nodup := (unbeaten_asc geG zs).imp (fun h => by omega)
/-- What is left, told by reducing the first such member again and again. -/
def redF : Nat → Nat → List Int → List Int
  | 0, _, G => G
  | f + 1, m, G => match (List.range m).find? fun v => decide (G.countP (Bt v) = 1) with
    | none => G
    | some v => redF f m (stepZ v G)

def redZ (m : Nat) (zs : List Int) : List Int := redF 7 m (grZ zs)
theorem redF_is {m : Nat} (hm : m ≤ 6) : ∀ (f : Nat) (G : List Int), G.Nodup → Sets m G → mbN G < f → Red m G (redF f m G) ∧ Done m (redF f m G) := by
  intro f
  induction f with
  | zero => intro G _ _ h; omega
  | succ f ih =>
    intro G hn hS hlt
    rw [redF]
    cases hf : (List.range m).find? fun v => decide (G.countP (Bt v) = 1) with
    | none =>
      refine ⟨.refl _, fun v hv hd => ?_⟩
      rw [List.find?_eq_none] at hf
      exact hf v (List.mem_range.2 hv) (by rw [decide_eq_true_eq]; exact (d1_cnt hn (fun _ => Iff.rfl)).1 hd)
    | some v =>
      have hc := List.find?_some hf
      have hv := List.mem_range.1 (List.mem_of_find?_eq_some hf)
      rw [decide_eq_true_eq] at hc
      have hd : D1 v G := (d1_cnt hn (fun _ => Iff.rfl)).2 hc
      have hlt2 : mbN (stepZ v G) < f := by
        obtain ⟨x, hx, hb, _⟩ := hd
        have := mb_cut hm (by omega : v < 6) hS (List.any_eq_true.2 ⟨x, hx, hb⟩)
        unfold stepZ
        rw [mb_gr hm (woZ_sets hS)]
        omega
      obtain ⟨h1, h2⟩ := ih (stepZ v G) (gr_nodup _) (stepZ_sets hS) hlt2
      exact ⟨.head v hv hd h1, h2⟩

end Go.Proofs.YtobjmiaanoheeaaDoor

/- It is proved that members that may leave first may leave later, too, so that the first choice needs no way back; conditions: those of each statement. -/
namespace Go.Proofs.YtobjmiaanoheeaaDoor
open Go.RowKit

/-- All members of the clubs with a member. -/
def arN (v : Nat) (zs : List Int) : Nat := (zs.filter (Bt v)).foldl (fun t z => t ||| z.toNat) 0

theorem arN_snoc (v : Nat) (zs : List Int) (z : Int) : arN v (zs ++ [z]) = if Bt v z = true then arN v zs ||| z.toNat else arN v zs := by
  unfold arN
  rw [List.filter_append]
  cases h : Bt v z <;> simp [h]

theorem fold_bit (i : Nat) : ∀ (l : List Int) (t : Nat), (l.foldl (fun t z => t ||| z.toNat) t).testBit i = (t.testBit i || l.any (Bt i))
  | [], t => by simp
  | z :: l, t => by rw [List.foldl_cons, fold_bit i l, Nat.testBit_or, List.any_cons, Bool.or_assoc]; rfl

theorem arN_bit (v : Nat) (zs : List Int) (i : Nat) : (arN v zs).testBit i = true ↔ ∃ z ∈ zs, Bt v z = true ∧ Bt i z = true := by
  unfold arN
  rw [fold_bit, Nat.zero_testBit, Bool.false_or, List.any_eq_true]
  constructor
  · rintro ⟨z, hz, hb⟩
    obtain ⟨h1, h2⟩ := List.mem_filter.1 hz
    exact ⟨z, h1, h2, hb⟩
  · rintro ⟨z, h1, h2, hb⟩
    exact ⟨z, List.mem_filter.2 ⟨h1, h2⟩, hb⟩

theorem arN_lt {m v : Nat} {zs : List Int} (hS : Sets m zs) : arN v zs < 2 ^ m := by
  apply Nat.lt_pow_two_of_testBit
  intro i hi
  cases hb : (arN v zs).testBit i
  · rfl
  · obtain ⟨z, hz, _, h2⟩ := (arN_bit v zs i).1 hb
    have := bt_lt (hS z hz).2 h2
    omega

end Go.Proofs.YtobjmiaanoheeaaDoor
