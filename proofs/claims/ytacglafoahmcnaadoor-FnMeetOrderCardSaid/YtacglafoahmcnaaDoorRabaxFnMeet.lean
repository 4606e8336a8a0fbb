/- It is proved what a round of reducing does to a list of sets; conditions: those of each statement. -/
import Derived.RowKit
import Derived.Laws.CopyRow
import Derived.Lib.SlBuf
import Derived.Deep.QuietTactic
import Derived.RangeFuncNested
import Derived.RangeFuncBound
import Derived.RangeFuncCalls
import Derived.RangeFuncLeaves
import Derived.RangeFuncBox
import Derived.RangeFuncWrites
import Derived.StillTailTactics
import Derived.Maps.OwnIn
import Derived.Maps.Ext
import Derived.DeepKeys4
import Derived.MapKept
import Derived.Test.YtacglafoahmcnaaDoorRows
import Derived.WalkKit
import Derived.WalkSpells
import Derived.ProofKit
import Derived.OpenShut
import Derived.ShutString
import Derived.ChangeOld
import Derived.Below
import Derived.Deep.RegionHeld3
import Derived.BigQuiet
import Derived.Lib.Hide
import Derived.Lib.SmallJoins
import Derived.Outline
import Derived.Laws.MakeOwn
import Derived.Laws.OwnMore
import Derived.IntWalk
import Derived.Lib.AppendZeros
import Derived.Maps.AppendAt
import Derived.Deep.AppendLies
import Derived.OwnWalk
import Derived.Lib.SlicesCompact
import Derived.Lib.OwnBridge
import Derived.OrdersIn
import Derived.TacticsIn
import Derived.Shelf.Sort.Plain
import Derived.Shelf.Slices.In.SortNone
import Derived.Shelf.Slices.CompactI
import Derived.Ground.Names2Prog
import Derived.Lib.SliceRun
import Derived.Shelf.Abstract
import Derived.Shelf.RegionOpen
import Derived.OwnWalkIn
import Derived.TacticsInMore
import Derived.LoopNIn
import Derived.LoopIn
import Derived.StillTail
import Derived.StillTactics
import Derived.Shelf.Spec.TrailingZeros
import Derived.Test.YtacglafoahmcnaaDoorRaal
import Derived.Test.YtacglafoahmcnaaDoorRaah
import Derived.Test.YtacglafoahmcnaaDoorRaam
import Derived.Test.YtacglafoahmcnaaDoorYa
import Derived.Test.YtacglafoahmcnaaDoorRaag
import Derived.Test.YtacglafoahmcnaaDoorRaazxFnMeet
namespace Go.Proofs.YtacglafoahmcnaaDoor
open Go.RowKit

def mbN (zs : List Int) : Nat := (List.range 6).countP fun v => zs.any (Bt v)
theorem mbN_le (zs : List Int) : mbN zs ≤ 6 := by
  have := List.countP_le_length (p := fun v => zs.any (Bt v)) (l := List.range 6)
  simpa [mbN] using this

theorem cnt6 (p q : Nat → Bool) (v : Nat) (hv : v < 6) (hp : p v = true) (hq : q v = false) (h : ∀ u, u < 6 → u ≠ v → q u = p u) : (List.range 6).countP q + 1 = (List.range 6).countP p := by
  have h0 := h 0 (by omega)
  have h1 := h 1 (by omega)
  have h2 := h 2 (by omega)
  have h3 := h 3 (by omega)
  have h4 := h 4 (by omega)
  have h5 := h 5 (by omega)
  rw [show List.range 6 = [0, 1, 2, 3, 4, 5] from rfl]
  simp only [List.countP_cons, List.countP_nil]
  match v, hv with
  | 0, _ => rw [hp, hq, h1 (by omega), h2 (by omega), h3 (by omega), h4 (by omega), h5 (by omega)]; simp
  | 1, _ => rw [hp, hq, h0 (by omega), h2 (by omega), h3 (by omega), h4 (by omega), h5 (by omega)]; simp; omega
  | 2, _ => rw [hp, hq, h0 (by omega), h1 (by omega), h3 (by omega), h4 (by omega), h5 (by omega)]; simp; omega
  | 3, _ => rw [hp, hq, h0 (by omega), h1 (by omega), h2 (by omega), h4 (by omega), h5 (by omega)]; simp; omega
  | 4, _ => rw [hp, hq, h0 (by omega), h1 (by omega), h2 (by omega), h3 (by omega), h5 (by omega)]; simp; omega
  | 5, _ => rw [hp, hq, h0 (by omega), h1 (by omega), h2 (by omega), h3 (by omega), h4 (by omega)]; simp; omega

theorem mb_ext {zs ys : List Int} (h : ∀ v, v < 6 → zs.any (Bt v) = ys.any (Bt v)) : mbN zs = mbN ys := by
  unfold mbN
  exact List.countP_congr fun v hv => by rw [h v (List.mem_range.1 hv)]

theorem mb_gr {m : Nat} (hm : m ≤ 6) {zs : List Int} (hS : Sets m zs) : mbN (grZ zs) = mbN zs := mb_ext fun v _ => by
  rw [Bool.eq_iff_iff, List.any_eq_true, List.any_eq_true]
  constructor
  · rintro ⟨x, hx, h⟩
    exact ⟨x, gr_sub hx, h⟩
  · rintro ⟨x, hx, h⟩
    obtain ⟨o, ho, hs⟩ := gr_above hm hS _ x rfl hx
    exact ⟨o, ho, subZ_bit hs h⟩

theorem mb_cut {m v : Nat} (hm : m ≤ 6) (hv : v < 6) {zs : List Int} (hS : Sets m zs) (h : zs.any (Bt v) = true) : mbN (zs.map (woZ v)) + 1 = mbN zs := by
  have hl : ∀ z ∈ zs, z.toNat < 64 := fun z hz => p64 hm (hS z hz).2
  unfold mbN
  refine cnt6 _ _ v hv h ?_ fun u hu hne => ?_
  · rw [List.any_eq_false]
    intro y hy hb
    obtain ⟨x, hx, rfl⟩ := List.mem_map.1 hy
    rw [woZ_bit (hl x hx) hv hv] at hb
    simp at hb
  · show (zs.map (woZ v)).any (Bt u) = zs.any (Bt u)
    rw [List.any_map, Bool.eq_iff_iff, List.any_eq_true, List.any_eq_true]
    constructor
    · rintro ⟨x, hx, hb⟩
      rw [Function.comp_apply, woZ_bit (hl x hx) hu hv, Bool.and_eq_true] at hb
      exact ⟨x, hx, hb.1⟩
    · rintro ⟨x, hx, hb⟩
      refine ⟨x, hx, ?_⟩
      rw [Function.comp_apply, woZ_bit (hl x hx) hu hv, hb, decide_eq_true hne]; rfl

theorem idx_one {p : Int → Bool} : ∀ {l : List Int}, l.countP p = 1 → ∀ {i j : Nat} {x y : Int}, l[i]? = some x → l[j]? = some y → p x = true → p y = true → i = j
  | [], h, _, _, _, _, _, _, _, _ => by simp at h
  | a :: l, h, 0, 0, _, _, _, _, _, _ => rfl
  | a :: l, h, 0, j + 1, x, y, hx, hy, px, py => by
      simp only [List.getElem?_cons_zero, Option.some.injEq] at hx
      simp only [List.getElem?_cons_succ] at hy
      subst hx
      rw [List.countP_cons, if_pos px] at h
      have := List.countP_eq_zero.1 (by omega : l.countP p = 0) y (List.mem_of_getElem? hy)
      exact (this py).elim
  | a :: l, h, i + 1, 0, x, y, hx, hy, px, py => by
      simp only [List.getElem?_cons_zero, Option.some.injEq] at hy
      simp only [List.getElem?_cons_succ] at hx
      subst hy
      rw [List.countP_cons, if_pos py] at h
      have := List.countP_eq_zero.1 (by omega : l.countP p = 0) x (List.mem_of_getElem? hx)
      exact (this px).elim
  | a :: l, h, i + 1, j + 1, x, y, hx, hy, px, py => by
      simp only [List.getElem?_cons_succ] at hx hy
      rw [List.countP_cons] at h
      have h1 : 1 ≤ l.countP p := List.countP_pos_iff.2 ⟨x, List.mem_of_getElem? hx, px⟩
      by_cases e : p a = true
      · rw [if_pos e] at h; omega
      · rw [if_neg e] at h
        have := idx_one h hx hy px py
        omega

theorem set_map {l : List Int} {p : Int → Bool} {f : Int → Int} (hc : l.countP p = 1) {i : Nat} {x : Int} (hx : l[i]? = some x) (px : p x = true) (hf : ∀ z ∈ l, p z = false → f z = z) : l.set i (f x) = l.map f := by
  refine List.ext_getElem? fun j => ?_
  rw [List.getElem?_set, List.getElem?_map]
  have hi : i < l.length := (List.getElem?_eq_some_iff.1 hx).1
  by_cases e : i = j
  · subst e
    rw [if_pos rfl, if_pos hi, hx]; rfl
  · rw [if_neg e]
    cases hy : l[j]? with
    | none => rfl
    | some y =>
      show some y = some (f y)
      cases hp : p y
      · rw [hf y (List.mem_of_getElem? hy) hp]
      · exact (e (idx_one hc hx hy px hp)).elim

theorem erase_mem {l : List Int} {i : Nat} {z : Int} : z ∈ l.eraseIdx i ↔ ∃ j, j ≠ i ∧ l[j]? = some z := by
  rw [List.mem_eraseIdx_iff_getElem?]

theorem erase_sets {m i : Nat} {l : List Int} (hS : Sets m l) : Sets m (l.eraseIdx i) := fun z h => by
  obtain ⟨j, _, hj⟩ := erase_mem.1 h
  exact hS z (List.mem_of_getElem? hj)

theorem gr_erase {m : Nat} (hm : m ≤ 6) {l : List Int} (hS : Sets m l) {i k : Nat} {x y : Int} (hne : i ≠ k) (hx : l[i]? = some x) (hy : l[k]? = some y) (hs : subZ x y) : grZ (l.eraseIdx i) = grZ l := by
  have hxm := List.mem_of_getElem? hx
  have hym := List.mem_of_getElem? hy
  have he : ∀ z ∈ l, z ∈ l.eraseIdx i ∨ z = x := fun z hz => by
    obtain ⟨j, hj⟩ := List.mem_iff_getElem?.1 hz
    by_cases e : j = i
    · subst e; rw [hx] at hj; exact .inr (Option.some.inj hj).symm
    · exact .inl (erase_mem.2 ⟨j, e, hj⟩)
  have hye : y ∈ l.eraseIdx i := erase_mem.2 ⟨k, fun e => hne e.symm, hy⟩
  have hin : ∀ z ∈ l.eraseIdx i, z ∈ l := fun z h => by
    obtain ⟨j, _, hj⟩ := erase_mem.1 h
    exact List.mem_of_getElem? hj
  refine gr_ext hm (erase_sets hS) hS fun z => ?_
  constructor
  · rintro ⟨h1, h2⟩
    refine ⟨hin z h1, fun o ho hso => ?_⟩
    rcases he o ho with h | rfl
    · exact h2 o h hso
    · have e := h2 y hye (subZ_trans hso hs)
      subst e
      exact subZ_anti (hS _ hxm).1 (hS _ hym).1 hs hso
  · rintro ⟨h1, h2⟩
    refine ⟨?_, fun o ho => h2 o (hin o ho)⟩
    rcases he z h1 with h | rfl
    · exact h
    · rw [← h2 y hym hs]; exact hye

theorem mb_erase {m : Nat} (hm : m ≤ 6) {l : List Int} (hS : Sets m l) {i k : Nat} {x y : Int} (hne : i ≠ k) (hx : l[i]? = some x) (hy : l[k]? = some y) (hs : subZ x y) : mbN (l.eraseIdx i) = mbN l := by
  rw [← mb_gr hm (erase_sets hS), gr_erase hm hS hne hx hy hs, mb_gr hm hS]

/-- What the model's reducing keeps: its list and its steps. -/
def RedS (m : Nat) (zs out : List Int) (st : Nat) : Prop := Sets m out ∧ Red m (grZ zs) (grZ out) ∧ st + mbN out + out.length = mbN zs + zs.length

theorem bt_lt {m v : Nat} {z : Int} (h : z.toNat < 2 ^ m) (hb : Bt v z = true) : v < m := by
  by_cases e : v < m
  · exact e
  · unfold Bt at hb
    rw [Nat.testBit_lt_two_pow (Nat.lt_of_lt_of_le h (Nat.pow_le_pow_right (by decide) (by omega)))] at hb
    cases hb

theorem d1_gr {m v : Nat} (hm : m ≤ 6) {l : List Int} (hS : Sets m l) (hc : l.countP (Bt v) = 1) {i : Nat} {x : Int} (hx : l[i]? = some x) (hb : Bt v x = true) : D1 v (grZ l) := by
  have one : ∀ y ∈ l, Bt v y = true → y = x := fun y hy h => by
    obtain ⟨j, hj⟩ := List.mem_iff_getElem?.1 hy
    have := idx_one hc hx hj hb h
    subst this
    rw [hx] at hj
    exact (Option.some.inj hj).symm
  exact ⟨x, (gr_mem hm hS x).2 ⟨List.mem_of_getElem? hx, fun o ho hs => one o ho (subZ_bit hs hb)⟩, hb, fun y hy h => one y (gr_sub hy) h⟩

theorem RedS.cut {m : Nat} (hm : m ≤ 6) {zs out : List Int} {st : Nat} (h : RedS m zs out st) {v : Nat} (hv : v < 6) (hc : out.countP (Bt v) = 1) {i : Nat} {x : Int} (hx : out[i]? = some x) (hb : Bt v x = true) :
    RedS m zs (out.set i (woZ v x)) (st + 1) := by
  obtain ⟨hS, hr, he⟩ := h
  have hl : ∀ z ∈ out, z.toNat < 64 := fun z hz => p64 hm (hS z hz).2
  have hxm := List.mem_of_getElem? hx
  rw [set_map (f := woZ v) hc hx hb (fun z hz hp => woZ_same (hS z hz).1 (hl z hz) hv hp)]
  refine ⟨woZ_sets hS, hr.trans ?_, ?_⟩
  · have h2 : stepZ v (grZ out) = grZ (out.map (woZ v)) := gr_map hm hS (woZ v) (woZ_sets hS) fun x _ y _ h => woZ_mono v h
    rw [← h2]
    exact .one (bt_lt (hS x hxm).2 hb) (d1_gr hm hS hc hx hb)
  · have := mb_cut hm hv hS (List.any_eq_true.2 ⟨x, hxm, hb⟩)
    rw [List.length_map]
    omega

theorem RedS.drop {m : Nat} (hm : m ≤ 6) {zs out : List Int} {st : Nat} (h : RedS m zs out st) {i k : Nat} {x y : Int} (hne : i ≠ k) (hx : out[i]? = some x) (hy : out[k]? = some y) (hs : subZ x y) :
    RedS m zs (out.eraseIdx i) (st + 1) := by
  obtain ⟨hS, hr, he⟩ := h
  have hi : i < out.length := (List.getElem?_eq_some_iff.1 hx).1
  refine ⟨erase_sets hS, ?_, ?_⟩
  · rw [gr_erase hm hS hne hx hy hs]; exact hr
  · rw [mb_erase hm hS hne hx hy hs, List.length_eraseIdx, if_pos hi]
    omega

theorem RedS.start {m : Nat} {zs : List Int} (hS : Sets m zs) : RedS m zs zs 0 := ⟨hS, .refl _, by omega⟩
/-- No set is a part of one at another place. -/
def Apart (l : List Int) (n : Nat) : Prop := ∀ i, i < n → ∀ k x y, i ≠ k → l[i]? = some x → l[k]? = some y → subZ x y → x = y ∧ i ≤ k

theorem Apart.ne {l : List Int} (h : Apart l l.length) {i k : Nat} {x y : Int} (hne : i ≠ k) (hx : l[i]? = some x) (hy : l[k]? = some y) : ¬ subZ x y := fun hs => by
  have hi : i < l.length := (List.getElem?_eq_some_iff.1 hx).1
  have hk : k < l.length := (List.getElem?_eq_some_iff.1 hy).1
  obtain ⟨e, h1⟩ := h i hi k x y hne hx hy hs
  subst e
  have := (h k hk i x x (fun e => hne e.symm) hy hx hs).2
  omega

theorem apart_gr {m : Nat} (hm : m ≤ 6) {l : List Int} (hS : Sets m l) (h : Apart l l.length) : (∀ z, z ∈ grZ l ↔ z ∈ l) ∧ l.Nodup ∧ simpZ l = grZ l := by
  have h1 : ∀ z, z ∈ grZ l ↔ z ∈ l := fun z => by
    rw [gr_mem hm hS]
    refine ⟨fun h => h.1, fun hz => ⟨hz, fun o ho hs => ?_⟩⟩
    obtain ⟨i, hi⟩ := List.mem_iff_getElem?.1 hz
    obtain ⟨k, hk⟩ := List.mem_iff_getElem?.1 ho
    by_cases e : i = k
    · subst e; rw [hi] at hk; exact (Option.some.inj hk).symm
    · exact (h.ne e hi hk hs).elim
  refine ⟨h1, ?_, ?_⟩
  · unfold List.Nodup
    rw [List.pairwise_iff_getElem]
    intro i j hi hj hij e
    exact h.ne (x := l[i]) (y := l[j]) (by omega) (List.getElem?_eq_getElem hi) (List.getElem?_eq_getElem hj) (by rw [e]; exact subZ_refl _)
  · exact asc_ext _ _ (simpZ_asc l) (unbeaten_asc _ _) fun z => by rw [simpZ_mem]; exact (h1 z).symm

theorem d1_cnt {v : Nat} {l G : List Int} (hn : l.Nodup) (h : ∀ z, z ∈ G ↔ z ∈ l) : D1 v G ↔ l.countP (Bt v) = 1 := by
  constructor
  · rintro ⟨x, hx, hb, hq⟩
    have e : l.countP (Bt v) = l.countP (fun z => decide (z = x)) := List.countP_congr fun z hz => by
      rw [decide_eq_true_eq]
      exact ⟨fun hz' => hq z ((h z).2 hz) hz', fun e => e ▸ hb⟩
    rw [e]
    have h2 : l.countP (fun z => decide (z = x)) = l.count x := by
      rw [List.count]
      exact List.countP_congr fun z _ => by rw [decide_eq_true_eq, beq_iff_eq]
    rw [h2, List.Nodup.count hn, if_pos ((h x).1 hx)]
  · intro hc
    obtain ⟨x, hx, hb⟩ := List.countP_pos_iff.1 (by omega : 0 < l.countP (Bt v))
    obtain ⟨i, hi⟩ := List.mem_iff_getElem?.1 hx
    refine ⟨x, (h x).2 hx, hb, fun y hy hyb => ?_⟩
    obtain ⟨j, hj⟩ := List.mem_iff_getElem?.1 ((h y).1 hy)
    have := idx_one hc hi hj hb hyb
    subst this
    rw [hi] at hj
    exact (Option.some.inj hj).symm

theorem gr_nodup (zs : List Int) : (grZ zs).Nodup := (unbeaten_asc geG zs).imp (fun h => by omega)
/-- What is left, told by reducing the first such member again and again. -/
def redF : Nat → Nat → List Int → List Int
  | 0, _, G => G
  | f + 1, m, G => match (List.range m).find? fun v => decide (G.countP (Bt v) = 1) with
    | none => G
    | some v => redF f m (stepZ v G)

def redZ (m : Nat) (zs : List Int) : List Int := redF 7 m (grZ zs)
theorem redF_is {m : Nat} (hm : m ≤ 6) : ∀ (f : Nat) (G : List Int), G.Nodup → Sets m G → mbN G < f → Red m G (redF f m G) ∧ Done m (redF f m G) := by
  intro f
  induction f with
  | zero => intro G _ _ h; omega
  | succ f ih =>
    intro G hn hS hlt
    rw [redF]
    cases hf : (List.range m).find? fun v => decide (G.countP (Bt v) = 1) with
    | none =>
      refine ⟨.refl _, fun v hv hd => ?_⟩
      rw [List.find?_eq_none] at hf
      exact hf v (List.mem_range.2 hv) (by rw [decide_eq_true_eq]; exact (d1_cnt hn (fun _ => Iff.rfl)).1 hd)
    | some v =>
      have hc := List.find?_some hf
      have hv := List.mem_range.1 (List.mem_of_find?_eq_some hf)
      rw [decide_eq_true_eq] at hc
      have hd : D1 v G := (d1_cnt hn (fun _ => Iff.rfl)).2 hc
      have hlt2 : mbN (stepZ v G) < f := by
        obtain ⟨x, hx, hb, _⟩ := hd
        have := mb_cut hm (by omega : v < 6) hS (List.any_eq_true.2 ⟨x, hx, hb⟩)
        unfold stepZ
        rw [mb_gr hm (woZ_sets hS)]
        omega
      obtain ⟨h1, h2⟩ := ih (stepZ v G) (gr_nodup _) (stepZ_sets hS) hlt2
      exact ⟨.head v hv hd h1, h2⟩

theorem redZ_is {m : Nat} (hm : m ≤ 6) {zs N : List Int} (hS : Sets m zs) (h : Red m (grZ zs) N) (hd : Done m N) : N = redZ m zs := by
  obtain ⟨h1, h2⟩ := redF_is hm 7 (grZ zs) (gr_nodup _) (gr_sets hS) (by have := mbN_le (grZ zs); omega)
  exact h.unique hm hd h1 h2 (gr_sets hS)

/-- The model is through: nothing changed in a round. -/
theorem RedS.done {m : Nat} (hm : m ≤ 6) {zs out : List Int} {st : Nat} (h : RedS m zs out st) (hz : Sets m zs) (ha : Apart out out.length) (hc : ∀ v, v < 6 → out.countP (Bt v) ≠ 1) :
    simpZ out = redZ m zs ∧ out.length = (redZ m zs).length ∧ (∀ z, z ∈ out ↔ z ∈ redZ m zs) ∧ st + mbN (redZ m zs) + (redZ m zs).length = mbN zs + zs.length := by
  obtain ⟨hS, hr, he⟩ := h
  obtain ⟨h1, h2, h3⟩ := apart_gr hm hS ha
  have hd : Done m (grZ out) := fun v hv h => hc v (by omega) ((d1_cnt h2 h1).1 h)
  have e := redZ_is hm hz hr hd
  have hl : out.length = (grZ out).length := by
    have hp : out.Perm (grZ out) := (List.perm_ext_iff_of_nodup h2 (gr_nodup _)).2 fun z => (h1 z).symm
    exact hp.length_eq
  rw [← e]
  refine ⟨h3, hl, fun z => (h1 z).symm, ?_⟩
  rw [mb_gr hm hS, ← hl]
  exact he

end Go.Proofs.YtacglafoahmcnaaDoor

/- It is proved that members that may leave first may leave later, too, so that the first choice needs no way back; conditions: those of each statement. -/
namespace Go.Proofs.YtacglafoahmcnaaDoor
open Go.RowKit

/-- All members of the clubs with a member. -/
def arN (v : Nat) (zs : List Int) : Nat := (zs.filter (Bt v)).foldl (fun t z => t ||| z.toNat) 0

theorem arN_snoc (v : Nat) (zs : List Int) (z : Int) : arN v (zs ++ [z]) = if Bt v z = true then arN v zs ||| z.toNat else arN v zs := by
  unfold arN
  rw [List.filter_append]
  cases h : Bt v z <;> simp [h]

theorem fold_bit (i : Nat) : ∀ (l : List Int) (t : Nat), (l.foldl (fun t z => t ||| z.toNat) t).testBit i = (t.testBit i || l.any (Bt i))
  | [], t => by simp
  | z :: l, t => by rw [List.foldl_cons, fold_bit i l, Nat.testBit_or, List.any_cons, Bool.or_assoc]; rfl

theorem arN_bit (v : Nat) (zs : List Int) (i : Nat) : (arN v zs).testBit i = true ↔ ∃ z ∈ zs, Bt v z = true ∧ Bt i z = true := by
  unfold arN
  rw [fold_bit, Nat.zero_testBit, Bool.false_or, List.any_eq_true]
  constructor
  · rintro ⟨z, hz, hb⟩
    obtain ⟨h1, h2⟩ := List.mem_filter.1 hz
    exact ⟨z, h1, h2, hb⟩
  · rintro ⟨z, h1, h2, hb⟩
    exact ⟨z, List.mem_filter.2 ⟨h1, h2⟩, hb⟩

theorem arN_lt {m v : Nat} {zs : List Int} (hS : Sets m zs) : arN v zs < 2 ^ m := by
  apply Nat.lt_pow_two_of_testBit
  intro i hi
  cases hb : (arN v zs).testBit i
  · rfl
  · obtain ⟨z, hz, _, h2⟩ := (arN_bit v zs i).1 hb
    have := bt_lt (hS z hz).2 h2
    omega

/-- A member may leave: one club with it has all the clubs with it, or none has it. -/
def leavB (v : Nat) (zs : List Int) : Bool := decide (arN v zs = 0) || zs.any fun z => decide (z = ((arN v zs : Nat) : Int))

def Leav (v : Nat) (zs : List Int) : Prop := (∀ z ∈ zs, Bt v z = false) ∨ ∃ M ∈ zs, Bt v M = true ∧ ∀ z ∈ zs, Bt v z = true → subZ z M
theorem leav_iff {m v : Nat} {zs : List Int} (hS : Sets m zs) : leavB v zs = true ↔ Leav v zs := by
  unfold leavB
  rw [Bool.or_eq_true, decide_eq_true_eq, List.any_eq_true]
  constructor
  · rintro (h | ⟨z, hz, he⟩)
    · left
      intro z hz
      cases hb : Bt v z
      · rfl
      · have := (arN_bit v zs v).2 ⟨z, hz, hb, hb⟩
        rw [h, Nat.zero_testBit] at this; cases this
    · have he' := of_decide_eq_true he
      by_cases h0 : arN v zs = 0
      · left
        intro y hy
        cases hb : Bt v y
        · rfl
        · have := (arN_bit v zs v).2 ⟨y, hy, hb, hb⟩
          rw [h0, Nat.zero_testBit] at this; cases this
      · right
        obtain ⟨i, hi⟩ := Nat.exists_testBit_of_ne_zero h0
        obtain ⟨y, hy, hv, _⟩ := (arN_bit v zs i).1 hi
        refine ⟨z, hz, ?_, fun x hx hxv => ?_⟩
        · unfold Bt
          rw [he', Int.toNat_natCast]
          exact (arN_bit v zs v).2 ⟨y, hy, hv, hv⟩
        · unfold subZ
          apply Nat.eq_of_testBit_eq
          intro j
          rw [Nat.testBit_and]
          cases hj : x.toNat.testBit j
          · simp
          · have : z.toNat.testBit j = true := by
              rw [he', Int.toNat_natCast]
              exact (arN_bit v zs j).2 ⟨x, hx, hxv, hj⟩
            rw [this]; rfl
  · rintro (h | ⟨M, hM, hv, hs⟩)
    · left
      apply Nat.eq_of_testBit_eq
      intro i
      rw [Nat.zero_testBit]
      cases hb : (arN v zs).testBit i
      · rfl
      · obtain ⟨z, hz, h1, _⟩ := (arN_bit v zs i).1 hb
        rw [h z hz] at h1; cases h1
    · right
      refine ⟨M, hM, decide_eq_true ?_⟩
      have h0 := (hS M hM).1
      have e : M.toNat = arN v zs := by
        apply Nat.eq_of_testBit_eq
        intro i
        rw [Bool.eq_iff_iff, arN_bit]
        constructor
        · exact fun hi => ⟨M, hM, hv, hi⟩
        · rintro ⟨z, hz, h1, h2⟩
          exact subZ_bit (hs z hz h1) h2
      omega

theorem leav_keeps {m : Nat} (hm : m ≤ 6) {zs : List Int} (hS : Sets m zs) {u v : Nat} (hu : u < 6) (hv : v < 6) (hne : u ≠ v) (h : Leav u zs) : Leav u (zs.map (woZ v)) := by
  have hl : ∀ z ∈ zs, z.toNat < 64 := fun z hz => p64 hm (hS z hz).2
  rcases h with h | ⟨M, hM, hb, hs⟩
  · left
    intro z hz
    obtain ⟨x, hx, rfl⟩ := List.mem_map.1 hz
    rw [woZ_bit (hl x hx) hu hv, h x hx]; rfl
  · right
    refine ⟨woZ v M, List.mem_map.2 ⟨M, hM, rfl⟩, ?_, fun z hz hzb => ?_⟩
    · rw [woZ_bit (hl M hM) hu hv, hb, decide_eq_true hne]; rfl
    · obtain ⟨x, hx, rfl⟩ := List.mem_map.1 hz
      rw [woZ_bit (hl x hx) hu hv, Bool.and_eq_true] at hzb
      exact woZ_mono v (hs x hx hzb.1)

/-- The members that are left, without one. -/
def lessP (t v : Nat) : Nat := woP t v

set_option maxRecDepth 100000 in
theorem less_fin : ∀ t : Fin 64, ∀ v : Fin 6, ∀ i : Fin 6, (lessP t.val v.val).testBit i.val = (t.val.testBit i.val && decide (i.val ≠ v.val)) := by decide +kernel

set_option maxRecDepth 100000 in
theorem less_lt_fin : ∀ t : Fin 64, ∀ v : Fin 6, lessP t.val v.val < 64 ∧ (t.val.testBit v.val = true → (memK 6 (lessP t.val v.val)).length + 1 = (memK 6 t.val).length) := by decide +kernel

theorem less_bit {t : Nat} (ht : t < 64) {v i : Nat} (hv : v < 6) (hi : i < 6) : (lessP t v).testBit i = (t.testBit i && decide (i ≠ v)) := less_fin ⟨t, ht⟩ ⟨v, hv⟩ ⟨i, hi⟩
theorem less_lt {t : Nat} (ht : t < 64) {v : Nat} (hv : v < 6) : lessP t v < 64 := (less_lt_fin ⟨t, ht⟩ ⟨v, hv⟩).1
theorem less_cnt {t : Nat} (ht : t < 64) {v : Nat} (hv : v < 6) (hb : t.testBit v = true) : (memK 6 (lessP t v)).length + 1 = (memK 6 t).length := (less_lt_fin ⟨t, ht⟩ ⟨v, hv⟩).2 hb
theorem bit_six {t : Nat} (ht : t < 64) {i : Nat} (h : t.testBit i = true) : i < 6 := by
  by_cases e : i < 6
  · exact e
  · rw [Nat.testBit_lt_two_pow (Nat.lt_of_lt_of_le ht (Nat.le_trans (show 64 ≤ 2 ^ 6 by decide) (Nat.pow_le_pow_right (n := 2) (by decide) (show 6 ≤ i by omega))))] at h; cases h

theorem less_comm {t : Nat} (ht : t < 64) {u v : Nat} (hu : u < 6) (hv : v < 6) : lessP (lessP t u) v = lessP (lessP t v) u := by
  apply Nat.eq_of_testBit_eq
  intro i
  by_cases hi : i < 6
  · rw [less_bit (less_lt ht hu) hv hi, less_bit ht hu hi, less_bit (less_lt ht hv) hu hi, less_bit ht hv hi, Bool.and_assoc, Bool.and_assoc, Bool.and_comm (decide (i ≠ u))]
  · have h1 : ∀ s, s < 64 → s.testBit i = false := fun s hs => by
      cases hb : s.testBit i
      · rfl
      · exact (hi (bit_six hs hb)).elim
    rw [h1 _ (less_lt (less_lt ht hu) hv), h1 _ (less_lt (less_lt ht hv) hu)]

/-- All that are left may leave, in some order. -/
inductive Ex : List Int → Nat → Prop
  | nil (zs : List Int) : Ex zs 0
  | cons {zs : List Int} {t : Nat} (v : Nat) (hv : t.testBit v = true) (hl : Leav v zs) (h : Ex (zs.map (woZ v)) (lessP t v)) : Ex zs t

theorem Ex.first {m : Nat} (hm : m ≤ 6) {zs : List Int} {t : Nat} (h : Ex zs t) : ∀ (_ : Sets m zs) (_ : t < 64) (u : Nat) (_ : t.testBit u = true) (_ : Leav u zs), Ex (zs.map (woZ u)) (lessP t u) := by
  induction h with
  | nil zs => exact fun _ _ u hu _ => by rw [Nat.zero_testBit] at hu; cases hu
  | @cons zs t v hv hl h ih =>
    intro hS ht u hu hlu
    have hu6 := bit_six ht hu
    have hv6 := bit_six ht hv
    by_cases e : u = v
    · subst e; exact h
    · have h1 := ih (woZ_sets hS) (less_lt ht hv6) u (by rw [less_bit ht hv6 hu6, hu, decide_eq_true e]; rfl) (leav_keeps hm hS hu6 hv6 e hlu)
      refine .cons v (by rw [less_bit ht hu6 hv6, hv, decide_eq_true (p := v ≠ u) (fun e' => e e'.symm)]; rfl) (leav_keeps hm hS hv6 hu6 (fun e' => e e'.symm) hl) ?_
      have e1 : (zs.map (woZ u)).map (woZ v) = (zs.map (woZ v)).map (woZ u) := by
        rw [List.map_map, List.map_map]
        exact List.map_congr_left fun z _ => woZ_comm v u z
      rw [e1, less_comm ht hu6 hv6]
      exact h1

/-- The order that takes the first one that may leave, again and again. -/
def ordN : Nat → List Int → Nat → Option (List Int)
  | 0, _, t => if t = 0 then some [] else none
  | f + 1, zs, t => if t = 0 then some [] else match (memK 6 t).find? fun v => leavB v zs with
    | none => none
    | some v => (ordN f (zs.map (woZ v)) (lessP t v)).map fun l => (v : Int) :: l

theorem mem_six {t v : Nat} : v ∈ memK 6 t ↔ v < 6 ∧ t.testBit v = true := by simp [memK]
theorem ord_some {m : Nat} (hm : m ≤ 6) : ∀ (f : Nat) (zs : List Int) (t : Nat), Sets m zs → t < 64 → (memK 6 t).length ≤ f → ((ordN f zs t).isSome = true ↔ Ex zs t)
  | 0, zs, t, _, ht, hc => by
    have : t = 0 := by
      by_cases e : t = 0
      · exact e
      · obtain ⟨i, hi⟩ := Nat.exists_testBit_of_ne_zero e
        have := List.length_pos_of_mem (mem_six.2 ⟨bit_six ht hi, hi⟩)
        omega
    subst this
    exact ⟨fun _ => .nil _, fun _ => rfl⟩
  | f + 1, zs, t, hS, ht, hc => by
    unfold ordN
    by_cases e : t = 0
    · subst e; exact ⟨fun _ => .nil _, fun _ => rfl⟩
    · rw [if_neg e]
      cases hf : (memK 6 t).find? fun v => leavB v zs with
      | none =>
        refine ⟨fun h => (by cases h), fun h => ?_⟩
        cases h with
        | nil _ => exact (e rfl).elim
        | cons v hv hl _ =>
          have := List.find?_eq_none.1 hf v (mem_six.2 ⟨bit_six ht hv, hv⟩)
          exact (this ((leav_iff hS).2 hl)).elim
      | some v =>
        obtain ⟨hv6, hv⟩ := mem_six.1 (List.mem_of_find?_eq_some hf)
        have hl := (leav_iff hS).1 (List.find?_some (p := fun v => leavB v zs) hf)
        have ih := ord_some hm f (zs.map (woZ v)) (lessP t v) (woZ_sets hS) (less_lt ht hv6) (by have := less_cnt ht hv6 hv; omega)
        show ((ordN f (zs.map (woZ v)) (lessP t v)).map _).isSome = true ↔ _
        rw [Option.isSome_map, ih]
        exact ⟨fun h => .cons v hv hl h, fun h => h.first hm hS ht v hv hl⟩

/-- No way back is needed. -/
theorem ord_same {m : Nat} (hm : m ≤ 6) {f : Nat} {zs : List Int} {t : Nat} (hS : Sets m zs) (ht : t < 64) (hc : (memK 6 t).length ≤ f + 1) {v : Nat} (hv : t.testBit v = true) (hl : leavB v zs = true) :
    (ordN (f + 1) zs t).isSome = (ordN f (zs.map (woZ v)) (lessP t v)).isSome := by
  have hv6 := bit_six ht hv
  have h1 := ord_some hm (f + 1) zs t hS ht hc
  have h2 := ord_some hm f (zs.map (woZ v)) (lessP t v) (woZ_sets hS) (less_lt ht hv6) (by have := less_cnt ht hv6 hv; omega)
  rw [Bool.eq_iff_iff, h1, h2]
  exact ⟨fun h => h.first hm hS ht v hv ((leav_iff hS).1 hl), fun h => .cons v hv ((leav_iff hS).1 hl) h⟩

theorem ord_len {m : Nat} (hm : m ≤ 6) : ∀ (f : Nat) (zs : List Int) (t : Nat) (l : List Int), Sets m zs → t < 64 → (memK 6 t).length ≤ f → ordN f zs t = some l → l.length = (memK 6 t).length
  | 0, zs, t, l, _, ht, hc, h => by
    unfold ordN at h
    split at h
    · rename_i e; subst e; cases h; rfl
    · cases h
  | f + 1, zs, t, l, hS, ht, hc, h => by
    unfold ordN at h
    by_cases e : t = 0
    · subst e; rw [if_pos rfl] at h; cases h; rfl
    · rw [if_neg e] at h
      cases hf : (memK 6 t).find? fun v => leavB v zs with
      | none => rw [hf] at h; cases h
      | some v =>
        rw [hf] at h
        obtain ⟨hv6, hv⟩ := mem_six.1 (List.mem_of_find?_eq_some hf)
        have hcn := less_cnt ht hv6 hv
        obtain ⟨r, hr, rfl⟩ := Option.map_eq_some_iff.1 h
        have ih := ord_len hm f (zs.map (woZ v)) (lessP t v) r (woZ_sets hS) (less_lt ht hv6) (by omega) hr
        rw [List.length_cons]
        omega

end Go.Proofs.YtacglafoahmcnaaDoor
