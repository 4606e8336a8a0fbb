/- It is proved what a round of reducing does to a list of sets; conditions: those of each statement. -/
import Derived.RowKit
import Derived.Laws.CopyRow
import Derived.Lib.SlBuf
import Derived.Deep.QuietTactic
import Derived.RangeFuncNested
import Derived.RangeFuncBound
import Derived.RangeFuncCalls
import Derived.RangeFuncLeaves
import Derived.RangeFuncBox
import Derived.RangeFuncWrites
import Derived.StillTailTactics
import Derived.Maps.OwnIn
import Derived.Maps.Ext
import Derived.DeepKeys4
import Derived.MapKept
import Derived.Test.YtckbhhaigpajpaaDoorRows
import Derived.WalkKit
import Derived.WalkSpells
import Derived.ProofKit
import Derived.OpenShut
import Derived.ShutString
import Derived.ChangeOld
import Derived.Below
import Derived.Deep.RegionHeld3
import Derived.BigQuiet
import Derived.Lib.Hide
import Derived.Lib.SmallJoins
import Derived.Outline
import Derived.Laws.MakeOwn
import Derived.Laws.OwnMore
import Derived.IntWalk
import Derived.Lib.AppendZeros
import Derived.Maps.AppendAt
import Derived.Deep.AppendLies
import Derived.OwnWalk
import Derived.Lib.SlicesCompact
import Derived.Lib.OwnBridge
import Derived.OrdersIn
import Derived.TacticsIn
import Derived.Shelf.Sort.Plain
import Derived.Shelf.Slices.In.SortNone
import Derived.Shelf.Slices.CompactI
import Derived.Ground.Names2Prog
import Derived.Lib.SliceRun
import Derived.Shelf.Abstract
import Derived.Shelf.RegionOpen
import Derived.OwnWalkIn
import Derived.TacticsInMore
import Derived.LoopNIn
import Derived.LoopIn
import Derived.StillTail
import Derived.StillTactics
import Derived.Shelf.Spec.TrailingZeros
import Derived.Test.YtckbhhaigpajpaaDoorRaai
import Derived.Test.YtckbhhaigpajpaaDoorRaah
import Derived.Test.YtckbhhaigpajpaaDoorRaad
import Derived.Test.YtckbhhaigpajpaaDoorRaaf
import Derived.Sort.MapsRangeIn
import Derived.Deep.RegionLaw
import Derived.Deep.LoopGhost
namespace Go.Proofs.YtckbhhaigpajpaaDoor
open Go.RowKit

def mbN (zs : List Int) : Nat := (List.range 6).countP fun v => zs.any (Bt v)
theorem mbN_le (zs : List Int) : mbN zs ≤ 6 := by
  have := List.countP_le_length (p := fun v => zs.any (Bt v)) (l := List.range 6)
  simpa [mbN] using this

theorem cnt6 (p q : Nat → Bool) (v : Nat) (hv : v < 6) (hp : p v = true) (hq : q v = false) (h : ∀ u, u < 6 → u ≠ v → q u = p u) : (List.range 6).countP q + 1 = (List.range 6).countP p := by
  have h0 := h 0 (by omega)
  have h1 := h 1 (by omega)
  have h2 := h 2 (by omega)
  have h3 := h 3 (by omega)
  have h4 := h 4 (by omega)
  have h5 := h 5 (by omega)
  rw [show List.range 6 = [0, 1, 2, 3, 4, 5] from rfl]
  simp only [List.countP_cons, List.countP_nil]
  match v, hv with
  | 0, _ => rw [hp, hq, h1 (by omega), h2 (by omega), h3 (by omega), h4 (by omega), h5 (by omega)]; simp
  | 1, _ => rw [hp, hq, h0 (by omega), h2 (by omega), h3 (by omega), h4 (by omega), h5 (by omega)]; simp; omega
  | 2, _ => rw [hp, hq, h0 (by omega), h1 (by omega), h3 (by omega), h4 (by omega), h5 (by omega)]; simp; omega
  | 3, _ => rw [hp, hq, h0 (by omega), h1 (by omega), h2 (by omega), h4 (by omega), h5 (by omega)]; simp; omega
  | 4, _ => rw [hp, hq, h0 (by omega), h1 (by omega), h2 (by omega), h3 (by omega), h5 (by omega)]; simp; omega
  | 5, _ => rw [hp, hq, h0 (by omega), h1 (by omega), h2 (by omega), h3 (by omega), h4 (by omega)]; simp; omega

theorem mb_ext {zs ys : List Int} (h : ∀ v, v < 6 → zs.any (Bt v) = ys.any (Bt v)) : mbN zs = mbN ys := by
  unfold mbN
  exact List.countP_congr fun v hv => by rw [h v (List.mem_range.1 hv)]

theorem mb_gr {m : Nat} (hm : m ≤ 6) {zs : List Int} (hS : Sets m zs) : mbN (grZ zs) = mbN zs := mb_ext fun v _ => by
  rw [Bool.eq_iff_iff, List.any_eq_true, List.any_eq_true]
  constructor
  · rintro ⟨x, hx, h⟩
    exact ⟨x, gr_sub hx, h⟩
  · rintro ⟨x, hx, h⟩
    obtain ⟨o, ho, hs⟩ := gr_above hm hS _ x rfl hx
    exact ⟨o, ho, subZ_bit hs h⟩

theorem mb_cut {m v : Nat} (hm : m ≤ 6) (hv : v < 6) {zs : List Int} (hS : Sets m zs) (h : zs.any (Bt v) = true) : mbN (zs.map (woZ v)) + 1 = mbN zs := by
  have hl : ∀ z ∈ zs, z.toNat < 64 := fun z hz => p64 hm (hS z hz).2
  unfold mbN
  refine cnt6 _ _ v hv h ?_ fun u hu hne => ?_
  · rw [List.any_eq_false]
    intro y hy hb
    obtain ⟨x, hx, rfl⟩ := List.mem_map.1 hy
    rw [woZ_bit (hl x hx) hv hv] at hb
    simp at hb
  · show (zs.map (woZ v)).any (Bt u) = zs.any (Bt u)
    rw [List.any_map, Bool.eq_iff_iff, List.any_eq_true, List.any_eq_true]
    constructor
    · rintro ⟨x, hx, hb⟩
      rw [Function.comp_apply, woZ_bit (hl x hx) hu hv, Bool.and_eq_true] at hb
      exact ⟨x, hx, hb.1⟩
    · rintro ⟨x, hx, hb⟩
      refine ⟨x, hx, ?_⟩
      rw [Function.comp_apply, woZ_bit (hl x hx) hu hv, hb, decide_eq_true hne]; rfl

theorem idx_one {p : Int → Bool} : ∀ {l : List Int}, l.countP p = 1 → ∀ {i j : Nat} {x y : Int}, l[i]? = some x → l[j]? = some y → p x = true → p y = true → i = j
  | [], h, _, _, _, _, _, _, _, _ => by simp at h
  | a :: l, h, 0, 0, _, _, _, _, _, _ => rfl
  | a :: l, h, 0, j + 1, x, y, hx, hy, px, py => by
      simp only [List.getElem?_cons_zero, Option.some.injEq] at hx
      simp only [List.getElem?_cons_succ] at hy
      subst hx
      rw [List.countP_cons, if_pos px] at h
      have := List.countP_eq_zero.1 (by omega : l.countP p = 0) y (List.mem_of_getElem? hy)
      exact (this py).elim
  | a :: l, h, i + 1, 0, x, y, hx, hy, px, py => by
      simp only [List.getElem?_cons_zero, Option.some.injEq] at hy
      simp only [List.getElem?_cons_succ] at hx
      subst hy
      rw [List.countP_cons, if_pos py] at h
      have := List.countP_eq_zero.1 (by omega : l.countP p = 0) x (List.mem_of_getElem? hx)
      exact (this px).elim
  | a :: l, h, i + 1, j + 1, x, y, hx, hy, px, py => by
      simp only [List.getElem?_cons_succ] at hx hy
      rw [List.countP_cons] at h
      have h1 : 1 ≤ l.countP p := List.countP_pos_iff.2 ⟨x, List.mem_of_getElem? hx, px⟩
      by_cases e : p a = true
      · rw [if_pos e] at h; omega
      · rw [if_neg e] at h
        have := idx_one h hx hy px py
        omega

theorem bt_lt {m v : Nat} {z : Int} (h : z.toNat < 2 ^ m) (hb : Bt v z = true) : v < m := by
  by_cases e : v < m
  · exact e
  · unfold Bt at hb
    rw [Nat.testBit_lt_two_pow (Nat.lt_of_lt_of_le h (Nat.pow_le_pow_right (by decide) (by omega)))] at hb
    cases hb

theorem d1_cnt {v : Nat} {l G : List Int} (hn : l.Nodup) (h : ∀ z, z ∈ G ↔ z ∈ l) : D1 v G ↔ l.countP (Bt v) = 1 := by
  constructor
  · rintro ⟨x, hx, hb, hq⟩
    have e : l.countP (Bt v) = l.countP (fun z => decide (z = x)) := List.countP_congr fun z hz => by
      rw [decide_eq_true_eq]
      exact ⟨fun hz' => hq z ((h z).2 hz) hz', fun e => e ▸ hb⟩
    rw [e]
    have h2 : l.countP (fun z => decide (z = x)) = l.count x := by
      rw [List.count]
      exact List.countP_congr fun z _ => by rw [decide_eq_true_eq, beq_iff_eq]
    rw [h2, List.Nodup.count hn, if_pos ((h x).1 hx)]
  · intro hc
    obtain ⟨x, hx, hb⟩ := List.countP_pos_iff.1 (by omega : 0 < l.countP (Bt v))
    obtain ⟨i, hi⟩ := List.mem_iff_getElem?.1 hx
    refine ⟨x, (h x).2 hx, hb, fun y hy hyb => ?_⟩
    obtain ⟨j, hj⟩ := List.mem_iff_getElem?.1 ((h y).1 hy)
    have := idx_one hc hi hj hb hyb
    subst this
    rw [hi] at hj
    exact (Option.some.inj hj).symm

theorem gr_nodup (zs : List Int) : (grZ zs).Nodup := (unbeaten_asc geG zs).imp (fun h => by omega)
/-- What is left, told by reducing the first such member again and again. -/
def redF : Nat → Nat → List Int → List Int
  | 0, _, G => G
  | f + 1, m, G => match (List.range m).find? fun v => decide (G.countP (Bt v) = 1) with
    | none => G
    | some v => redF f m (stepZ v G)

def redZ (m : Nat) (zs : List Int) : List Int := redF 7 m (grZ zs)
theorem redF_is {m : Nat} (hm : m ≤ 6) : ∀ (f : Nat) (G : List Int), G.Nodup → Sets m G → mbN G < f → Red m G (redF f m G) ∧ Done m (redF f m G) := by
  intro f
  induction f with
  | zero => intro G _ _ h; omega
  | succ f ih =>
    intro G hn hS hlt
    rw [redF]
    cases hf : (List.range m).find? fun v => decide (G.countP (Bt v) = 1) with
    | none =>
      refine ⟨.refl _, fun v hv hd => ?_⟩
      rw [List.find?_eq_none] at hf
      exact hf v (List.mem_range.2 hv) (by rw [decide_eq_true_eq]; exact (d1_cnt hn (fun _ => Iff.rfl)).1 hd)
    | some v =>
      have hc := List.find?_some hf
      have hv := List.mem_range.1 (List.mem_of_find?_eq_some hf)
      rw [decide_eq_true_eq] at hc
      have hd : D1 v G := (d1_cnt hn (fun _ => Iff.rfl)).2 hc
      have hlt2 : mbN (stepZ v G) < f := by
        obtain ⟨x, hx, hb, _⟩ := hd
        have := mb_cut hm (by omega : v < 6) hS (List.any_eq_true.2 ⟨x, hx, hb⟩)
        unfold stepZ
        rw [mb_gr hm (woZ_sets hS)]
        omega
      obtain ⟨h1, h2⟩ := ih (stepZ v G) (gr_nodup _) (stepZ_sets hS) hlt2
      exact ⟨.head v hv hd h1, h2⟩

end Go.Proofs.YtckbhhaigpajpaaDoor

/- It is proved what EarFalls and EarSteps of the model return; conditions: those of each statement. -/
namespace Go.Proofs.YtckbhhaigpajpaaDoor
open Go.RowKit

theorem redZ_done {k : Nat} (hk6 : k ≤ 6) {zs : List Int} (hz : Sets k zs) : Red k (grZ zs) (redZ k zs) ∧ Done k (redZ k zs) :=
  redF_is hk6 7 (grZ zs) (gr_nodup _) (gr_sets hz) (by have := mbN_le (grZ zs); omega)

theorem redZ_sets {k : Nat} (hk6 : k ≤ 6) {zs : List Int} (hz : Sets k zs) : Sets k (redZ k zs) := (redZ_done hk6 hz).1.sets (gr_sets hz)
end Go.Proofs.YtckbhhaigpajpaaDoor
