/- It is proved what the method without, FamilyLeast and FamilyGreatest of the program return; conditions: those of each statement. -/
import Derived.Test.YtckbhhaigpajpaaDoorRows
import Derived.WalkKit
import Derived.WalkSpells
import Derived.ProofKit
import Derived.OpenShut
import Derived.ShutString
import Derived.ChangeOld
import Derived.Below
import Derived.Deep.RegionHeld3
import Derived.Deep.QuietTactic
import Derived.BigQuiet
import Derived.Lib.Hide
import Derived.Lib.SmallJoins
import Derived.Outline
import Derived.Laws.MakeOwn
import Derived.Laws.OwnMore
import Derived.IntWalk
import Derived.Lib.AppendZeros
import Derived.Maps.AppendAt
import Derived.Deep.AppendLies
import Derived.OwnWalk
import Derived.Lib.SlicesCompact
import Derived.Lib.OwnBridge
import Derived.Shelf.Sort.Plain
import Derived.Shelf.Slices.In.SortNone
import Derived.Shelf.Slices.CompactI
import Derived.Ground.Names2Prog
import Derived.Lib.SliceRun
import Derived.RangeFuncNested
import Derived.RangeFuncBound
import Derived.RangeFuncCalls
import Derived.RangeFuncLeaves
import Derived.RangeFuncBox
import Derived.Shelf.Abstract
import Derived.Shelf.RegionOpen
import Derived.OwnWalkIn
import Derived.TacticsInMore
import Derived.LoopNIn
import Derived.LoopIn
import Derived.Test.YtckbhhaigpajpaaDoorRaah
import Derived.RowKit
import Derived.Laws.CopyRow
import Derived.Lib.SlBuf
import Derived.RangeFuncWrites
import Derived.StillTailTactics
import Derived.Maps.OwnIn
import Derived.Maps.Ext
import Derived.DeepKeys4
import Derived.MapKept
import Derived.OrdersIn
import Derived.TacticsIn
import Derived.StillTail
import Derived.StillTactics
import Derived.Shelf.Spec.TrailingZeros
import Derived.Test.YtckbhhaigpajpaaDoorRaad
import Derived.Test.YtckbhhaigpajpaaDoorRaab
import Derived.Test.YtckbhhaigpajpaaDoorRaaf
namespace Go.Proofs.YtckbhhaigpajpaaDoor
open Go.RowKit

/-- The clubs in order, once, that no other one beats. -/
def unbeaten (g : Int → Int → Bool) (zs : List Int) : List Int := (simpZ zs).filter fun z => !beaten g zs z

end Go.Proofs.YtckbhhaigpajpaaDoor

/- It is proved that least clubs are parts of no other one, and that each club has one of them as a part; conditions: those of each statement. -/
namespace Go.Proofs.YtckbhhaigpajpaaDoor
open Go.RowKit

theorem unbeaten_mem (g : Int → Int → Bool) (zs : List Int) (z : Int) : z ∈ unbeaten g zs ↔ z ∈ zs ∧ beaten g zs z = false := by
  simp [unbeaten, List.mem_filter, simpZ_mem]

theorem unbeaten_asc (g : Int → Int → Bool) (zs : List Int) : Asc (unbeaten g zs) := List.Pairwise.filter _ (simpZ_asc zs)
set_option maxRecDepth 100000 in
theorem leG_fin : ∀ o : Fin 64, ∀ z : Fin 64, leG (o.val : Int) (z.val : Int) = decide (o.val &&& z.val = o.val) := by decide +kernel

theorem leG_nat (o z : Nat) (ho : o < 64) (hz : z < 64) : leG (o : Int) (z : Int) = decide (o &&& z = o) := leG_fin ⟨o, ho⟩ ⟨z, hz⟩
end Go.Proofs.YtckbhhaigpajpaaDoor

/- It is proved that reducing a family leads to one family only, in whatever order it is done; conditions: those of each statement. -/
namespace Go.Proofs.YtckbhhaigpajpaaDoor
open Go.RowKit

def Bt (v : Nat) (z : Int) : Bool := z.toNat.testBit v
def subZ (x y : Int) : Prop := x.toNat &&& y.toNat = x.toNat
instance subZ.dec (x y : Int) : Decidable (subZ x y) := inferInstanceAs (Decidable (x.toNat &&& y.toNat = x.toNat))
theorem subZ_refl (x : Int) : subZ x x := Nat.and_self _
theorem subZ_trans {x y z : Int} (h1 : subZ x y) (h2 : subZ y z) : subZ x z := by
  unfold subZ at *
  rw [← h1, Nat.and_assoc, h2]

theorem subZ_bit {x y : Int} (h : subZ x y) {v : Nat} (hx : Bt v x = true) : Bt v y = true := by
  unfold Bt at *
  unfold subZ at h
  rw [← h, Nat.testBit_and, Bool.and_eq_true] at hx
  exact hx.2

theorem subZ_anti {x y : Int} (h0 : 0 ≤ x) (h1 : 0 ≤ y) (h : subZ x y) (h' : subZ y x) : x = y := by
  unfold subZ at h h'
  rw [Nat.and_comm] at h'
  rw [h] at h'
  omega

theorem subZ_lt {x y : Int} (h0 : 0 ≤ x) (h1 : 0 ≤ y) (h : subZ x y) (hne : x ≠ y) : x.toNat < y.toNat := by
  have := sub_lt h
  omega

def grZ (zs : List Int) : List Int := unbeaten geG zs
theorem geG_sub {m : Nat} (hm : m ≤ 6) {zs : List Int} (hS : Sets m zs) {o z : Int} (ho : o ∈ zs) (hz : z ∈ zs) : geG o z = true ↔ subZ z o := by
  obtain ⟨a, b⟩ := hS o ho
  obtain ⟨c, d⟩ := hS z hz
  have e := leG_nat z.toNat o.toNat (p64 hm d) (p64 hm b)
  rw [Int.toNat_of_nonneg a, Int.toNat_of_nonneg c] at e
  unfold geG subZ
  rw [e, decide_eq_true_eq]

theorem gr_mem {m : Nat} (hm : m ≤ 6) {zs : List Int} (hS : Sets m zs) (z : Int) : z ∈ grZ zs ↔ z ∈ zs ∧ ∀ o ∈ zs, subZ z o → o = z := by
  unfold grZ
  rw [unbeaten_mem]
  constructor
  · rintro ⟨h1, h2⟩
    refine ⟨h1, fun o ho hs => ?_⟩
    unfold beaten at h2
    rw [List.any_eq_false] at h2
    have := h2 o ho
    unfold beatBy at this
    by_cases e : o = z
    · exact e
    · exact (this (by rw [Bool.and_eq_true]; exact ⟨by rw [bne_iff_ne]; exact e, (geG_sub hm hS ho h1).2 hs⟩)).elim
  · rintro ⟨h1, h2⟩
    refine ⟨h1, ?_⟩
    unfold beaten
    rw [List.any_eq_false]
    intro o ho hb
    unfold beatBy at hb
    rw [Bool.and_eq_true, bne_iff_ne] at hb
    exact hb.1 (h2 o ho ((geG_sub hm hS ho h1).1 hb.2))

theorem gr_sub {zs : List Int} {z : Int} (h : z ∈ grZ zs) : z ∈ zs := ((unbeaten_mem _ _ _).1 h).1
theorem gr_sets {m : Nat} {zs : List Int} (hS : Sets m zs) : Sets m (grZ zs) := fun z h => hS z (gr_sub h)
theorem gr_ext {m : Nat} (hm : m ≤ 6) {zs ys : List Int} (hz : Sets m zs) (hy : Sets m ys) (h : ∀ z, (z ∈ zs ∧ ∀ o ∈ zs, subZ z o → o = z) ↔ (z ∈ ys ∧ ∀ o ∈ ys, subZ z o → o = z)) : grZ zs = grZ ys :=
  asc_ext _ _ (unbeaten_asc _ _) (unbeaten_asc _ _) fun z => by
    show z ∈ grZ zs ↔ z ∈ grZ ys
    rw [gr_mem hm hz, gr_mem hm hy]; exact h z

theorem gr_above {m : Nat} (hm : m ≤ 6) {zs : List Int} (hS : Sets m zs) : ∀ (n : Nat) (z : Int), 64 - z.toNat = n → z ∈ zs → ∃ o ∈ grZ zs, subZ z o := by
  intro n
  induction n using Nat.strongRecOn with
  | ind n ih =>
    intro z hn hz
    by_cases h : ∀ o ∈ zs, subZ z o → o = z
    · exact ⟨z, (gr_mem hm hS z).2 ⟨hz, h⟩, subZ_refl z⟩
    · obtain ⟨o, ho⟩ := Classical.not_forall.1 h
      obtain ⟨h1, ho⟩ := Classical.not_imp.1 ho
      obtain ⟨h2, h3⟩ := Classical.not_imp.1 ho
      have hlt := subZ_lt (hS z hz).1 (hS o h1).1 h2 (fun e => h3 e.symm)
      have h64 := p64 hm (hS o h1).2
      obtain ⟨p, hp, hs⟩ := ih (64 - o.toNat) (by omega) o rfl h1
      exact ⟨p, hp, subZ_trans h2 hs⟩

theorem gr_gr {m : Nat} (hm : m ≤ 6) {zs : List Int} (hS : Sets m zs) : grZ (grZ zs) = grZ zs :=
  gr_ext hm (gr_sets hS) hS fun z => by
    constructor
    · rintro ⟨h1, h2⟩
      exact (gr_mem hm hS z).1 h1
    · rintro ⟨h1, h2⟩
      exact ⟨(gr_mem hm hS z).2 ⟨h1, h2⟩, fun o ho => h2 o (gr_sub ho)⟩

theorem gr_map {m : Nat} (hm : m ≤ 6) {zs : List Int} (hS : Sets m zs) (f : Int → Int) (hf : Sets m (zs.map f)) (mono : ∀ x ∈ zs, ∀ y ∈ zs, subZ x y → subZ (f x) (f y)) : grZ ((grZ zs).map f) = grZ (zs.map f) := by
  have hf2 : Sets m ((grZ zs).map f) := fun z h => by
    obtain ⟨x, hx, rfl⟩ := List.mem_map.1 h
    exact hf _ (List.mem_map.2 ⟨x, gr_sub hx, rfl⟩)
  have key : ∀ x ∈ zs, ∃ y ∈ grZ zs, subZ (f x) (f y) := fun x hx => by
    obtain ⟨y, hy, hs⟩ := gr_above hm hS _ x rfl hx
    exact ⟨y, hy, mono x hx y (gr_sub hy) hs⟩
  refine gr_ext hm hf2 hf fun z => ?_
  constructor
  · rintro ⟨h1, h2⟩
    obtain ⟨x, hx, rfl⟩ := List.mem_map.1 h1
    refine ⟨List.mem_map.2 ⟨x, gr_sub hx, rfl⟩, fun o ho hs => ?_⟩
    obtain ⟨y, hy, rfl⟩ := List.mem_map.1 ho
    obtain ⟨p, hp, hps⟩ := key y hy
    have e := h2 _ (List.mem_map.2 ⟨p, hp, rfl⟩) (subZ_trans hs hps)
    rw [e] at hps
    exact (subZ_anti (hf _ (List.mem_map.2 ⟨x, gr_sub hx, rfl⟩)).1 (hf _ ho).1 hs hps).symm
  · rintro ⟨h1, h2⟩
    obtain ⟨x, hx, rfl⟩ := List.mem_map.1 h1
    obtain ⟨p, hp, hps⟩ := key x hx
    have e := h2 _ (List.mem_map.2 ⟨p, gr_sub hp, rfl⟩) hps
    refine ⟨List.mem_map.2 ⟨p, hp, e⟩, fun o ho hs => ?_⟩
    obtain ⟨y, hy, rfl⟩ := List.mem_map.1 ho
    exact h2 _ (List.mem_map.2 ⟨y, gr_sub hy, rfl⟩) hs

/-- A set without a member. -/
def woZ (v : Nat) (z : Int) : Int := ((woP z.toNat v : Nat) : Int)

theorem woZ_sets {m v : Nat} {zs : List Int} (hS : Sets m zs) : Sets m (zs.map (woZ v)) := fun z h => by
  obtain ⟨x, hx, rfl⟩ := List.mem_map.1 h
  refine ⟨Int.natCast_nonneg _, ?_⟩
  unfold woZ
  rw [Int.toNat_natCast]
  exact Nat.lt_of_le_of_lt (wo_le _ _) (hS x hx).2

theorem woZ_mono (v : Nat) {x y : Int} (h : subZ x y) : subZ (woZ v x) (woZ v y) := by
  unfold subZ woZ woP at *
  rw [Int.toNat_natCast, Int.toNat_natCast]
  rw [show x.toNat &&& (63 - 2 ^ v) &&& (y.toNat &&& (63 - 2 ^ v)) = (x.toNat &&& y.toNat) &&& ((63 - 2 ^ v) &&& (63 - 2 ^ v)) by
    rw [Nat.and_assoc, Nat.and_assoc, ← Nat.and_assoc (63 - 2 ^ v) y.toNat, Nat.and_comm (63 - 2 ^ v) y.toNat, Nat.and_assoc]]
  rw [h, Nat.and_self]

theorem woZ_comm (u v : Nat) (z : Int) : woZ u (woZ v z) = woZ v (woZ u z) := by
  unfold woZ woP
  rw [Int.toNat_natCast, Int.toNat_natCast, Nat.and_assoc, Nat.and_assoc, Nat.and_comm (63 - 2 ^ v)]

set_option maxRecDepth 100000 in
theorem wo_bits_fin : ∀ s : Fin 64, ∀ v u : Fin 6, (woP s.val v.val).testBit u.val = (s.val.testBit u.val && decide (u.val ≠ v.val)) := by decide +kernel

theorem woZ_bit {z : Int} (hz : z.toNat < 64) {u v : Nat} (hu : u < 6) (hv : v < 6) : Bt u (woZ v z) = (Bt u z && decide (u ≠ v)) := by
  unfold Bt woZ
  rw [Int.toNat_natCast]
  exact wo_bits_fin ⟨_, hz⟩ ⟨v, hv⟩ ⟨u, hu⟩

theorem woZ_same {z : Int} (h0 : 0 ≤ z) (hz : z.toNat < 64) {v : Nat} (hv : v < 6) (h : Bt v z = false) : woZ v z = z := by
  unfold woZ
  rw [(wo_part hz hv).2.2.2 h]
  omega

/-- A member that just one set has. -/
def D1 (v : Nat) (G : List Int) : Prop := ∃ x ∈ G, Bt v x = true ∧ ∀ y ∈ G, Bt v y = true → y = x

def stepZ (v : Nat) (G : List Int) : List Int := grZ (G.map (woZ v))
theorem stepZ_sets {m v : Nat} {G : List Int} (hS : Sets m G) : Sets m (stepZ v G) := gr_sets (woZ_sets hS)
theorem d1_keeps {m : Nat} (hm : m ≤ 6) {G : List Int} (hS : Sets m G) {u v : Nat} (hu : u < 6) (hv : v < 6) (hne : v ≠ u) (h : D1 v G) : D1 v (stepZ u G) := by
  obtain ⟨x, hx, hb, hq⟩ := h
  have hl : ∀ z ∈ G, z.toNat < 64 := fun z hz => p64 hm (hS z hz).2
  have one : ∀ y ∈ G, Bt v (woZ u y) = true → y = x := fun y hy h => by
    rw [woZ_bit (hl y hy) hv hu, Bool.and_eq_true] at h
    exact hq y hy h.1
  have hbx : Bt v (woZ u x) = true := by rw [woZ_bit (hl x hx) hv hu, hb, decide_eq_true hne]; rfl
  refine ⟨woZ u x, (gr_mem hm (woZ_sets hS) _).2 ⟨List.mem_map.2 ⟨x, hx, rfl⟩, fun o ho hs => ?_⟩, hbx, fun y hy h => ?_⟩
  · obtain ⟨y, hy, rfl⟩ := List.mem_map.1 ho
    rw [one y hy (subZ_bit hs hbx)]
  · obtain ⟨z, hz, rfl⟩ := List.mem_map.1 (gr_sub hy)
    rw [one z hz h]

theorem step_comm {m : Nat} (hm : m ≤ 6) {G : List Int} (hS : Sets m G) (u v : Nat) : stepZ v (stepZ u G) = stepZ u (stepZ v G) := by
  have h : ∀ a b, stepZ a (stepZ b G) = grZ ((G.map (woZ b)).map (woZ a)) := fun a b => by
    unfold stepZ
    exact gr_map hm (woZ_sets hS) (woZ a) (woZ_sets (woZ_sets hS)) fun x _ y _ h => woZ_mono a h
  rw [h, h, List.map_map, List.map_map]
  congr 1
  refine List.map_congr_left fun z _ => ?_
  exact woZ_comm v u z

/-- What reducing leads to, a member at a time. -/
inductive Red (m : Nat) : List Int → List Int → Prop
  | refl (G : List Int) : Red m G G
  | head {G N : List Int} (v : Nat) (hv : v < m) (h : D1 v G) (r : Red m (stepZ v G) N) : Red m G N

def Done (m : Nat) (G : List Int) : Prop := ∀ v, v < m → ¬ D1 v G
theorem Red.trans {m : Nat} {G H N : List Int} (h : Red m G H) (h2 : Red m H N) : Red m G N := by
  induction h with
  | refl _ => exact h2
  | head v hv h _ ih => exact .head v hv h (ih h2)

theorem Red.one {m v : Nat} {G : List Int} (hv : v < m) (h : D1 v G) : Red m G (stepZ v G) := .head v hv h (.refl _)
theorem Red.swap {m : Nat} (hm : m ≤ 6) {G N : List Int} (h : Red m G N) (hN : Done m N) : ∀ (_ : Sets m G) (u : Nat) (_ : u < m) (_ : D1 u G), Red m (stepZ u G) N := by
  induction h with
  | refl G => exact fun _ u hu hd => (hN u hu hd).elim
  | @head G N v hv h r ih =>
    intro hS u hu hd
    by_cases e : u = v
    · subst e; exact r
    · have h1 := ih hN (stepZ_sets hS) u hu (d1_keeps hm hS (by omega) (by omega) e hd)
      rw [step_comm hm hS] at h1
      exact .head v hv (d1_keeps hm hS (by omega) (by omega) (fun e' => e e'.symm) h) h1

theorem Red.unique {m : Nat} (hm : m ≤ 6) {G N N' : List Int} (h : Red m G N) (hN : Done m N) (h' : Red m G N') (hN' : Done m N') (hS : Sets m G) : N = N' := by
  induction h' with
  | refl G =>
    cases h with
    | refl _ => rfl
    | head v hv h _ => exact (hN' v hv h).elim
  | @head G N' v hv hd r ih => exact ih (h.swap hm hN hS v hv hd) hN' (stepZ_sets hS)

theorem Red.sets {m : Nat} {G N : List Int} (h : Red m G N) (hS : Sets m G) : Sets m N := by
  induction h with
  | refl _ => exact hS
  | head v _ _ _ ih => exact ih (stepZ_sets hS)

theorem Red.grs {m : Nat} (hm : m ≤ 6) {G N : List Int} (h : Red m G N) (hS : Sets m G) (hG : grZ G = G) : grZ N = N := by
  induction h with
  | refl _ => exact hG
  | head v _ _ _ ih => exact ih (stepZ_sets hS) (gr_gr hm (woZ_sets hS))

end Go.Proofs.YtckbhhaigpajpaaDoor
