/- It is proved how all lists of colours follow on each other and how many kinds of colours a list has; conditions: those of each statement. -/
import Derived.RangeFuncNested
import Derived.RangeFuncBound
import Derived.RangeFuncCalls
import Derived.RangeFuncLeaves
import Derived.RangeFuncBox
import Derived.RangeFuncWrites
import Derived.RowKit
import Derived.Laws.CopyRow
import Derived.Lib.SlBuf
import Derived.Deep.QuietTactic
import Derived.StillTailTactics
import Derived.Maps.OwnIn
import Derived.Maps.Ext
import Derived.DeepKeys4
import Derived.MapKept
import Derived.Test.YtobjmiaanoheeaaDoorRows
import Derived.WalkKit
import Derived.WalkSpells
import Derived.ProofKit
import Derived.OpenShut
import Derived.ShutString
import Derived.ChangeOld
import Derived.Below
import Derived.Deep.RegionHeld3
import Derived.BigQuiet
import Derived.Lib.Hide
import Derived.Lib.SmallJoins
import Derived.Outline
import Derived.Laws.MakeOwn
import Derived.Laws.OwnMore
import Derived.IntWalk
import Derived.Lib.AppendZeros
import Derived.Maps.AppendAt
import Derived.Deep.AppendLies
import Derived.OwnWalk
import Derived.Lib.SlicesCompact
import Derived.Lib.OwnBridge
import Derived.OrdersIn
import Derived.TacticsIn
import Derived.Shelf.Sort.Plain
import Derived.Shelf.Slices.In.SortNone
import Derived.Shelf.Slices.CompactI
import Derived.Ground.Names2Prog
import Derived.Lib.SliceRun
import Derived.Shelf.Abstract
import Derived.Shelf.RegionOpen
import Derived.OwnWalkIn
import Derived.TacticsInMore
import Derived.LoopNIn
import Derived.LoopIn
import Derived.StillTail
import Derived.StillTactics
import Derived.Shelf.Spec.TrailingZeros
import Derived.Test.YtobjmiaanoheeaaDoorKa
import Derived.Test.YtobjmiaanoheeaaDoorRaac
import Derived.Test.YtobjmiaanoheeaaDoorYa
import Derived.Sort.MapsRangeIn
import Derived.Deep.RegionLaw
import Derived.Deep.LoopGhost
import Derived.Test.YtobjmiaanoheeaaDoorRaai
import Derived.Test.YtobjmiaanoheeaaDoorRaad
import Derived.Test.YtobjmiaanoheeaaDoorRaas
import Derived.Test.YtobjmiaanoheeaaDoorRaae
namespace Go.Proofs.YtobjmiaanoheeaaDoor

/-- All lists of n of a palette, in order. -/
def wordsL {γ : Type} (pal : List γ) : Nat → List (List γ)
  | 0 => [[]]
  | n + 1 => pal.flatMap fun c => (wordsL pal n).map (c :: ·)

theorem wordsL_mem {γ : Type} (pal : List γ) : ∀ (n : Nat) (w : List γ), w ∈ wordsL pal n ↔ w.length = n ∧ ∀ c ∈ w, c ∈ pal
  | 0, w => by
    simp only [wordsL, List.mem_singleton]
    constructor
    · rintro rfl; simp
    · rintro ⟨h, -⟩; exact List.eq_nil_of_length_eq_zero h
  | n + 1, w => by
    simp only [wordsL, List.mem_flatMap, List.mem_map]
    constructor
    · rintro ⟨c, hc, u, hu, rfl⟩
      obtain ⟨h1, h2⟩ := (wordsL_mem pal n u).1 hu
      refine ⟨by simp [h1], fun x hx => ?_⟩
      rcases List.mem_cons.1 hx with rfl | h
      · exact hc
      · exact h2 x h
    · rintro ⟨h1, h2⟩
      cases w with
      | nil => simp at h1
      | cons c u => exact ⟨c, h2 c (by simp), u, (wordsL_mem pal n u).2 ⟨by simpa using h1, fun x hx => h2 x (by simp [hx])⟩, rfl⟩

/-- The palette of k colours. -/
def palI (k : Nat) : List Int := (List.range k).map fun (c : Nat) => (c : Int)

theorem palI_len (k : Nat) : (palI k).length = k := by simp [palI]
theorem palI_mem (k : Nat) (c : Int) : c ∈ palI k ↔ 0 ≤ c ∧ c < k := by
  simp only [palI, List.mem_map, List.mem_range]
  constructor
  · rintro ⟨x, hx, rfl⟩; omega
  · intro h; exact ⟨c.toNat, by omega, by omega⟩

/-- The kinds of colours, one by one. -/
def addK {γ : Type} [BEq γ] (ks : List γ) (c : γ) : List γ := if ks.contains c then ks else ks ++ [c]

def kindsOf {γ : Type} [BEq γ] (l : List γ) : List γ := l.foldl addK []
theorem kindsOf_snoc {γ : Type} [BEq γ] (l : List γ) (c : γ) : kindsOf (l ++ [c]) = addK (kindsOf l) c := by simp [kindsOf, List.foldl_append]
theorem kinds_inv {γ : Type} [BEq γ] [LawfulBEq γ] (l : List γ) : (kindsOf l).Nodup ∧ (∀ c, c ∈ kindsOf l ↔ c ∈ l) ∧ (kindsOf l).length ≤ l.length := by
  have H : ∀ r : List γ, ∀ l, l = r.reverse → (kindsOf l).Nodup ∧ (∀ c, c ∈ kindsOf l ↔ c ∈ l) ∧ (kindsOf l).length ≤ l.length := by
    intro r
    induction r with
    | nil => rintro l rfl; simp [kindsOf]
    | cons a r ih =>
      rintro l rfl
      obtain ⟨h1, h2, h3⟩ := ih _ rfl
      rw [List.reverse_cons, kindsOf_snoc, addK]
      by_cases hc : (kindsOf r.reverse).contains a = true
      · rw [if_pos hc]
        have ha : a ∈ kindsOf r.reverse := by simpa using hc
        refine ⟨h1, fun c => ?_, by simp at h3 ⊢; omega⟩
        rw [h2, List.mem_append, List.mem_singleton]
        constructor
        · exact Or.inl
        · rintro (h | rfl)
          · exact h
          · exact (h2 _).1 ha
      · rw [if_neg hc]
        have ha : a ∉ kindsOf r.reverse := by simpa using hc
        refine ⟨?_, fun c => ?_, by simp at h3 ⊢; omega⟩
        · rw [List.nodup_append]
          refine ⟨h1, by simp, ?_⟩
          intro x hx y hy e
          rw [List.mem_singleton] at hy
          subst hy; subst e
          exact ha hx
        · rw [List.mem_append, List.mem_append, h2]
  exact H l.reverse l (by simp)

theorem kinds_all {γ : Type} [BEq γ] [LawfulBEq γ] (l : List γ) : (kindsOf l).length = l.length ↔ l.Nodup := by
  have H : ∀ r : List γ, ∀ l, l = r.reverse → ((kindsOf l).length = l.length ↔ l.Nodup) := by
    intro r
    induction r with
    | nil => rintro l rfl; simp [kindsOf]
    | cons a r ih =>
      rintro l rfl
      have ih := ih _ rfl
      obtain ⟨h1, h2, h3⟩ := kinds_inv r.reverse
      rw [List.reverse_cons, kindsOf_snoc, addK]
      by_cases hc : (kindsOf r.reverse).contains a = true
      · rw [if_pos hc]
        have ha : a ∈ r.reverse := (h2 a).1 (by simpa using hc)
        constructor
        · intro h; rw [List.length_append] at h; simp at h h3; omega
        · intro h
          rw [List.nodup_append] at h
          exact absurd rfl (h.2.2 a ha a (by simp))
      · rw [if_neg hc]
        have ha : a ∉ r.reverse := fun h => hc (by simpa using (h2 a).2 h)
        rw [List.length_append, List.length_append, List.nodup_append]
        constructor
        · intro h
          refine ⟨ih.1 (by simp at h ⊢; omega), by simp, ?_⟩
          intro x hx y hy e
          rw [List.mem_singleton] at hy
          subst hy; subst e
          exact ha hx
        · rintro ⟨h, -, -⟩
          rw [ih.2 h]
  exact H l.reverse l (by simp)

end Go.Proofs.YtobjmiaanoheeaaDoor

/- It is proved which colours are mixed and which are proper, and that colours may be exchanged; conditions: those of each statement. -/
namespace Go.Proofs.YtobjmiaanoheeaaDoor

/-- The colours of the members of a club, one by one. -/
def colsZ (c : List Int) (z : Int) : List Int := (mem z.toNat).map fun v => c[v]?.getD 0

def propZ (c : List Int) (z : Int) : Bool := decide ((kindsOf (colsZ c z)).length = (mem z.toNat).length)
def proB (zs : List Int) (c : List Int) : Bool := zs.all (propZ c)
theorem mem_nodS (s : Nat) : (mem s).Nodup := List.nodup_range.filter _
theorem nodup_map {α β : Type} {f : α → β} : ∀ {l : List α}, l.Nodup → ((l.map f).Nodup ↔ ∀ a ∈ l, ∀ b ∈ l, f a = f b → a = b)
  | [], _ => by simp
  | x :: l, h => by
    rw [List.nodup_cons] at h
    rw [List.map_cons, List.nodup_cons, nodup_map h.2]
    constructor
    · rintro ⟨h1, h2⟩ a ha b hb e
      rcases List.mem_cons.1 ha with ea | ha'
      · rcases List.mem_cons.1 hb with eb | hb'
        · rw [ea, eb]
        · exact absurd (List.mem_map.2 ⟨b, hb', by rw [← e, ea]⟩) h1
      · rcases List.mem_cons.1 hb with eb | hb'
        · exact absurd (List.mem_map.2 ⟨a, ha', by rw [e, eb]⟩) h1
        · exact h2 a ha' b hb' e
    · intro H
      refine ⟨fun hx => ?_, fun a ha b hb => H a (by simp [ha]) b (by simp [hb])⟩
      obtain ⟨b, hb, e⟩ := List.mem_map.1 hx
      have := H b (by simp [hb]) x (by simp) e
      subst this
      exact h.1 hb

theorem propZ_iff {c : List Int} {z : Int} : propZ c z = true ↔ ∀ v ∈ mem z.toNat, ∀ w ∈ mem z.toNat, c[v]?.getD 0 = c[w]?.getD 0 → v = w := by
  have h := kinds_all (colsZ c z)
  rw [propZ, decide_eq_true_iff, show (mem z.toNat).length = (colsZ c z).length from by simp [colsZ], h, colsZ, nodup_map (mem_nodS _)]

theorem mem_bt {z : Int} {v : Nat} (hz : z.toNat < 64) : v ∈ mem z.toNat ↔ Bt v z = true := mem_bit2 hz
end Go.Proofs.YtobjmiaanoheeaaDoor

/- It is proved what EarFalls and EarSteps of the model return; conditions: those of each statement. -/
namespace Go.Proofs.YtobjmiaanoheeaaDoor
open Go.RowKit

theorem redZ_done {k : Nat} (hk6 : k ≤ 6) {zs : List Int} (hz : Sets k zs) : Red k (grZ zs) (redZ k zs) ∧ Done k (redZ k zs) :=
  redF_is hk6 7 (grZ zs) (gr_nodup _) (gr_sets hz) (by have := mbN_le (grZ zs); omega)

theorem redZ_sets {k : Nat} (hk6 : k ≤ 6) {zs : List Int} (hz : Sets k zs) : Sets k (redZ k zs) := (redZ_done hk6 hz).1.sets (gr_sets hz)
end Go.Proofs.YtobjmiaanoheeaaDoor

/- It is proved that forests have two colours that are even for each club, and that families that fall apart have proper colours; conditions: those of each statement. -/
namespace Go.Proofs.YtobjmiaanoheeaaDoor
open Go.RowKit

/-- What is left of a family that falls apart has no members. -/
theorem left_none {m : Nat} (hm : m ≤ 6) {zs : List Int} (hS : Sets m zs) (h : (redZ m zs).length ≤ 1) : ∀ z ∈ redZ m zs, ∀ v, Bt v z = false := by
  have hNS := redZ_sets hm hS
  obtain ⟨hr, hd⟩ := redZ_done hm hS
  intro z hz v
  cases hb : Bt v z
  · rfl
  · refine (hd v (bt_lt (hNS z hz).2 hb) ⟨z, hz, hb, fun y hy _ => ?_⟩).elim
    match hN : redZ m zs with
    | [] => rw [hN] at hz; simp at hz
    | [a] =>
      rw [hN] at hz hy
      rw [List.mem_singleton] at hz hy
      rw [hz, hy]
    | a :: b :: t => rw [hN] at h; simp at h

/-- Proper colours, as a function. -/
def PropX (k : Nat) (x : Nat → Nat) (zs : List Int) : Prop := (∀ v, x v < k) ∧ ∀ z ∈ zs, ∀ u v, Bt u z = true → Bt v z = true → x u = x v → u = v

theorem fresh_colour : ∀ (k : Nat) (l : List Nat), l.length < k → ∃ c, c < k ∧ c ∉ l := by
  intro k l hl
  apply Classical.byContradiction
  intro hn
  have : ∀ c, c < k → c ∈ l := fun c hc => Classical.byContradiction fun h => hn ⟨c, hc, h⟩
  have h2 : (List.range k).length ≤ l.length := List.nodup_range.length_le_of_subset (fun c hc => this c (List.mem_range.1 hc))
  simp at h2
  omega

theorem prop_gr {m k : Nat} (hm : m ≤ 6) {zs : List Int} (hS : Sets m zs) {x : Nat → Nat} (h : PropX k x (grZ zs)) : PropX k x zs :=
  ⟨h.1, fun z hz u v hu hv e => by
    obtain ⟨o, ho, hs⟩ := gr_above hm hS _ z rfl hz
    exact h.2 o ho u v (subZ_bit hs hu) (subZ_bit hs hv) e⟩

def SmallX (k : Nat) (zs : List Int) : Prop := ∀ z ∈ zs, (mem z.toNat).length ≤ k
theorem wo_len_fin : ∀ s : Fin 64, ∀ v : Fin 6, (mem (woP s.val v.val)).length ≤ (mem s.val).length ∧ (s.val.testBit v.val = true → (mem (woP s.val v.val)).length < (mem s.val).length) := by decide +kernel
theorem small_wo {m k v : Nat} (hm : m ≤ 6) (hv : v < 6) {zs : List Int} (hS : Sets m zs) (h : SmallX k zs) : SmallX k (zs.map (woZ v)) := by
  intro z hz
  obtain ⟨y, hy, rfl⟩ := List.mem_map.1 hz
  have h1 := h y hy
  have h2 := (wo_len_fin ⟨y.toNat, p64 hm (hS y hy).2⟩ ⟨v, hv⟩).1
  show (mem (woZ v y).toNat).length ≤ k
  rw [show (woZ v y).toNat = woP y.toNat v from by unfold woZ; exact Int.toNat_natCast _]
  dsimp only at h2
  omega

theorem prop_step {m k v : Nat} (hm : m ≤ 6) (hv : v < m) {G : List Int} (hS : Sets m G) (hk : SmallX k G) (hd : D1 v G) {x : Nat → Nat} (h : PropX k x (stepZ v G)) : ∃ y : Nat → Nat, PropX k y G := by
  obtain ⟨h1, h2⟩ := prop_gr hm (woZ_sets (v := v) hS) h
  obtain ⟨e, he, hbe, hq⟩ := hd
  have hl : ∀ z ∈ G, z.toNat < 64 := fun z hz => p64 hm (hS z hz).2
  have hv6 : v < 6 := by omega
  obtain ⟨c, hc, hcn⟩ := fresh_colour k ((mem (woP e.toNat v)).map x) (by
    have h3 := (wo_len_fin ⟨e.toNat, hl e he⟩ ⟨v, hv6⟩).2 hbe
    have := hk e he
    rw [List.length_map]
    dsimp only at h3
    omega)
  have hin : ∀ u, Bt u e = true → u ≠ v → x u ≠ c := fun u hu hne hxc => hcn (by
    refine List.mem_map.2 ⟨u, ?_, hxc⟩
    have hu6 : u < 6 := by have := bt_lt (hS e he).2 hu; omega
    have hw := woZ_bit (hl e he) hu6 hv6
    rw [hu, decide_eq_true hne] at hw
    have hwl : woP e.toNat v < 64 := by have := ((woZ_sets (v := v) hS) _ (List.mem_map.2 ⟨e, he, rfl⟩)).2; unfold woZ at this; rw [Int.toNat_natCast] at this; exact p64 hm this
    refine (mem_bit2 hwl).2 ?_
    unfold woZ Bt at hw
    rw [Int.toNat_natCast] at hw
    simpa using hw)
  refine ⟨fun u => if u = v then c else x u, fun u => ?_, fun z hz u w hu hw exy => ?_⟩
  · dsimp only
    split
    · exact hc
    · exact h1 u
  · have hu6 : u < 6 := by have := bt_lt (hS z hz).2 hu; omega
    have hw6 : w < 6 := by have := bt_lt (hS z hz).2 hw; omega
    dsimp only at exy
    by_cases e1 : u = v
    · by_cases e2 : w = v
      · rw [e1, e2]
      · exfalso
        subst e1
        obtain rfl := hq z hz hu
        rw [if_pos rfl, if_neg e2] at exy
        exact hin w hw e2 exy.symm
    · by_cases e2 : w = v
      · exfalso
        subst e2
        obtain rfl := hq z hz hw
        rw [if_neg e1, if_pos rfl] at exy
        exact hin u hu e1 exy
      · rw [if_neg e1, if_neg e2] at exy
        refine h2 (woZ v z) (List.mem_map.2 ⟨z, hz, rfl⟩) u w ?_ ?_ exy
        · rw [woZ_bit (hl z hz) hu6 hv6, hu, decide_eq_true e1]; rfl
        · rw [woZ_bit (hl z hz) hw6 hv6, hw, decide_eq_true e2]; rfl

theorem prop_red {m k : Nat} (hm : m ≤ 6) {G N : List Int} (h : Red m G N) : ∀ (_ : Sets m G) (_ : SmallX k G) (_ : ∃ x, PropX k x N), ∃ x, PropX k x G := by
  induction h with
  | refl _ => exact fun _ _ h => h
  | @head G N v hv hd _ ih =>
    intro hS hk hN
    obtain ⟨x, hx⟩ := ih (stepZ_sets hS) (fun z hz => small_wo hm (by omega) hS hk z (gr_sub hz)) hN
    exact prop_step hm hv hS hk hd hx

/-- A family that falls apart has proper colours, as many as its greatest club has members. -/
theorem falls_prop {m k : Nat} (hm : m ≤ 6) (hk1 : 1 ≤ k) {zs : List Int} (hS : Sets m zs) (hk : SmallX k zs) (h : (redZ m zs).length ≤ 1) : ∃ x, PropX k x zs := by
  obtain ⟨x, hx⟩ := prop_red hm (redZ_done hm hS).1 (gr_sets hS) (fun z hz => hk z (gr_sub hz)) ⟨fun _ => 0, fun _ => (by dsimp only; omega), fun z hz u v hu _ _ => by
    rw [left_none hm hS h z hz u] at hu; cases hu⟩
  exact ⟨x, prop_gr hm hS hx⟩

end Go.Proofs.YtobjmiaanoheeaaDoor
