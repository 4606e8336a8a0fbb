/- It is proved that forests have two colours that are even for each club, and that families that fall apart have proper colours; conditions: those of each statement. -/
import Derived.RowKit
import Derived.Laws.CopyRow
import Derived.Lib.SlBuf
import Derived.Deep.QuietTactic
import Derived.RangeFuncNested
import Derived.RangeFuncBound
import Derived.RangeFuncCalls
import Derived.RangeFuncLeaves
import Derived.RangeFuncBox
import Derived.RangeFuncWrites
import Derived.StillTailTactics
import Derived.Maps.OwnIn
import Derived.Maps.Ext
import Derived.DeepKeys4
import Derived.MapKept
import Derived.Test.YtckbhhaigpajpaaDoorRows
import Derived.WalkKit
import Derived.WalkSpells
import Derived.ProofKit
import Derived.OpenShut
import Derived.ShutString
import Derived.ChangeOld
import Derived.Below
import Derived.Deep.RegionHeld3
import Derived.BigQuiet
import Derived.Lib.Hide
import Derived.Lib.SmallJoins
import Derived.Outline
import Derived.Laws.MakeOwn
import Derived.Laws.OwnMore
import Derived.IntWalk
import Derived.Maps.AppendAt
import Derived.Sort.MapsRangeIn
import Derived.Deep.RegionLaw
import Derived.Deep.AppendLies
import Derived.Lib.AppendZeros
import Derived.OwnWalk
import Derived.Lib.SlicesCompact
import Derived.Lib.OwnBridge
import Derived.OrdersIn
import Derived.TacticsIn
import Derived.Shelf.Sort.Plain
import Derived.Shelf.Slices.In.SortNone
import Derived.Shelf.Slices.CompactI
import Derived.Ground.Names2Prog
import Derived.Lib.SliceRun
import Derived.Shelf.Abstract
import Derived.Shelf.RegionOpen
import Derived.OwnWalkIn
import Derived.TacticsInMore
import Derived.LoopNIn
import Derived.LoopIn
import Derived.StillTail
import Derived.StillTactics
import Derived.Shelf.Spec.TrailingZeros
import Derived.Deep.LoopGhost
import Derived.Test.YtckbhhaigpajpaaDoorRaad
import Derived.Test.YtckbhhaigpajpaaDoorRaaf
import Derived.Test.YtckbhhaigpajpaaDoorRaai
import Derived.Test.YtckbhhaigpajpaaDoorRaaj
import Derived.Test.YtckbhhaigpajpaaDoorYw
namespace Go.Proofs.YtckbhhaigpajpaaDoor
open Go.RowKit

/-- How many more members of a club have one of two colours than the other one. -/
def disc1 (x : Nat → Bool) (z : Int) (v : Nat) : Int := if Bt v z = true then (if x v then 1 else -1) else 0

def disc (x : Nat → Bool) (z : Int) : Int := disc1 x z 0 + disc1 x z 1 + disc1 x z 2 + disc1 x z 3 + disc1 x z 4 + disc1 x z 5
def Even1 (x : Nat → Bool) (z : Int) : Prop := -1 ≤ disc x z ∧ disc x z ≤ 1
theorem br_two {zs : List Int} (h : Br (bZ zs)) {j j' u v : Nat} (hj : j ≠ j') (hu : u ≠ v) (h1 : bZ zs j u) (h2 : bZ zs j v) (h3 : bZ zs j' u) (h4 : bZ zs j' v) : False := by
  obtain ⟨CM, CJ, hc, hn⟩ := h j u h1
  have a := hc j v (fun e => hu e.2.symm) h2
  have b := hc j' v (fun e => hj e.1.symm) h4
  have c := hc j' u (fun e => hj e.1.symm) h3
  exact hn (c.trans (b.symm.trans a))

theorem even_small {x : Nat → Bool} {z : Int} (h : ∀ u v, u < 6 → v < 6 → Bt u z = true → Bt v z = true → u = v) : Even1 x z := by
  have d : ∀ v, -1 ≤ disc1 x z v ∧ disc1 x z v ≤ 1 ∧ (Bt v z = false → disc1 x z v = 0) := fun v => by
    unfold disc1
    split
    · refine ⟨?_, ?_, fun e => ?_⟩
      · split <;> omega
      · split <;> omega
      · simp_all
    · exact ⟨by omega, by omega, fun _ => rfl⟩
  have n : ∀ u v, u < 6 → v < 6 → u ≠ v → Bt v z = true → Bt u z = false := fun u v hu hv hne hb => by
    cases e : Bt u z
    · rfl
    · exact absurd (h u v hu hv e hb) hne
  have d0 := d 0; have d1 := d 1; have d2 := d 2; have d3 := d 3; have d4 := d 4; have d5 := d 5
  unfold Even1 disc
  by_cases e0 : Bt 0 z = true
  · have := d1.2.2 (n 1 0 (by omega) (by omega) (by omega) e0); have := d2.2.2 (n 2 0 (by omega) (by omega) (by omega) e0); have := d3.2.2 (n 3 0 (by omega) (by omega) (by omega) e0); have := d4.2.2 (n 4 0 (by omega) (by omega) (by omega) e0); have := d5.2.2 (n 5 0 (by omega) (by omega) (by omega) e0)
    omega
  have := d0.2.2 (by simpa using e0)
  by_cases e1 : Bt 1 z = true
  · have := d2.2.2 (n 2 1 (by omega) (by omega) (by omega) e1); have := d3.2.2 (n 3 1 (by omega) (by omega) (by omega) e1); have := d4.2.2 (n 4 1 (by omega) (by omega) (by omega) e1); have := d5.2.2 (n 5 1 (by omega) (by omega) (by omega) e1)
    omega
  have := d1.2.2 (by simpa using e1)
  by_cases e2 : Bt 2 z = true
  · have := d3.2.2 (n 3 2 (by omega) (by omega) (by omega) e2); have := d4.2.2 (n 4 2 (by omega) (by omega) (by omega) e2); have := d5.2.2 (n 5 2 (by omega) (by omega) (by omega) e2)
    omega
  have := d2.2.2 (by simpa using e2)
  by_cases e3 : Bt 3 z = true
  · have := d4.2.2 (n 4 3 (by omega) (by omega) (by omega) e3); have := d5.2.2 (n 5 3 (by omega) (by omega) (by omega) e3)
    omega
  have := d3.2.2 (by simpa using e3)
  by_cases e4 : Bt 4 z = true
  · have := d5.2.2 (n 5 4 (by omega) (by omega) (by omega) e4)
    omega
  have := d4.2.2 (by simpa using e4)
  omega

theorem even_gr {m : Nat} (hm : m ≤ 6) {zs : List Int} (hS : Sets m zs) (hb : Br (bZ zs)) {x : Nat → Bool} (h : ∀ z ∈ grZ zs, Even1 x z) : ∀ z ∈ zs, Even1 x z := by
  intro z hz
  obtain ⟨o, ho, hs⟩ := gr_above hm hS _ z rfl hz
  by_cases e : o = z
  · rw [← e]; exact h o ho
  refine even_small fun u v _ _ hu hv => ?_
  by_cases hne : u = v
  · exact hne
  exfalso
  obtain ⟨i, hi⟩ := List.mem_iff_getElem?.1 hz
  obtain ⟨j, hj⟩ := List.mem_iff_getElem?.1 (gr_sub ho)
  have hb' : ∀ {i : Nat} {z : Int} {u : Nat}, zs[i]? = some z → Bt u z = true → bZ zs i u := fun hi hu => by unfold bZ; rw [hi]; exact hu
  refine br_two hb (j := i) (j' := j) (fun e2 => ?_) hne (hb' hi hu) (hb' hi hv) (hb' hj (subZ_bit hs hu)) (hb' hj (subZ_bit hs hv))
  subst e2
  rw [hi] at hj
  exact e (Option.some.inj hj).symm

theorem disc_far {x : Nat → Bool} {z : Int} {v : Nat} (b : Bool) (h : Bt v z = false) : disc (fun u => if u = v then b else x u) z = disc x z := by
  have : ∀ u, disc1 (fun u => if u = v then b else x u) z u = disc1 x z u := fun u => by
    unfold disc1
    by_cases e : u = v
    · subst e; simp [h]
    · simp [e]
  unfold disc
  rw [this, this, this, this, this, this]

theorem disc_put {x : Nat → Bool} {z : Int} {v : Nat} (hv : v < 6) (hz : z.toNat < 64) (b : Bool) (h : Bt v z = true) : disc (fun u => if u = v then b else x u) z = disc x (woZ v z) + (if b then 1 else -1) := by
  have h1 : ∀ u, u < 6 → u ≠ v → disc1 (fun u => if u = v then b else x u) z u = disc1 x (woZ v z) u := fun u hu e => by
    unfold disc1
    rw [woZ_bit hz hu hv]
    simp [e]
  have h2 : disc1 (fun u => if u = v then b else x u) z v = if b then 1 else -1 := by unfold disc1; simp [h]
  have h3 : disc1 x (woZ v z) v = 0 := by
    unfold disc1
    rw [woZ_bit hz hv hv]
    simp
  unfold disc
  obtain rfl | rfl | rfl | rfl | rfl | rfl : v = 0 ∨ v = 1 ∨ v = 2 ∨ v = 3 ∨ v = 4 ∨ v = 5 := by omega
  · rw [h2, h3, h1 1, h1 2, h1 3, h1 4, h1 5] <;> omega
  · rw [h2, h3, h1 0, h1 2, h1 3, h1 4, h1 5] <;> omega
  · rw [h2, h3, h1 0, h1 1, h1 3, h1 4, h1 5] <;> omega
  · rw [h2, h3, h1 0, h1 1, h1 2, h1 4, h1 5] <;> omega
  · rw [h2, h3, h1 0, h1 1, h1 2, h1 3, h1 5] <;> omega
  · rw [h2, h3, h1 0, h1 1, h1 2, h1 3, h1 4] <;> omega

theorem even_step {m v : Nat} (hm : m ≤ 6) (hv : v < m) {G : List Int} (hS : Sets m G) (hb : Br (bZ G)) (hd : D1 v G) {x : Nat → Bool} (h : ∀ z ∈ stepZ v G, Even1 x z) : ∃ y : Nat → Bool, ∀ z ∈ G, Even1 y z := by
  have hH := even_gr hm (woZ_sets (v := v) hS) (br_map hm (by omega) hS hb) h
  obtain ⟨e, he, hbe, hq⟩ := hd
  have hl : ∀ z ∈ G, z.toNat < 64 := fun z hz => p64 hm (hS z hz).2
  refine ⟨fun u => if u = v then decide (disc x (woZ v e) ≤ 0) else x u, fun z hz => ?_⟩
  have hw := hH (woZ v z) (List.mem_map.2 ⟨z, hz, rfl⟩)
  unfold Even1 at hw ⊢
  cases hbz : Bt v z
  · rw [disc_far _ hbz]
    rw [woZ_same (hS z hz).1 (hl z hz) (by omega) hbz] at hw
    exact hw
  · obtain rfl := hq z hz hbz
    rw [disc_put (by omega) (hl z hz) _ hbz]
    by_cases h0 : disc x (woZ v z) ≤ 0
    · rw [decide_eq_true h0]; simp only [if_true]; omega
    · rw [decide_eq_false h0]; simp only [Bool.false_eq_true, if_false]; omega

theorem even_red {m : Nat} (hm : m ≤ 6) {G N : List Int} (h : Red m G N) : ∀ (_ : Sets m G) (_ : Br (bZ G)) (_ : ∃ x : Nat → Bool, ∀ z ∈ N, Even1 x z), ∃ x : Nat → Bool, ∀ z ∈ G, Even1 x z := by
  induction h with
  | refl _ => exact fun _ _ h => h
  | @head G N v hv hd _ ih =>
    intro hS hb hN
    obtain ⟨x, hx⟩ := ih (stepZ_sets hS) (br_mem (gr_nodup _) (fun _ hy => gr_sub hy) (br_map hm (by omega) hS hb)) hN
    exact even_step hm hv hS hb hd hx

/-- What is left of a family that falls apart has no members. -/
theorem left_none {m : Nat} (hm : m ≤ 6) {zs : List Int} (hS : Sets m zs) (h : (redZ m zs).length ≤ 1) : ∀ z ∈ redZ m zs, ∀ v, Bt v z = false := by
  have hNS := redZ_sets hm hS
  obtain ⟨hr, hd⟩ := redZ_done hm hS
  intro z hz v
  cases hb : Bt v z
  · rfl
  · refine (hd v (bt_lt (hNS z hz).2 hb) ⟨z, hz, hb, fun y hy _ => ?_⟩).elim
    match hN : redZ m zs with
    | [] => rw [hN] at hz; simp at hz
    | [a] =>
      rw [hN] at hz hy
      rw [List.mem_singleton] at hz hy
      rw [hz, hy]
    | a :: b :: t => rw [hN] at h; simp at h

/-- A forest has two colours that are even for each club. -/
theorem forest_even {m : Nat} (hm : m ≤ 6) {zs : List Int} (hS : Sets m zs) (hb : Br (bZ zs)) : ∃ x : Nat → Bool, ∀ z ∈ zs, Even1 x z := by
  have hbg : Br (bZ (grZ zs)) := br_mem (gr_nodup _) (fun _ hy => gr_sub hy) hb
  obtain ⟨x, hx⟩ := even_red hm (redZ_done hm hS).1 (gr_sets hS) hbg ⟨fun _ => true, fun z hz => even_small fun u v _ _ hu _ => by
    rw [left_none hm hS (br_falls hm hS hb) z hz u] at hu; cases hu⟩
  exact ⟨x, even_gr hm hS hb hx⟩

end Go.Proofs.YtckbhhaigpajpaaDoor
