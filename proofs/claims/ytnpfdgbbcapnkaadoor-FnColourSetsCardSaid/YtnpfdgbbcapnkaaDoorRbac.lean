/- It is proved what ascending lists without repeats are, and what l1Simple returns; conditions: the bounds in each statement. -/
import Derived.Lib.SlicesCompact
import Derived.Lib.OwnBridge
import Derived.Test.YtnpfdgbbcapnkaaDoorRows
import Derived.WalkKit
import Derived.WalkSpells
import Derived.ProofKit
import Derived.OpenShut
import Derived.ShutString
import Derived.ChangeOld
import Derived.Below
import Derived.Deep.RegionHeld3
import Derived.Deep.QuietTactic
import Derived.BigQuiet
import Derived.Lib.Hide
import Derived.Lib.SmallJoins
import Derived.Outline
import Derived.Laws.MakeOwn
import Derived.Laws.OwnMore
import Derived.IntWalk
import Derived.Lib.AppendZeros
import Derived.Maps.AppendAt
import Derived.Deep.AppendLies
import Derived.OwnWalk
import Derived.RangeFuncNested
import Derived.RangeFuncBound
import Derived.RangeFuncCalls
import Derived.RangeFuncLeaves
import Derived.RangeFuncBox
import Derived.Shelf.Abstract
import Derived.Shelf.RegionOpen
import Derived.OwnWalkIn
import Derived.TacticsInMore
import Derived.LoopNIn
import Derived.LoopIn
import Derived.Test.YtnpfdgbbcapnkaaDoorRbaa
import Derived.Test.YtnpfdgbbcapnkaaDoorRbab
import Derived.Shelf.Sort.Plain
import Derived.Shelf.Slices.In.SortNone
import Derived.Shelf.Slices.CompactI
import Derived.Ground.Names2Prog
import Derived.Laws.CopyRow
import Derived.Lib.SlBuf
import Derived.StillTailTactics
import Derived.Shelf.Spec.TrailingZeros
namespace Go.Proofs.YtnpfdgbbcapnkaaDoor
open Go.RowKit

/-- Ascending, each number once. -/
def Asc (xs : List Int) : Prop := xs.Pairwise (· < ·)

theorem asc_ext : ∀ (xs ys : List Int), Asc xs → Asc ys → (∀ z, z ∈ xs ↔ z ∈ ys) → xs = ys
  | [], [], _, _, _ => rfl
  | [], y :: _, _, _, h => by have := (h y).2 (by simp); simp at this
  | x :: _, [], _, _, h => by have := (h x).1 (by simp); simp at this
  | x :: xs, y :: ys, hx, hy, h => by
    have hx' := List.pairwise_cons.1 hx
    have hy' := List.pairwise_cons.1 hy
    have e : x = y := by
      have h1 := (h x).1 (by simp)
      have h2 := (h y).2 (by simp)
      rcases List.mem_cons.1 h1 with h1 | h1
      · exact h1
      · rcases List.mem_cons.1 h2 with h2 | h2
        · exact h2.symm
        · have := hy'.1 x h1
          have := hx'.1 y h2
          omega
    subst e
    rw [asc_ext xs ys hx'.2 hy'.2 fun z => ?_]
    constructor
    · intro hz
      have hlt := hx'.1 z hz
      rcases List.mem_cons.1 ((h z).1 (List.mem_cons_of_mem _ hz)) with h1 | h1
      · omega
      · exact h1
    · intro hz
      have hlt := hy'.1 z hz
      rcases List.mem_cons.1 ((h z).2 (List.mem_cons_of_mem _ hz)) with h1 | h1
      · omega
      · exact h1

/-- All clubs in order, once. -/
def simpZ (zs : List Int) : List Int := Lib.compact (zs.mergeSort fun x y => decide (x ≤ y))

theorem compact_asc (zs : List Int) (h : zs.Pairwise (· ≤ ·)) : Asc (Lib.compact zs) := by
  unfold Asc Lib.compact Lib.compactUpTo
  rw [List.pairwise_map]
  refine List.Pairwise.imp_of_mem (R := fun a b => a < b) ?_ (List.Pairwise.filter _ List.pairwise_lt_range)
  intro i j _ hj hij
  have hj' := List.mem_filter.1 hj
  have hjl : j < zs.length := List.mem_range.1 hj'.1
  have hk : j = 0 ∨ zs.toArray[j]! ≠ zs.toArray[j - 1]! := by simpa [Lib.keeps] using hj'.2
  have hk2 : zs.toArray[j]! ≠ zs.toArray[j - 1]! := by
    rcases hk with rfl | hk
    · omega
    · exact hk
  have e1 : zs.toArray[j]! = zs[j] := by simp [hjl]
  have e2 : zs.toArray[j - 1]! = zs[j - 1]'(by omega) := by simp [show j - 1 < zs.length by omega]
  have e3 : zs.toArray[i]! = zs[i]'(by omega) := by simp [show i < zs.length by omega]
  rw [e1, e2] at hk2
  rw [e1, e3]
  have h1 : zs[j - 1]'(by omega) ≤ zs[j] := List.pairwise_iff_getElem.1 h (j - 1) j (by omega) hjl (by omega)
  have h2 : zs[i]'(by omega) ≤ zs[j - 1]'(by omega) := by
    rcases Nat.lt_or_ge i (j - 1) with hlt | hge
    · exact List.pairwise_iff_getElem.1 h i (j - 1) (by omega) (by omega) hlt
    · have e : i = j - 1 := by omega
      subst e; exact Int.le_refl _
  omega

theorem compact_mem (zs : List Int) (z : Int) : z ∈ Lib.compact zs ↔ z ∈ zs := by
  unfold Lib.compact Lib.compactUpTo
  constructor
  · intro h
    obtain ⟨i, hi, e⟩ := List.mem_map.1 h
    have hil : i < zs.length := List.mem_range.1 (List.mem_filter.1 hi).1
    rw [← e]
    simp [hil]
  · intro h
    obtain ⟨i, hi, e⟩ := List.getElem_of_mem h
    have go : ∀ n i (hi : i < zs.length), i ≤ n → zs[i] = z → z ∈ ((List.range zs.length).filter (Lib.keeps zs.toArray)).map (zs.toArray[·]!) := by
      intro n
      induction n with
      | zero =>
        intro i hi hle e
        obtain rfl : i = 0 := by omega
        exact List.mem_map.2 ⟨0, List.mem_filter.2 ⟨List.mem_range.2 hi, by simp [Lib.keeps]⟩, by simp [hi, e]⟩
      | succ n ih =>
        intro i hi hle e
        by_cases hk : Lib.keeps zs.toArray i = true
        · exact List.mem_map.2 ⟨i, List.mem_filter.2 ⟨List.mem_range.2 hi, hk⟩, by simp [hi, e]⟩
        · have hk' : ¬ (i = 0 ∨ zs.toArray[i]! ≠ zs.toArray[i - 1]!) := by simpa [Lib.keeps] using hk
          have h0 : i ≠ 0 := fun h => hk' (.inl h)
          have h1 : zs.toArray[i]! = zs.toArray[i - 1]! := Classical.byContradiction fun h => hk' (.inr h)
          have e2 : zs.toArray[i - 1]! = zs[i - 1]'(by omega) := by simp [show i - 1 < zs.length by omega]
          have e1 : zs.toArray[i]! = zs[i] := by simp [hi]
          exact ih (i - 1) (by omega) (by omega) (by rw [← e2, ← h1, e1]; exact e)
    exact go i i hi (Nat.le_refl _) e

theorem sorted_le (zs : List Int) : (zs.mergeSort fun x y => decide (x ≤ y)).Pairwise (· ≤ ·) := by
  have := List.pairwise_mergeSort (le := fun x y : Int => decide (x ≤ y)) (by intro a b c h1 h2; simp at h1 h2 ⊢; omega) (by intro a b; simp; omega) zs
  exact this.imp (by intro a b h; simpa using h)

theorem simpZ_asc (zs : List Int) : Asc (simpZ zs) := compact_asc _ (sorted_le zs)
theorem simpZ_mem (zs : List Int) (z : Int) : z ∈ simpZ zs ↔ z ∈ zs := by
  unfold simpZ; rw [compact_mem, List.mem_mergeSort]

theorem simpZ_of {zs ys : List Int} (h : Asc ys) (hm : ∀ z, z ∈ ys ↔ z ∈ zs) : ys = simpZ zs :=
  asc_ext _ _ h (simpZ_asc zs) fun z => (hm z).trans (simpZ_mem zs z).symm

theorem simpZ_le (zs : List Int) : (simpZ zs).length ≤ zs.length := by
  unfold simpZ
  exact Nat.le_trans (Lib.compact_length_le _) (by rw [List.length_mergeSort]; exact Nat.le_refl _)

theorem put_asc {zs : List Int} {x : Int} {k n : Nat} (hl : zs.length = n) (hk : k ≤ n) (ha : Asc zs) (h1 : ∀ j, k ≤ j → j < n → x < zs[j]?.getD 0) (h2 : ∀ k', k = k' + 1 → zs[k']?.getD 0 < x) :
    Asc (zs.take k ++ [x] ++ zs.drop k) := by
  have hlow : ∀ y ∈ zs.take k, y < x := by
    intro y hy
    obtain ⟨i, hi, e⟩ := List.getElem_of_mem hy
    have hik : i < k := by simp at hi; omega
    have hil : i < zs.length := by omega
    have e' : zs[i] = y := by rw [← e]; simp
    obtain ⟨k', rfl⟩ : ∃ k', k = k' + 1 := ⟨k - 1, by omega⟩
    have h := h2 k' rfl
    have hkl : k' < zs.length := by omega
    simp [hkl] at h
    rcases Nat.lt_or_ge i k' with hlt | hge
    · have := List.pairwise_iff_getElem.1 ha i k' hil hkl hlt
      omega
    · have : i = k' := by omega
      subst this; omega
  have hhigh : ∀ y ∈ zs.drop k, x < y := by
    intro y hy
    obtain ⟨i, hi, e⟩ := List.getElem_of_mem hy
    have hil : k + i < zs.length := by simp at hi; omega
    have := h1 (k + i) (by omega) (by omega)
    simp [hil] at this
    rw [List.getElem_drop] at e
    omega
  have ht : Asc (zs.take k) := List.Pairwise.sublist (List.take_sublist _ _) ha
  have hd : Asc (zs.drop k) := List.Pairwise.sublist (List.drop_sublist _ _) ha
  unfold Asc
  rw [List.pairwise_append]
  refine ⟨?_, hd, ?_⟩
  · rw [List.pairwise_append]
    exact ⟨ht, by simp, fun a ha b hb => by
      have : b = x := by simpa using hb
      subst this; exact hlow a ha⟩
  · intro a ha b hb
    rcases List.mem_append.1 ha with ha | ha
    · have := hlow a ha
      have := hhigh b hb
      omega
    · have : a = x := by simpa using ha
      subst this; exact hhigh b hb

theorem put_mem {zs : List Int} {x : Int} (k : Nat) (z : Int) : z ∈ zs.take k ++ [x] ++ zs.drop k ↔ z ∈ zs ∨ z = x := by
  have h := List.take_append_drop k zs
  constructor
  · intro hz
    rcases List.mem_append.1 hz with hz | hz
    · rcases List.mem_append.1 hz with hz | hz
      · exact .inl (List.mem_of_mem_take hz)
      · exact .inr (by simpa using hz)
    · exact .inl (List.mem_of_mem_drop hz)
  · rintro (hz | hz)
    · rw [← h] at hz
      rcases List.mem_append.1 hz with hz | hz
      · simp [hz]
      · simp [hz]
    · simp [hz]

theorem put_len {zs : List Int} {x : Int} {k n : Nat} (hl : zs.length = n) (hk : k ≤ n) : (zs.take k ++ [x] ++ zs.drop k).length = n + 1 := by
  simp; omega

/-- What a function of a list returns: a list of the call's own. -/
def RetOwn (w : World) (ys : List Int) (e : Ending) (w' : World) : Prop :=
  ∃ g c, e = .returned (.slice (some ⟨g, 0, none⟩) ys.length c) ∧ OwnN w' w.heap.size (some ⟨g, 0, none⟩) ys.length c ys ∧ Below w.heap.size w w'

theorem take_mem_succ {zs : List Int} {k : Nat} (h : k < zs.length) (z : Int) : z ∈ zs.take (k + 1) ↔ z ∈ zs.take k ∨ z = zs[k]?.getD 0 := by
  rw [List.take_succ_eq_append_getElem h, List.mem_append, List.mem_singleton]; simp only [List.getElem?_eq_getElem h, Option.getD_some]

end Go.Proofs.YtnpfdgbbcapnkaaDoor

/- It is proved what the closures of FamilyLeast, FamilyGreatest and without return; conditions: those of each statement. -/
namespace Go.Proofs.YtnpfdgbbcapnkaaDoor
open Go.RowKit Go.Shelf

attribute [local go_sem] Oper.semAt_some

def leG (o z : Int) : Bool := bits .andNot .i64 o z == 0
def geG (o z : Int) : Bool := leG z o
theorem partOf_any (c d : Int) (w : World) : Calls Tryd.prog 91 #[.int .i64 c, .int .i64 d] w fun e w' => e = .returned (.bool (leG c d)) ∧ w = w' := by
  go_enter Tryd.func91, Tryd.ntmps91
  go_wp2
  go_ret
  exact ⟨rfl, rfl⟩

theorem greatest1_any (c d : Int) (w : World) : Calls Tryd.prog 118 #[.int .i64 c, .int .i64 d] w fun e w' => e = .returned (.bool (geG c d)) ∧ w = w' := by
  go_enter Tryd.func118, Tryd.ntmps118
  go_wp2_with (go_at_call 91; refine (partOf_any _ _ _).mono ?_; rintro e w' ⟨rfl, rfl⟩)
  go_ret
  exact ⟨rfl, rfl⟩

/-- A set that another one of the clubs beats. -/
def beatBy (g : Int → Int → Bool) (z o : Int) : Bool := (o != z) && g o z

def beaten (g : Int → Int → Bool) (zs : List Int) (z : Int) : Bool := zs.any (beatBy g z)
set_option maxRecDepth 100000 in
set_option maxHeartbeats 4000000 in
theorem wo69 (m : Int) (a : Option Addr) (c : Nat) (zs : List Int) (P Q : Nat) (z : Int) (w : World) (ha : Ints w w.heap.size a zs) (hx : zs.length ≤ 1048576)
    (p0 : w.cell? ⟨P, 0, none⟩ = some (.int .i64 m)) (p1 : w.cell? ⟨P, 1, none⟩ = some (.slice a zs.length c)) (q0 : w.cell? ⟨Q, 0, none⟩ = some (.func (.func 118) #[] #[])) :
    Calls Tryd.prog 128 #[.int .i64 z, .pointer (some ⟨P, 0, none⟩), .pointer (some ⟨Q, 0, none⟩)] w fun e w' => e = .returned (.bool (beaten geG zs z)) ∧ Below w.heap.size w w' := by
  have HI := Lib.hid ha
  have hP : P < w.heap.size := lt_of_cell p0
  have hQ : Q < w.heap.size := lt_of_cell q0
  have Q0 := Lib.hid q0
  clear ha q0
  refine (callsIn_wide (n := 6)).1 ?_
  refine callsIn_of_wp_marks Tryd.func128 rfl trivial ?_ rfl
  simp only [Tryd.ntmps128, List.size_toArray, List.length_cons, List.length_nil, Nat.reduceAdd, Nat.reduceSub, Array.replicate_succ, Array.replicate_zero, List.push_toArray, List.append_toArray, List.nil_append, List.cons_append]
  have b1 : Below w.heap.size w ((w.alloc (.cells #[.int .i64 z] 3)).alloc (.cells #[.bool false] 4)) := below2 w _ _
  have y0 := (b1.cell (p := ⟨P, 0, none⟩) hP).trans p0
  have y1 := (b1.cell (p := ⟨P, 1, none⟩) hP).trans p1
  have B1 := Lib.hid b1
  clear b1 p0 p1
  gi_wp2_with (refine ⟨trivial, ?_⟩; gi_at_call 66; refine (callsIn_wide.2 (clubs_any _ _ _ _ _)).mono ?_; rintro e w' ⟨rfl, rfl⟩)
  have HBB : Hid (Below w.heap.size w (((w.alloc (.cells #[.int .i64 z] 3)).alloc (.cells #[.bool false] 4)).alloc (.cells #[.int .i64 m, .slice a zs.length c] 25))) := Lib.hid (below3 w _ _ _)
  have hst := clubs_stops (6 - 1) (by omega) (w.heap.size + 1 + 1) w.heap.size a c zs hx (((w.alloc (.cells #[.int .i64 z] 3)).alloc (.cells #[.bool false] 4)).alloc (.cells #[.int .i64 m, .slice a zs.length c] 25)) (by simp) (by simp; omega)
    ((blk_cell (alloc3_2 w _ _ _) 1).trans (cell2_1 _ _)) (HI.out.below HBB.out)
  have bS : Boxed (((w.alloc (.cells #[.int .i64 z] 3)).alloc (.cells #[.bool false] 4)).alloc (.cells #[.int .i64 m, .slice a zs.length c] 25)) w.heap.size 3 (.int .i64 z) := alloc3_0 w _ _ _
  have bR : Boxed (((w.alloc (.cells #[.int .i64 z] 3)).alloc (.cells #[.bool false] 4)).alloc (.cells #[.int .i64 m, .slice a zs.length c] 25)) (w.heap.size + 1) 4 (.bool false) := alloc3_1 w _ _ _
  have h16 : 1 ≤ 6 := by omega
  refine wpIn_rangeFunc_ownG rfl h16 (gf := 105) (lb := #[.pointer (some ⟨w.heap.size + 1 + 1, 0, none⟩)]) rfl trivial (enters_of Tryd.func105 (by kernel_rfl) rfl)
    hst belowK_t (belowK_b (by simp; omega)) (Below.refl _ _) (fun _ => rfl)
    (fun pre W => ((∀ p ∈ pre, beatBy geG z p.2 = false) ∧ W.cell? ⟨w.heap.size, 0, none⟩ = some (.int .i64 z) ∧ W.cell? ⟨w.heap.size + 1, 0, none⟩ = some (.bool false) ∧ W.frozen? ⟨w.heap.size + 1, 0, none⟩ = false) ∧ Below w.heap.size w W)
    (fun c pre W => (c = .ret ∧ (∃ p ∈ pre, beatBy geG z p.2 = true) ∧ W.cell? ⟨w.heap.size + 1, 0, none⟩ = some (.bool true)) ∧ Below w.heap.size w W)
    (OwnFrom.and (Own.from (fun s A B row hs hg hr => ⟨hs.1, cell_kept hs.2.1 hg hr, cell_kept hs.2.2.1 hg hr, (frozen_kept hs.2.2.1 hg hr).trans hs.2.2.2⟩) _) (ownFrom_below (Nat.le_refl _) (by simp; omega)))
    (fun c => OwnFrom.and (Own.from (fun s A B row hs hg hr => ⟨hs.1, hs.2.1, cell_kept hs.2.2 hg hr⟩) _) (ownFrom_below (Nat.le_refl _) (by simp; omega)))
    ⟨⟨by simp, bS.cell, bR.cell, bR.frozen⟩, HBB.out⟩
    (fun x => { tmps := #[.int .i64 z, .pointer (some ⟨P, 0, none⟩), .pointer (some ⟨Q, 0, none⟩), .pointer (some ⟨w.heap.size, 0, none⟩), .pointer (some ⟨w.heap.size + 1, 0, none⟩), undef, .int .i64 x.2, .agg #[.int .i64 m, .slice a zs.length c], .func (.func 105) #[] #[.pointer (some ⟨w.heap.size + 1 + 1, 0, none⟩)], .int .i64 (x.1 : Int), .int .i64 x.2, undef, undef, undef, undef, undef, undef, undef, undef, undef], defers := [] }) ?assign ?body ?done ?stop
  case assign =>
    intro l x W K hK
    gi_wp2
    exact hK
  case body =>
    rintro l pre x W ⟨⟨hp, hcz, hcr, hfr⟩, hB⟩ _
    have hq := (hB.cell (p := ⟨Q, 0, none⟩) hQ).trans Q0.out
    have HB := Lib.hid hB
    have HP := Lib.hid hp
    clear hB hp
    by_cases hne : x.2 = z
    · have hb : (x.2 != z) = false := by rw [hne]; simp
      have HN : Hid (beatBy geG z x.2 = false) := Lib.hid (by unfold beatBy; rw [hb]; rfl)
      clear hne
      gi_wp2
      refine ⟨fun _ h => (by cases h), ?_⟩
      gi_wp2
      exact ⟨(KeepsOthers.refl _).from _, Below.refl _ _, ⟨fun p hp => (List.mem_append.1 hp).elim (HP.out p) (fun e => (List.mem_singleton.1 e) ▸ HN.out), hcz, hcr, hfr⟩, HB.out⟩
    · have hb : (x.2 != z) = true := by rw [bne_iff_ne]; exact hne
      clear hne
      cases hg : geG x.2 z
      · have HN : Hid (beatBy geG z x.2 = false) := Lib.hid (by unfold beatBy; rw [hb, hg]; rfl)
        have HG := Lib.hid hg
        clear hg
        gi_wp2_with (refine ⟨trivial, ?_⟩; gi_at_call 118; refine (CallsIn.inRound l (callsIn_wide.2 (greatest1_any _ _ _))).mono ?_; rintro e w2 ⟨rfl, rfl⟩; rw [HG.out])
        exact ⟨(KeepsOthers.refl _).from _, Below.refl _ _, ⟨fun p hp => (List.mem_append.1 hp).elim (HP.out p) (fun e => (List.mem_singleton.1 e) ▸ HN.out), hcz, hcr, hfr⟩, HB.out⟩
      · have HN : Hid (beatBy geG z x.2 = true) := Lib.hid (by unfold beatBy; rw [hb, hg]; rfl)
        have HG := Lib.hid hg
        clear hg
        gi_wp2_with (refine ⟨trivial, ?_⟩; gi_at_call 118; refine (CallsIn.inRound l (callsIn_wide.2 (greatest1_any _ _ _))).mono ?_; rintro e w2 ⟨rfl, rfl⟩; rw [HG.out])
        exact ⟨(KeepsOthers.setCell _ _ _).from _, ⟨rfl, ⟨x, by simp, HN.out⟩, World.cell?_setCell_same' _ _ _ (by rw [hcr]; rfl)⟩, HB.out.setCell (p := ⟨w.heap.size + 1, 0, none⟩) (by simp) _⟩
  case done =>
    rintro D ys W hD rfl ⟨⟨hne, _, hcr, hfr⟩, hB⟩ hK
    gi_wp2
    have hK' := (KeepsOthers.setCell W ⟨w.heap.size + 1, 0, none⟩ (.bool false)).same D _ hK rfl
    refine ⟨by simp, .inl ⟨_, _, rfl, run_takeDeferred hK', ?_⟩⟩
    have hc5 := cell_kept (World.cell?_setCell_same' W ⟨w.heap.size + 1, 0, none⟩ (.bool false) (by rw [hcr]; rfl)) (grownBy_putObj' _ D (.deferred none)) (fun r e => by cases e; exact ⟨_, hK', rfl⟩)
    refine ⟨.bool false, by simp [results, Tryd.f128, go_sem, hc5], ?_, (hB.setCell (p := ⟨w.heap.size + 1, 0, none⟩) (by simp) _).trans (belowK_b (w := w) (Nat.le_refl _) _ D _ _ (by simp at hD; omega) hK' rfl rfl)⟩
    have : beaten geG zs z = false := by
      unfold beaten
      rw [List.any_eq_false]
      intro o ho
      rw [← pairs_all zs] at ho
      obtain ⟨p, hp, rfl⟩ := List.mem_map.1 ho
      rw [hne p hp]; simp
    rw [this]
  case stop =>
    rintro D c pre W hD ⟨k, hk, rfl⟩ ⟨⟨rfl, ⟨p, hp, hbt⟩, hcr⟩, hB⟩ hK
    gi_wp2
    refine ⟨by simp, .inl ⟨_, _, rfl, run_takeDeferred hK, ?_⟩⟩
    have hc5 := cell_kept hcr (grownBy_putObj' _ D (.deferred none)) (fun r e => by cases e; exact ⟨_, hK, rfl⟩)
    refine ⟨.bool true, by simp [results, Tryd.f128, go_sem, hc5], ?_, hB.trans (belowK_b (w := w) (Nat.le_refl _) W D _ _ (by simp at hD; omega) hK rfl rfl)⟩
    have : beaten geG zs z = true := by
      unfold beaten
      rw [List.any_eq_true]
      refine ⟨p.2, ?_, hbt⟩
      have : p.2 ∈ (pairs zs k).map (·.2) := List.mem_map.2 ⟨p, hp, rfl⟩
      rw [pairs_snd zs k hk] at this
      exact List.mem_of_mem_take this
    rw [this]

end Go.Proofs.YtnpfdgbbcapnkaaDoor

/- It is proved what the FamilySimple of the model returns; conditions: the bounds in each statement. -/
namespace Go.Proofs.YtnpfdgbbcapnkaaDoor
open Go.RowKit

/-- What a function of the clubs comes to. -/
def famF (c : Bool) (f : List Int → List Int) (zs : List Int) : List Int := if c then f zs else []

end Go.Proofs.YtnpfdgbbcapnkaaDoor

/- It is proved what wantedBy and atLeast return; conditions: those of each statement. -/
namespace Go.Proofs.YtnpfdgbbcapnkaaDoor
open Go.RowKit Go.Shelf

def z5 : Array Value := #[Value.int IntKind.i64 0, Value.int IntKind.i64 0, Value.int IntKind.i64 0, Value.int IntKind.i64 0, Value.int IntKind.i64 0]
end Go.Proofs.YtnpfdgbbcapnkaaDoor

/- It is proved what slices.Sort and slices.Compact do with a list of the call's own; conditions: those of each statement. -/
namespace Go.Proofs.YtnpfdgbbcapnkaaDoor
open Go.RowKit

/- The numbers that the library's functions have in this program. -/
def sortLays_ren : Go.Shelf.Ren := ⟨fun | 189 => 135 | 125 => 138 | 257 => 137 | 128 => 148 | 129 => 149 | 294 => 139 | 295 => 140 | 296 => 141 | 297 => 142 | 298 => 143 | 299 => 144 | 216 => 145 | 300 => 146 | 301 => 147 | 328 => 150 | 329 => 151 | 330 => 152 | 331 => 153 | 332 => 154 | 215 => 155 | 343 => 156 | n => n, fun | 28 => 23 | 3 => 3 | 46 => 72 | 0 => 0 | 51 => 108 | 53 => 110 | 4 => 4 | 183 => 120 | 182 => 119 | 131 => 37 | 5 => 5 | 9 => 9 | 218 => 125 | 222 => 129 | 228 => 131 | 229 => 132 | n => n, fun | n => n⟩
theorem sortLays : Go.Proofs.Lays.n189 Tryd.prog sortLays_ren := {
  mixed := by kernel_rfl
  f125 := Tryd.func138.trans (congrArg some (by kernel_rfl))
  f128 := Tryd.func148.trans (congrArg some (by kernel_rfl))
  f129 := Tryd.func149.trans (congrArg some (by kernel_rfl))
  f189 := Tryd.func135.trans (congrArg some (by kernel_rfl))
  f215 := Tryd.func155.trans (congrArg some (by kernel_rfl))
  f216 := Tryd.func145.trans (congrArg some (by kernel_rfl))
  f257 := Tryd.func137.trans (congrArg some (by kernel_rfl))
  f294 := Tryd.func139.trans (congrArg some (by kernel_rfl))
  f295 := Tryd.func140.trans (congrArg some (by kernel_rfl))
  f296 := Tryd.func141.trans (congrArg some (by kernel_rfl))
  f297 := Tryd.func142.trans (congrArg some (by kernel_rfl))
  f298 := Tryd.func143.trans (congrArg some (by kernel_rfl))
  f299 := Tryd.func144.trans (congrArg some (by kernel_rfl))
  f300 := Tryd.func146.trans (congrArg some (by kernel_rfl))
  f301 := Tryd.func147.trans (congrArg some (by kernel_rfl))
  f328 := Tryd.func150.trans (congrArg some (by kernel_rfl))
  f329 := Tryd.func151.trans (congrArg some (by kernel_rfl))
  f330 := Tryd.func152.trans (congrArg some (by kernel_rfl))
  f331 := Tryd.func153.trans (congrArg some (by kernel_rfl))
  f332 := Tryd.func154.trans (congrArg some (by kernel_rfl))
  f343 := Tryd.func156.trans (congrArg some (by kernel_rfl))
  t0 := Tryd.underlying0
  a0 := Tryd.isAgg0
  z0 := Tryd.sizeOf0
  v0 := Tryd.zeroValue0
  t3 := Tryd.underlying3
  a3 := Tryd.isAgg3
  z3 := Tryd.sizeOf3
  v3 := Tryd.zeroValue3
  t4 := Tryd.underlying4
  a4 := Tryd.isAgg4
  z4 := Tryd.sizeOf4
  v4 := Tryd.zeroValue4
  t5 := Tryd.underlying5
  a5 := Tryd.isAgg5
  z5 := Tryd.sizeOf5
  v5 := Tryd.zeroValue5
  t9 := Tryd.underlying9
  a9 := Tryd.isAgg9
  z9 := Tryd.sizeOf9
  v9 := Tryd.zeroValue9
  t28 := Tryd.underlying23
  a28 := Tryd.isAgg23
  z28 := Tryd.sizeOf23
  v28 := Tryd.zeroValue23
  t46 := Tryd.underlying72
  a46 := Tryd.isAgg72
  z46 := Tryd.sizeOf72
  v46 := Tryd.zeroValue72
  t51 := Tryd.underlying108
  a51 := Tryd.isAgg108
  z51 := Tryd.sizeOf108
  v51 := Tryd.zeroValue108
  t53 := Tryd.underlying110
  a53 := Tryd.isAgg110
  z53 := Tryd.sizeOf110
  v53 := Tryd.zeroValue110
  t131 := Tryd.underlying37
  a131 := Tryd.isAgg37
  z131 := Tryd.sizeOf37
  v131 := Tryd.zeroValue37
  t182 := Tryd.underlying119
  a182 := Tryd.isAgg119
  z182 := Tryd.sizeOf119
  v182 := Tryd.zeroValue119
  t183 := Tryd.underlying120
  a183 := Tryd.isAgg120
  z183 := Tryd.sizeOf120
  v183 := Tryd.zeroValue120
  t218 := Tryd.underlying125
  a218 := Tryd.isAgg125
  z218 := Tryd.sizeOf125
  v218 := Tryd.zeroValue125
  t222 := Tryd.underlying129
  a222 := Tryd.isAgg129
  z222 := Tryd.sizeOf129
  v222 := Tryd.zeroValue129
  t228 := Tryd.underlying131
  a228 := Tryd.isAgg131
  z228 := Tryd.sizeOf131
  v228 := Tryd.zeroValue131
  t229 := Tryd.underlying132
  a229 := Tryd.isAgg132
  z229 := Tryd.sizeOf132
  v229 := Tryd.zeroValue132 }

def compactLays_ren : Go.Shelf.Ren := ⟨fun | 20 => 136 | n => n, fun | 22 => 23 | 3 => 3 | 4 => 4 | 0 => 0 | n => n, fun | n => n⟩
theorem compactLays : Go.Proofs.Lays2.n20 Tryd.prog compactLays_ren := {
  mixed := by kernel_rfl
  f20 := Tryd.func136.trans (congrArg some (by kernel_rfl))
  t0 := Tryd.underlying0
  a0 := Tryd.isAgg0
  z0 := Tryd.sizeOf0
  v0 := Tryd.zeroValue0
  t3 := Tryd.underlying3
  a3 := Tryd.isAgg3
  z3 := Tryd.sizeOf3
  v3 := Tryd.zeroValue3
  t4 := Tryd.underlying4
  a4 := Tryd.isAgg4
  z4 := Tryd.sizeOf4
  v4 := Tryd.zeroValue4
  t22 := Tryd.underlying23
  a22 := Tryd.isAgg23
  z22 := Tryd.sizeOf23
  v22 := Tryd.zeroValue23
  i3 := by kernel_rfl }

theorem grown_below (w : World) (os : Array Obj) : Below w.heap.size w (Sort.grow w os) :=
  ⟨rfl, rfl, rfl, by simp, fun k hk => Sort.heap_grow_old w os hk⟩

theorem grownBy_put (w : World) (g q : Nat) (d : Array Int) : w.grownBy (Sort.putRow (Value.int .i64) (Sort.ahead w q) g 0 d) (some g) := by
  refine ⟨rfl, rfl, rfl, by simp [Sort.putRow, Sort.mapBlock, Sort.ahead], fun k hk hne => ?_⟩
  have : g ≠ k := fun e => hne (by rw [e])
  simp [Sort.putRow, Sort.mapBlock, Sort.ahead, Array.getElem?_modify, this]

theorem sort_row (g n cap B : Nat) (zs : List Int) (w : World) (h : OwnN w B (some ⟨g, 0, none⟩) n cap zs) (hn : n ≤ 1048576) :
    Calls Tryd.prog 135 #[.slice (some ⟨g, 0, none⟩) n cap] w fun e w' => e = .returned (.tuple #[]) ∧ OwnN w' B (some ⟨g, 0, none⟩) n cap (zs.mergeSort fun x y => decide (x ≤ y)) ∧ w.grownBy w' (some g) := by
  obtain ⟨g', cap', e, hbg, hgl, hnc, hcm, hl, hH⟩ := Lib.holds_of_ownsRow (enc := Value.int .i64) h (by simp)
  injection e with e1 e2 e3
  injection e1 with e1
  injection e1 with e1
  subst e1; subst e3
  have hc := Any.slices_Sort_int sortLays g 0 cap zs w hH hgl (by omega)
  rw [hl] at hc
  refine hc.mono ?_
  rintro e w' ⟨rfl, q, os, rfl⟩
  refine ⟨rfl, ?_, ?_⟩
  · have h1 := Lib.ownsRow_putRow (enc := Value.int .i64) (q := q) (k := n) (ys := zs.mergeSort fun x y => decide (x ≤ y)) h (by rw [List.length_mergeSort, hl]) (Nat.le_refl _)
    have h2 := ownsRow_below h1 (grown_below _ os)
    rw [List.take_of_length_le (by rw [List.length_mergeSort, hl]; exact Nat.le_refl _)] at h2
    exact h2
  · exact only_trans (grownBy_put w g q _) (only_of_below (grown_below _ os) _)

theorem compact_row (g n cap B : Nat) (zs : List Int) (w : World) (h : OwnN w B (some ⟨g, 0, none⟩) n cap zs) (hn : n ≤ 1048576) :
    Calls Tryd.prog 136 #[.slice (some ⟨g, 0, none⟩) n cap] w fun e w' => e = .returned (.slice (some ⟨g, 0, none⟩) (Lib.compact zs).length cap) ∧ OwnN w' B (some ⟨g, 0, none⟩) (Lib.compact zs).length cap (Lib.compact zs) ∧ w.grownBy w' (some g) := by
  obtain ⟨g', cap', e, hbg, hgl, hnc, hcm, hl, hH⟩ := Lib.holds_of_ownsRow (enc := Value.int .i64) h (by simp)
  injection e with e1 e2 e3
  injection e1 with e1
  injection e1 with e1
  subst e1; subst e3
  have hc := Any.slices_Compact_int compactLays g 0 cap zs w hH (by omega) (by omega)
  rw [hl] at hc
  refine hc.mono ?_
  have hle := Lib.compact_length_le zs
  rintro e w' ⟨rfl, q, rfl⟩
  refine ⟨rfl, ?_, grownBy_put w g q _⟩
  have h1 := Lib.ownsRow_putRow (enc := Value.int .i64) (q := q) (k := (Lib.compact zs).length) (ys := Lib.compact zs ++ List.replicate (n - (Lib.compact zs).length) 0) h (by simp; omega) (by omega)
  rw [List.take_left] at h1
  exact h1

theorem sort_nil (cap : Nat) (w : World) : Calls Tryd.prog 135 #[.slice none 0 cap] w fun e w' => e = .returned (.tuple #[]) ∧ w' = w :=
  Any.slices_Sort_int_none sortLays none cap w

theorem compact_nil (cap : Nat) (w : World) : Calls Tryd.prog 136 #[.slice none 0 cap] w fun e w' => e = .returned (.slice none 0 cap) ∧ w' = w :=
  Any.slices_Compact_int_empty compactLays none cap w

end Go.Proofs.YtnpfdgbbcapnkaaDoor
