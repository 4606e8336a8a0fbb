/- It is proved what the FamilyIn of the model returns; conditions: the bounds in each statement. -/
import Derived.Test.YtfhhfilkabjhaaaDoorRows
import Derived.WalkKit
import Derived.WalkSpells
import Derived.ProofKit
import Derived.OpenShut
import Derived.ShutString
import Derived.ChangeOld
import Derived.Below
import Derived.Deep.RegionHeld3
import Derived.Deep.QuietTactic
import Derived.BigQuiet
import Derived.Lib.Hide
import Derived.Lib.SmallJoins
import Derived.Outline
import Derived.Laws.MakeOwn
import Derived.Laws.OwnMore
import Derived.IntWalk
import Derived.Test.YtfhhfilkabjhaaaDoorRaaa
import Derived.Test.YtfhhfilkabjhaaaDoorRaab
import Derived.Test.YtfhhfilkabjhaaaDoorRaad
import Derived.RangeFuncNested
import Derived.RangeFuncBound
import Derived.RangeFuncCalls
import Derived.RangeFuncLeaves
import Derived.RangeFuncBox
import Derived.RangeFuncWrites
import Derived.Shelf.Spec.TrailingZeros
import Derived.Shelf.Abstract
import Derived.Shelf.RegionOpen
import Derived.OwnWalkIn
import Derived.TacticsInMore
import Derived.LoopNIn
import Derived.LoopIn
import Derived.Maps.AppendAt
import Derived.Deep.AppendLies
import Derived.OwnWalk
namespace Go.Proofs.YtfhhfilkabjhaaaDoor
open Go.RowKit

theorem l1All_b (m : Int) (a : Option Addr) (n cap : Nat) (w : World) (h1 : 1 ≤ m) (h2 : m ≤ 6) :
    Calls Tryd.prog 35 #[.agg #[.int .i64 m, .slice a n cap]] w fun e w' => e = .returned (.int .i64 (fullI m)) ∧ Below w.heap.size w w' :=
  (l1All_any m a n cap w h1 h2).mono fun e w' ⟨he, hw⟩ => ⟨he, by rw [← hw]; exact below1 _ _⟩

set_option maxRecDepth 100000 in
set_option maxHeartbeats 800000 in
theorem specFamilyIn_any (m : Int) (a : Option Addr) (c : Nat) (zs : List Int) (w : World) (ha : Ints w w.heap.size a zs) (hx : zs.length ≤ 1048576) :
    Calls Tryd.prog 32 #[.agg #[.int .i64 m, .slice a zs.length c]] w fun e w' => e = .returned (.bool (famIn m zs)) ∧ Below w.heap.size w w' := by
  obtain ⟨n, hn⟩ : ∃ n, n = zs.length := ⟨_, rfl⟩
  have HN : Hid (n = zs.length) := Lib.hid hn
  rw [← hn]
  rw [← hn] at hx
  have HB := Lib.hid (below1 w (.cells #[.int .i64 m, .slice a n c] 27))
  cases h1 : inB m 1 6
  · have HF : Hid (famIn m zs = false) := Lib.hid (famIn_m h1)
    have H1 := Lib.hid h1
    clear hn h1
    go_enter Tryd.func32, Tryd.ntmps32
    go_wp2_with (go_at_call 49; refine (l6In_any _ _ _ _).mono ?_; rintro e w' ⟨rfl, rfl⟩; rw [H1.out])
    go_ret
    exact ⟨by rw [HF.out]; rfl, HB.out⟩
  · have H1 := Lib.hid h1
    obtain ⟨hm1, hm6⟩ := inB_out h1
    by_cases h3 : n ≤ 8
    · clear hn h1
      go_enter Tryd.func32, Tryd.ntmps32
      go_wp2_with (go_at_call 49; refine (l6In_any _ _ _ _).mono ?_; rintro e w' ⟨rfl, rfl⟩; rw [H1.out])
      go_loopw [3] (fun i wr => ∃ k : Nat, k ≤ n ∧ i = .int .i64 k ∧ (∀ j, j < k → inB (zs[j]?.getD 0) 0 (fullI m) = true) ∧ Below (w.heap.size + 1) (w.alloc (.cells #[.int .i64 m, .slice a n c] 27)) wr) (fun i _ => n - (intOf i).toNat)
      case atStart => exact ⟨0, Nat.zero_le _, rfl, fun j hj => by omega, Below.refl _ _⟩
      case round =>
        obtain ⟨k, hk, rfl, he, hb⟩ := hrel
        have x0 : wr.cell? ⟨w.heap.size, 0, none⟩ = some (.int .i64 m) := (hb.cell (p := ⟨w.heap.size, 0, none⟩) (by simp)).trans (blk_cell (alloc_new w _) 0)
        have x1 : wr.cell? ⟨w.heap.size, 1, none⟩ = some (.slice a n c) := (hb.cell (p := ⟨w.heap.size, 1, none⟩) (by simp)).trans (blk_cell (alloc_new w _) 1)
        have HBW := Lib.hid hb
        by_cases hlt : k < n
        · obtain ⟨b1, o1, rfl, hb1, hc1⟩ := ha.at_ (k := k) (by rw [← HN.out]; exact hlt)
          have x2 := (hb.cell (p := ⟨b1, o1 + k, none⟩) (by simp; omega)).trans ((HB.out.cell (p := ⟨b1, o1 + k, none⟩) hb1).trans hc1)
          have HE := Lib.hid he
          have hk0 : (0 : Int) ≤ (k : Int) := by omega
          have hk1 : (k : Int) < (n : Int) := by omega
          have hs2 : w.heap.size + 1 ≤ wr.heap.size := by have := hb.size; simp at this; omega
          have hs0 : w.heap.size < wr.heap.size := by omega
          have hs1 : b1 < wr.heap.size := by omega
          clear he hc1 hb
          cases hs : inB (zs[k]?.getD 0) 0 (fullI m)
          · have HS := Lib.hid hs
            have HF : Hid (famIn m zs = false) := Lib.hid (famIn_z (by rw [← HN.out]; exact hlt) hs)
            clear hs
            go_wp2_with fail
            go_region_held3 (fun w' => w'.cell? ⟨w.heap.size, 0, none⟩ = some (.int .i64 m) ∧ w'.cell? ⟨w.heap.size, 1, none⟩ = some (.slice (some ⟨b1, o1, none⟩) n c) ∧ w'.cell? ⟨b1, o1 + k, none⟩ = some (.int .i64 (zs[k]?.getD 0)) ∧ Below (w.heap.size + 1) (w.alloc (.cells #[.int .i64 m, .slice (some ⟨b1, o1, none⟩) n c] 27)) w')
              (first
                | exact ⟨x0, x1, x2, HBW.out.drew⟩
                | exact ⟨(hb1'.cell (p := ⟨w.heap.size, 0, none⟩) hs0).trans x0, (hb1'.cell (p := ⟨w.heap.size, 1, none⟩) hs0).trans x1, (hb1'.cell (p := ⟨b1, o1 + k, none⟩) hs1).trans x2, HBW.out.drew.trans (hb1'.mono hs2)⟩)
              (first
                | (go_at_call 35; refine (l1All_b _ _ _ _ _ hm1 hm6).mono ?_; rintro e w1 ⟨rfl, hb1'⟩)
                | (go_at_call 49; refine (l6In_any _ _ _ _).mono ?_; rintro e w' ⟨rfl, rfl⟩; rw [HS.out]))
            rename_i hHeld
            have HW1 := Lib.hid hHeld.2.2.2
            clear hHeld hb1'
            go_wp2
            go_ret
            exact ⟨by rw [HF.out]; rfl, HB.out.trans (HW1.out.mono (by omega))⟩
          · have HS := Lib.hid hs
            clear hs
            go_wp2_with fail
            go_region_held3 (fun w' => w'.cell? ⟨w.heap.size, 0, none⟩ = some (.int .i64 m) ∧ w'.cell? ⟨w.heap.size, 1, none⟩ = some (.slice (some ⟨b1, o1, none⟩) n c) ∧ w'.cell? ⟨b1, o1 + k, none⟩ = some (.int .i64 (zs[k]?.getD 0)) ∧ Below (w.heap.size + 1) (w.alloc (.cells #[.int .i64 m, .slice (some ⟨b1, o1, none⟩) n c] 27)) w')
              (first
                | exact ⟨x0, x1, x2, HBW.out.drew⟩
                | exact ⟨(hb1'.cell (p := ⟨w.heap.size, 0, none⟩) hs0).trans x0, (hb1'.cell (p := ⟨w.heap.size, 1, none⟩) hs0).trans x1, (hb1'.cell (p := ⟨b1, o1 + k, none⟩) hs1).trans x2, HBW.out.drew.trans (hb1'.mono hs2)⟩)
              (first
                | (go_at_call 35; refine (l1All_b _ _ _ _ _ hm1 hm6).mono ?_; rintro e w1 ⟨rfl, hb1'⟩)
                | (go_at_call 49; refine (l6In_any _ _ _ _).mono ?_; rintro e w' ⟨rfl, rfl⟩; rw [HS.out]))
            rename_i hHeld
            have HW1 := Lib.hid hHeld.2.2.2
            clear hHeld hb1'
            go_wp2
            go_roundw
            case rel => exact ⟨k + 1, by omega, by go_num, fun j hj => by
              rcases Nat.lt_succ_iff_lt_or_eq.1 hj with h | rfl
              · exact HE.out j h
              · exact HS.out, HW1.out⟩
            case measure => simp [intOf]; omega
        · obtain rfl : k = n := by omega
          have HF : Hid (famIn m zs = true) := Lib.hid (famIn_y (inB_true hm1 hm6) (by rw [← HN.out]; exact h3) (by rw [← HN.out]; exact he))
          have HBB : Hid (Below w.heap.size w wr) := Lib.hid (HB.out.trans (hb.mono (by omega)))
          clear he hb
          go_wp2
          go_ret
          exact ⟨by rw [HF.out]; rfl, HBB.out⟩
    · have HF : Hid (famIn m zs = false) := Lib.hid (famIn_l (by omega))
      clear hn h1
      go_enter Tryd.func32, Tryd.ntmps32
      go_wp2_with (go_at_call 49; refine (l6In_any _ _ _ _).mono ?_; rintro e w' ⟨rfl, rfl⟩; rw [H1.out])
      go_ret
      exact ⟨by rw [HF.out]; rfl, HB.out⟩

end Go.Proofs.YtfhhfilkabjhaaaDoor

/- It is proved how all lists of colours follow on each other and how many kinds of colours a list has; conditions: those of each statement. -/
namespace Go.Proofs.YtfhhfilkabjhaaaDoor

/-- All lists of n of a palette, in order. -/
def wordsL {γ : Type} (pal : List γ) : Nat → List (List γ)
  | 0 => [[]]
  | n + 1 => pal.flatMap fun c => (wordsL pal n).map (c :: ·)

theorem wordsL_mem {γ : Type} (pal : List γ) : ∀ (n : Nat) (w : List γ), w ∈ wordsL pal n ↔ w.length = n ∧ ∀ c ∈ w, c ∈ pal
  | 0, w => by
    simp only [wordsL, List.mem_singleton]
    constructor
    · rintro rfl; simp
    · rintro ⟨h, -⟩; exact List.eq_nil_of_length_eq_zero h
  | n + 1, w => by
    simp only [wordsL, List.mem_flatMap, List.mem_map]
    constructor
    · rintro ⟨c, hc, u, hu, rfl⟩
      obtain ⟨h1, h2⟩ := (wordsL_mem pal n u).1 hu
      refine ⟨by simp [h1], fun x hx => ?_⟩
      rcases List.mem_cons.1 hx with rfl | h
      · exact hc
      · exact h2 x h
    · rintro ⟨h1, h2⟩
      cases w with
      | nil => simp at h1
      | cons c u => exact ⟨c, h2 c (by simp), u, (wordsL_mem pal n u).2 ⟨by simpa using h1, fun x hx => h2 x (by simp [hx])⟩, rfl⟩

theorem wordsL_card {γ : Type} (pal : List γ) : ∀ n : Nat, (wordsL pal n).length = pal.length ^ n
  | 0 => rfl
  | n + 1 => by
    have hc : ∀ (l : List γ), (l.flatMap fun c => (wordsL pal n).map (c :: ·)).length = l.length * pal.length ^ n := by
      intro l
      induction l with
      | nil => simp
      | cons c l ih => rw [List.flatMap_cons, List.length_append, ih, List.length_map, wordsL_card pal n, List.length_cons, Nat.succ_mul, Nat.add_comm]
    rw [wordsL, hc, Nat.pow_succ, Nat.mul_comm]

theorem wordsL_snoc {γ : Type} (pal : List γ) : ∀ n : Nat, wordsL pal (n + 1) = (wordsL pal n).flatMap fun p => pal.map fun c => p ++ [c]
  | 0 => by
    simp only [wordsL, List.flatMap_cons, List.flatMap_nil, List.append_nil, List.nil_append, List.map_cons, List.map_nil]
    induction pal with
    | nil => rfl
    | cons c l ih => simpa using ih
  | n + 1 => by
    have ih := wordsL_snoc pal n
    show (pal.flatMap fun c => (wordsL pal (n + 1)).map (c :: ·)) = (pal.flatMap fun c => (wordsL pal n).map (c :: ·)).flatMap fun p => pal.map fun c => p ++ [c]
    rw [ih, List.flatMap_assoc]
    congr 1
    funext c
    rw [List.map_flatMap, List.flatMap_map]
    congr 1
    funext p
    rw [List.map_map]
    rfl

/-- The digits of a number to the base k. -/
def digs (k : Nat) : Nat → Nat → List Int
  | 0, _ => []
  | n + 1, c => digs k n (c / k) ++ [((c % k : Nat) : Int)]

theorem digs_len (k : Nat) : ∀ n c, (digs k n c).length = n
  | 0, _ => rfl
  | n + 1, c => by rw [digs, List.length_append, digs_len k n]; rfl

theorem range_mul (b : Nat) : ∀ a : Nat, List.range (a * b) = (List.range a).flatMap fun q => (List.range b).map (q * b + ·)
  | 0 => by simp
  | a + 1 => by
    rw [Nat.succ_mul, List.range_add, range_mul b a, List.range_succ, List.flatMap_append]
    simp

/-- The palette of k colours. -/
def palI (k : Nat) : List Int := (List.range k).map fun (c : Nat) => (c : Int)

theorem palI_len (k : Nat) : (palI k).length = k := by simp [palI]
theorem palI_mem (k : Nat) (c : Int) : c ∈ palI k ↔ 0 ≤ c ∧ c < k := by
  simp only [palI, List.mem_map, List.mem_range]
  constructor
  · rintro ⟨x, hx, rfl⟩; omega
  · intro h; exact ⟨c.toNat, by omega, by omega⟩

theorem digs_words (k : Nat) : ∀ n : Nat, (List.range (k ^ n)).map (digs k n) = wordsL (palI k) n
  | 0 => rfl
  | n + 1 => by
    rw [wordsL_snoc, ← digs_words k n, Nat.pow_succ, range_mul, List.map_flatMap, List.flatMap_map]
    congr 1
    funext q
    rw [List.map_map, palI, List.map_map]
    apply List.map_congr_left
    intro r hr
    have hr : r < k := List.mem_range.1 hr
    simp only [Function.comp, digs]
    rw [Nat.mul_comm q k, Nat.mul_add_div (by omega), Nat.div_eq_of_lt hr, Nat.mul_add_mod, Nat.mod_eq_of_lt hr, Nat.add_zero]

/-- The kinds of colours, one by one. -/
def addK {γ : Type} [BEq γ] (ks : List γ) (c : γ) : List γ := if ks.contains c then ks else ks ++ [c]

def kindsOf {γ : Type} [BEq γ] (l : List γ) : List γ := l.foldl addK []
theorem kindsOf_snoc {γ : Type} [BEq γ] (l : List γ) (c : γ) : kindsOf (l ++ [c]) = addK (kindsOf l) c := by simp [kindsOf, List.foldl_append]
theorem kinds_inv {γ : Type} [BEq γ] [LawfulBEq γ] (l : List γ) : (kindsOf l).Nodup ∧ (∀ c, c ∈ kindsOf l ↔ c ∈ l) ∧ (kindsOf l).length ≤ l.length := by
  have H : ∀ r : List γ, ∀ l, l = r.reverse → (kindsOf l).Nodup ∧ (∀ c, c ∈ kindsOf l ↔ c ∈ l) ∧ (kindsOf l).length ≤ l.length := by
    intro r
    induction r with
    | nil => rintro l rfl; simp [kindsOf]
    | cons a r ih =>
      rintro l rfl
      obtain ⟨h1, h2, h3⟩ := ih _ rfl
      rw [List.reverse_cons, kindsOf_snoc, addK]
      by_cases hc : (kindsOf r.reverse).contains a = true
      · rw [if_pos hc]
        have ha : a ∈ kindsOf r.reverse := by simpa using hc
        refine ⟨h1, fun c => ?_, by simp at h3 ⊢; omega⟩
        rw [h2, List.mem_append, List.mem_singleton]
        constructor
        · exact Or.inl
        · rintro (h | rfl)
          · exact h
          · exact (h2 _).1 ha
      · rw [if_neg hc]
        have ha : a ∉ kindsOf r.reverse := by simpa using hc
        refine ⟨?_, fun c => ?_, by simp at h3 ⊢; omega⟩
        · rw [List.nodup_append]
          refine ⟨h1, by simp, ?_⟩
          intro x hx y hy e
          rw [List.mem_singleton] at hy
          subst hy; subst e
          exact ha hx
        · rw [List.mem_append, List.mem_append, h2]
  exact H l.reverse l (by simp)

theorem kinds_two {γ : Type} [BEq γ] [LawfulBEq γ] (l : List γ) : 1 < (kindsOf l).length ↔ ∃ a ∈ l, ∃ b ∈ l, a ≠ b := by
  obtain ⟨h1, h2, h3⟩ := kinds_inv l
  constructor
  · intro h
    match hk : kindsOf l with
    | [] => rw [hk] at h; simp at h
    | [_] => rw [hk] at h; simp at h
    | a :: b :: r =>
      refine ⟨a, (h2 a).1 (by rw [hk]; simp), b, (h2 b).1 (by rw [hk]; simp), ?_⟩
      rw [hk] at h1
      rintro rfl
      simp at h1
  · rintro ⟨a, ha, b, hb, hab⟩
    have ha' := (h2 a).2 ha
    have hb' := (h2 b).2 hb
    match hk : kindsOf l with
    | [] => rw [hk] at ha'; simp at ha'
    | [c] =>
      rw [hk] at ha' hb'
      rw [List.mem_singleton] at ha' hb'
      exact absurd (ha'.trans hb'.symm) hab
    | _ :: _ :: _ => simp

theorem kinds_all {γ : Type} [BEq γ] [LawfulBEq γ] (l : List γ) : (kindsOf l).length = l.length ↔ l.Nodup := by
  have H : ∀ r : List γ, ∀ l, l = r.reverse → ((kindsOf l).length = l.length ↔ l.Nodup) := by
    intro r
    induction r with
    | nil => rintro l rfl; simp [kindsOf]
    | cons a r ih =>
      rintro l rfl
      have ih := ih _ rfl
      obtain ⟨h1, h2, h3⟩ := kinds_inv r.reverse
      rw [List.reverse_cons, kindsOf_snoc, addK]
      by_cases hc : (kindsOf r.reverse).contains a = true
      · rw [if_pos hc]
        have ha : a ∈ r.reverse := (h2 a).1 (by simpa using hc)
        constructor
        · intro h; rw [List.length_append] at h; simp at h h3; omega
        · intro h
          rw [List.nodup_append] at h
          exact absurd rfl (h.2.2 a ha a (by simp))
      · rw [if_neg hc]
        have ha : a ∉ r.reverse := fun h => hc (by simpa using (h2 a).2 h)
        rw [List.length_append, List.length_append, List.nodup_append]
        constructor
        · intro h
          refine ⟨ih.1 (by simp at h ⊢; omega), by simp, ?_⟩
          intro x hx y hy e
          rw [List.mem_singleton] at hy
          subst hy; subst e
          exact ha hx
        · rintro ⟨h, -, -⟩
          rw [ih.2 h]
  exact H l.reverse l (by simp)

end Go.Proofs.YtfhhfilkabjhaaaDoor

/- It is proved how the library's table is kept, and how the members of a set are counted; conditions: those of each statement. -/
namespace Go.Proofs.YtfhhfilkabjhaaaDoor
open Go.RowKit

/-- The library's table lies in its variable. -/
def Tab (w : World) : Prop := TabAt 1 Lib.deBruijn64tab w

theorem Tab.lt {w : World} (h : Tab w) : 1 < w.heap.size := World.block_lt_of_cell? w _ (h 0 (by decide))
theorem Tab.below {B : Nat} {w w' : World} (h : Tab w) (hb : Below B w w') (hB : 1 < B) : Tab w' := fun j hj => (hb.cell (p := ⟨1, j, none⟩) hB).trans (h j hj)
theorem Tab.step {w w' : World} (h : Tab w) (hb : Below w.heap.size w w') : Tab w' := h.below hb h.lt
/-- The members of a set. -/
def mem (s : Nat) : List Nat := (List.range 6).filter fun i => s.testBit i

set_option maxRecDepth 100000 in
theorem mem_cons : ∀ s, s < 64 → s ≠ 0 → mem s = Lib.ctz 64 s :: mem (s &&& (s - 1)) := by decide +kernel

set_option maxRecDepth 100000 in
theorem mem_count : ∀ s, s < 64 → ∀ v, v < 6 → (mem s).count v = (s >>> v) &&& 1 := by decide +kernel

theorem mem_zero : mem 0 = [] := by decide
theorem mem_length : ∀ s, s < 64 → (mem s).length ≤ 6 := by decide +kernel
theorem mem_lt : ∀ m, m ≤ 6 → ∀ s, s < 2 ^ m → ∀ v ∈ mem s, v < m := by decide +kernel
/-- How often each of 0, .., m - 1 stands in a list. -/
def degL (m : Nat) (us : List Nat) : List Int := (List.range m).map fun v => ((us.count v : Nat) : Int)

theorem degL_length (m : Nat) (us : List Nat) : (degL m us).length = m := by simp [degL]
theorem degL_at (m : Nat) (us : List Nat) (v : Nat) (h : v < m) : (degL m us)[v]? = some ((us.count v : Nat) : Int) := by simp [degL, h]
theorem degL_nil (m : Nat) : degL m [] = List.replicate m 0 := by
  apply List.ext_getElem <;> simp [degL]

theorem degL_snoc (m : Nat) (us : List Nat) (u : Nat) : degL m (us ++ [u]) = (degL m us).set u (((us.count u : Nat) : Int) + 1) := by
  apply List.ext_getElem
  · simp [degL]
  · intro i h1 h2
    have hi : i < m := by simpa [degL] using h1
    simp only [degL, List.getElem_map, List.getElem_range, List.getElem_set]
    by_cases h : u = i
    · subst h; simp
    · simp [h]
      

end Go.Proofs.YtfhhfilkabjhaaaDoor

/- It is proved what with returns, what a dual is, and what FamilyDual of the program returns where there is none; conditions: those of each statement. -/
namespace Go.Proofs.YtfhhfilkabjhaaaDoor
open Go.RowKit Go.Shelf

theorem p2_small (p : Nat) (hp : p < 8) : (2 : Int) ^ p ≤ 128 ∧ 1 ≤ (2 : Int) ^ p := by
  obtain rfl | rfl | rfl | rfl | rfl | rfl | rfl | rfl : p = 0 ∨ p = 1 ∨ p = 2 ∨ p = 3 ∨ p = 4 ∨ p = 5 ∨ p = 6 ∨ p = 7 := by omega
  all_goals decide

end Go.Proofs.YtfhhfilkabjhaaaDoor
