/- It is proved how lists of the call's own and boxed families read; conditions: the bounds in each statement. -/
import Derived.Test.YtphddemilibooaaDoorRows
import Derived.WalkKit
import Derived.WalkSpells
import Derived.ProofKit
import Derived.OpenShut
import Derived.ShutString
import Derived.ChangeOld
import Derived.Below
import Derived.Deep.RegionHeld3
import Derived.Deep.QuietTactic
import Derived.BigQuiet
import Derived.Lib.Hide
import Derived.Lib.SmallJoins
import Derived.Outline
import Derived.Laws.MakeOwn
import Derived.Laws.OwnMore
import Derived.IntWalk
import Derived.Test.YtphddemilibooaaDoorRaaa
import Derived.Test.YtphddemilibooaaDoorRaab
import Derived.RangeFuncNested
import Derived.RangeFuncBound
import Derived.RangeFuncCalls
import Derived.RangeFuncLeaves
import Derived.RangeFuncBox
import Derived.Shelf.Abstract
import Derived.Shelf.RegionOpen
import Derived.OwnWalkIn
import Derived.TacticsInMore
import Derived.LoopNIn
import Derived.LoopIn
import Derived.Maps.AppendAt
import Derived.Deep.AppendLies
import Derived.Lib.SlicesCompact
import Derived.Lib.OwnBridge
import Derived.Lib.AppendZeros
import Derived.OwnWalk
namespace Go.Proofs.YtphddemilibooaaDoor
open Go.RowKit

theorem own_ints {w : World} {B : Nat} {a : Option Addr} {n cap : Nat} {zs : List Int} (h : OwnI w B (.slice a n cap) zs) : Ints w w.heap.size a zs := by
  rcases h.2 with ⟨h2, hn⟩ | ⟨g, c, cur, e, hb, hg, r⟩
  · exact .inl (List.eq_nil_of_length_eq_zero hn)
  · injection e with e1 e2 e3
    subst e1
    refine .inr ⟨g, 0, rfl, (Array.getElem?_eq_some_iff.1 hg).1, fun j hj => ?_⟩
    have h' : w.ownsRow B 3 1 (.slice (some ⟨g, 0, none⟩) zs.length c) zs.length (zs.map (Value.int .i64)) := ⟨h.1, .inr ⟨g, c, cur, rfl, hb, hg, r⟩⟩
    have := h'.cellAt j (by omega)
    simpa [hj] using this

end Go.Proofs.YtphddemilibooaaDoor

/- It is proved how rows of ints of the call's own are read and kept; conditions: those of each statement. -/
namespace Go.Proofs.YtphddemilibooaaDoor
open Go.RowKit Go.Shelf

theorem ownsRow_below {w w' : World} {B n : Nat} {v : Value} {xs : List Value} (h : w.ownsRow B 3 1 v n xs) (hb : Below w.heap.size w w') : w'.ownsRow B 3 1 v n xs :=
  World.ownsRow.kept h (only_of_below hb none) (by cases v.ownBlock <;> simp)

theorem OwnN.cap_le {w : World} {B : Nat} {a : Option Addr} {n cap : Nat} {zs : List Int} (h : OwnN w B a n cap zs) : n ≤ cap := by
  rcases h.2 with ⟨e, hn⟩ | ⟨g, c, cur, e, hb, hg, hc, _⟩
  · omega
  · injection e with e1 e2 e3
    omega

theorem OwnN.len {w : World} {B : Nat} {a : Option Addr} {n cap : Nat} {zs : List Int} (h : OwnN w B a n cap zs) : zs.length = n := by
  have := h.1; simpa using this

theorem OwnN.ints {w : World} {B : Nat} {a : Option Addr} {n cap : Nat} {zs : List Int} (h : OwnN w B a n cap zs) : Ints w w.heap.size a zs := by
  have hl := h.len
  subst hl
  exact own_ints (n := zs.length) (cap := cap) (B := B) h

theorem OwnN.base {w : World} {B B' : Nat} {a : Option Addr} {n cap : Nat} {zs : List Int} (h : OwnN w B a n cap zs) (hB : B' ≤ B) : OwnN w B' a n cap zs := ownsRow_base h hB
theorem OwnN.below {w w' : World} {B : Nat} {a : Option Addr} {n cap : Nat} {zs : List Int} (h : OwnN w B a n cap zs) (hb : Below w.heap.size w w') : OwnN w' B a n cap zs := ownsRow_below h hb
theorem OwnN.ne {w : World} {B : Nat} {a : Option Addr} {n cap : Nat} {zs : List Int} (h : OwnN w B a n cap zs) {b : Nat} (hb : b < B ∨ w.heap.size ≤ b) : (Value.slice a n cap).ownBlock ≠ some b := by
  intro e
  have := World.ownsRow.lt h b e
  omega

theorem OwnN.cell {w : World} {B g n cap : Nat} {ys : List Int} (h : OwnN w B (some ⟨g, 0, none⟩) n cap ys) {j : Nat} (hj : j < n) : w.cell? ⟨g, j, none⟩ = some (.int .i64 (ys[j]?.getD 0)) := by
  have hl := h.len
  have := World.ownsRow.cellAt h j (by omega)
  rw [this]; simp [show j < ys.length by omega]

theorem OwnN.cellz {w : World} {B g n cap : Nat} {ys : List Int} (h : OwnN w B (some ⟨g, 0, none⟩) n cap ys) {j : Nat} (hj : j < n) : w.cell? ⟨g, j, none⟩ = some (.int .i64 (ys[j]?.getD 0)) := h.cell hj
end Go.Proofs.YtphddemilibooaaDoor

/- It is proved what ascending lists without repeats are, and what l1Simple returns; conditions: the bounds in each statement. -/
namespace Go.Proofs.YtphddemilibooaaDoor
open Go.RowKit

/-- Ascending, each number once. -/
def Asc (xs : List Int) : Prop := xs.Pairwise (· < ·)

theorem asc_ext : ∀ (xs ys : List Int), Asc xs → Asc ys → (∀ z, z ∈ xs ↔ z ∈ ys) → xs = ys
  | [], [], _, _, _ => rfl
  | [], y :: _, _, _, h => by have := (h y).2 (by simp); simp at this
  | x :: _, [], _, _, h => by have := (h x).1 (by simp); simp at this
  | x :: xs, y :: ys, hx, hy, h => by
    have hx' := List.pairwise_cons.1 hx
    have hy' := List.pairwise_cons.1 hy
    have e : x = y := by
      have h1 := (h x).1 (by simp)
      have h2 := (h y).2 (by simp)
      rcases List.mem_cons.1 h1 with h1 | h1
      · exact h1
      · rcases List.mem_cons.1 h2 with h2 | h2
        · exact h2.symm
        · have := hy'.1 x h1
          have := hx'.1 y h2
          omega
    subst e
    rw [asc_ext xs ys hx'.2 hy'.2 fun z => ?_]
    constructor
    · intro hz
      have hlt := hx'.1 z hz
      rcases List.mem_cons.1 ((h z).1 (List.mem_cons_of_mem _ hz)) with h1 | h1
      · omega
      · exact h1
    · intro hz
      have hlt := hy'.1 z hz
      rcases List.mem_cons.1 ((h z).2 (List.mem_cons_of_mem _ hz)) with h1 | h1
      · omega
      · exact h1

/-- All clubs in order, once. -/
def simpZ (zs : List Int) : List Int := Lib.compact (zs.mergeSort fun x y => decide (x ≤ y))

theorem compact_asc (zs : List Int) (h : zs.Pairwise (· ≤ ·)) : Asc (Lib.compact zs) := by
  unfold Asc Lib.compact Lib.compactUpTo
  rw [List.pairwise_map]
  refine List.Pairwise.imp_of_mem (R := fun a b => a < b) ?_ (List.Pairwise.filter _ List.pairwise_lt_range)
  intro i j _ hj hij
  have hj' := List.mem_filter.1 hj
  have hjl : j < zs.length := List.mem_range.1 hj'.1
  have hk : j = 0 ∨ zs.toArray[j]! ≠ zs.toArray[j - 1]! := by simpa [Lib.keeps] using hj'.2
  have hk2 : zs.toArray[j]! ≠ zs.toArray[j - 1]! := by
    rcases hk with rfl | hk
    · omega
    · exact hk
  have e1 : zs.toArray[j]! = zs[j] := by simp [hjl]
  have e2 : zs.toArray[j - 1]! = zs[j - 1]'(by omega) := by simp [show j - 1 < zs.length by omega]
  have e3 : zs.toArray[i]! = zs[i]'(by omega) := by simp [show i < zs.length by omega]
  rw [e1, e2] at hk2
  rw [e1, e3]
  have h1 : zs[j - 1]'(by omega) ≤ zs[j] := List.pairwise_iff_getElem.1 h (j - 1) j (by omega) hjl (by omega)
  have h2 : zs[i]'(by omega) ≤ zs[j - 1]'(by omega) := by
    rcases Nat.lt_or_ge i (j - 1) with hlt | hge
    · exact List.pairwise_iff_getElem.1 h i (j - 1) (by omega) (by omega) hlt
    · have e : i = j - 1 := by omega
      subst e; exact Int.le_refl _
  omega

theorem compact_mem (zs : List Int) (z : Int) : z ∈ Lib.compact zs ↔ z ∈ zs := by
  unfold Lib.compact Lib.compactUpTo
  constructor
  · intro h
    obtain ⟨i, hi, e⟩ := List.mem_map.1 h
    have hil : i < zs.length := List.mem_range.1 (List.mem_filter.1 hi).1
    rw [← e]
    simp [hil]
  · intro h
    obtain ⟨i, hi, e⟩ := List.getElem_of_mem h
    have go : ∀ n i (hi : i < zs.length), i ≤ n → zs[i] = z → z ∈ ((List.range zs.length).filter (Lib.keeps zs.toArray)).map (zs.toArray[·]!) := by
      intro n
      induction n with
      | zero =>
        intro i hi hle e
        obtain rfl : i = 0 := by omega
        exact List.mem_map.2 ⟨0, List.mem_filter.2 ⟨List.mem_range.2 hi, by simp [Lib.keeps]⟩, by simp [hi, e]⟩
      | succ n ih =>
        intro i hi hle e
        by_cases hk : Lib.keeps zs.toArray i = true
        · exact List.mem_map.2 ⟨i, List.mem_filter.2 ⟨List.mem_range.2 hi, hk⟩, by simp [hi, e]⟩
        · have hk' : ¬ (i = 0 ∨ zs.toArray[i]! ≠ zs.toArray[i - 1]!) := by simpa [Lib.keeps] using hk
          have h0 : i ≠ 0 := fun h => hk' (.inl h)
          have h1 : zs.toArray[i]! = zs.toArray[i - 1]! := Classical.byContradiction fun h => hk' (.inr h)
          have e2 : zs.toArray[i - 1]! = zs[i - 1]'(by omega) := by simp [show i - 1 < zs.length by omega]
          have e1 : zs.toArray[i]! = zs[i] := by simp [hi]
          exact ih (i - 1) (by omega) (by omega) (by rw [← e2, ← h1, e1]; exact e)
    exact go i i hi (Nat.le_refl _) e

theorem sorted_le (zs : List Int) : (zs.mergeSort fun x y => decide (x ≤ y)).Pairwise (· ≤ ·) := by
  have := List.pairwise_mergeSort (le := fun x y : Int => decide (x ≤ y)) (by intro a b c h1 h2; simp at h1 h2 ⊢; omega) (by intro a b; simp; omega) zs
  exact this.imp (by intro a b h; simpa using h)

theorem simpZ_asc (zs : List Int) : Asc (simpZ zs) := compact_asc _ (sorted_le zs)
theorem simpZ_mem (zs : List Int) (z : Int) : z ∈ simpZ zs ↔ z ∈ zs := by
  unfold simpZ; rw [compact_mem, List.mem_mergeSort]

theorem simpZ_le (zs : List Int) : (simpZ zs).length ≤ zs.length := by
  unfold simpZ
  exact Nat.le_trans (Lib.compact_length_le _) (by rw [List.length_mergeSort]; exact Nat.le_refl _)

/-- What a function of a list returns: a list of the call's own. -/
def RetOwn (w : World) (ys : List Int) (e : Ending) (w' : World) : Prop :=
  ∃ g c, e = .returned (.slice (some ⟨g, 0, none⟩) ys.length c) ∧ OwnN w' w.heap.size (some ⟨g, 0, none⟩) ys.length c ys ∧ Below w.heap.size w w'

end Go.Proofs.YtphddemilibooaaDoor

/- It is proved what l6In, l1All and setIn return; conditions: the bounds in each statement. -/
namespace Go.Proofs.YtphddemilibooaaDoor
open Go.RowKit

def inB (n lo hi : Int) : Bool := decide (lo ≤ n) && decide (n ≤ hi)
theorem inB_true {n lo hi : Int} (h1 : lo ≤ n) (h2 : n ≤ hi) : inB n lo hi = true := by simp [inB, h1, h2]
theorem inB_false {n lo hi : Int} (h : n < lo ∨ hi < n) : inB n lo hi = false := by
  simp [inB]; omega

theorem inB_out {n lo hi : Int} (h : inB n lo hi = true) : lo ≤ n ∧ n ≤ hi := by simpa [inB] using h
theorem inB_no {n lo hi : Int} (h : inB n lo hi = false) : n < lo ∨ hi < n := by
  simp [inB] at h; omega

theorem l6In_any (n lo hi : Int) (w : World) :
    Calls Tryd.prog 46 #[.int .i64 n, .int .i64 lo, .int .i64 hi] w fun e w' => e = .returned (.bool (inB n lo hi)) ∧ w = w' := by
  by_cases h1 : lo ≤ n
  · by_cases h2 : n ≤ hi
    · rw [inB_true h1 h2]
      go_enter Tryd.func46, Tryd.ntmps46
      go_wp2
      go_ret
      exact ⟨rfl, rfl⟩
    · rw [inB_false (.inr (by omega))]
      go_enter Tryd.func46, Tryd.ntmps46
      go_wp2
      go_ret
      exact ⟨rfl, rfl⟩
  · rw [inB_false (.inl (by omega))]
    have h3 : n < lo := by omega
    go_enter Tryd.func46, Tryd.ntmps46
    go_wp2
    go_ret
    exact ⟨rfl, rfl⟩

/-- The set of all members. -/
def fullI (m : Int) : Int := 2 ^ m.toNat - 1

theorem m16 {m : Int} (h1 : 1 ≤ m) (h2 : m ≤ 6) : m = 1 ∨ m = 2 ∨ m = 3 ∨ m = 4 ∨ m = 5 ∨ m = 6 := by omega
theorem l1All_any (m : Int) (a : Option Addr) (n cap : Nat) (w : World) (h1 : 1 ≤ m) (h2 : m ≤ 6) :
    Calls Tryd.prog 57 #[.agg #[.int .i64 m, .slice a n cap]] w fun e w' => e = .returned (.int .i64 (fullI m)) ∧ w.alloc (.cells #[.int .i64 m, .slice a n cap] 25) = w' := by
  rcases m16 h1 h2 with rfl | rfl | rfl | rfl | rfl | rfl
  all_goals
    go_enter Tryd.func57, Tryd.ntmps57
    go_wp2
    go_ret
    exact ⟨rfl, rfl⟩

theorem setIn_any (m z : Int) (w : World) (h1 : 1 ≤ m) (h2 : m ≤ 6) :
    Calls Tryd.prog 59 #[.int .i64 m, .int .i64 z] w fun e w' => e = .returned (.bool (inB z 0 (fullI m))) ∧ w = w' := by
  by_cases hz : 0 ≤ z
  · by_cases hf : z ≤ fullI m
    · rw [inB_true hz hf]
      rcases m16 h1 h2 with rfl | rfl | rfl | rfl | rfl | rfl
      all_goals
        simp [fullI] at hf
        go_enter Tryd.func59, Tryd.ntmps59
        go_wp2
        go_ret
        exact ⟨by simp; omega, rfl⟩
    · rw [inB_false (.inr (by omega))]
      rcases m16 h1 h2 with rfl | rfl | rfl | rfl | rfl | rfl
      all_goals
        simp [fullI] at hf
        go_enter Tryd.func59, Tryd.ntmps59
        go_wp2
        go_ret
        exact ⟨by simp; omega, rfl⟩
  · rw [inB_false (.inl (by omega))]
    have hz' : z < 0 := by omega
    go_enter Tryd.func59, Tryd.ntmps59
    go_wp2
    go_ret
    exact ⟨rfl, rfl⟩

/-- A family is one. -/
def famIn (m : Int) (zs : List Int) : Bool := inB m 1 6 && (decide (zs.length ≤ 8) && zs.all fun z => inB z 0 (fullI m))

theorem famIn_out {m : Int} {zs : List Int} (h : famIn m zs = true) : 1 ≤ m ∧ m ≤ 6 ∧ zs.length ≤ 8 ∧ ∀ z ∈ zs, 0 ≤ z ∧ z ≤ fullI m := by
  simp only [famIn, Bool.and_eq_true, decide_eq_true_eq, List.all_eq_true] at h
  exact ⟨(inB_out h.1).1, (inB_out h.1).2, h.2.1, fun z hz => inB_out (h.2.2 z hz)⟩

theorem famIn_m {m : Int} {zs : List Int} (h : inB m 1 6 = false) : famIn m zs = false := by simp [famIn, h]
theorem famIn_l {m : Int} {zs : List Int} (h : 8 < zs.length) : famIn m zs = false := by simp [famIn]; intros; omega
theorem famIn_z {m : Int} {zs : List Int} {k : Nat} (hk : k < zs.length) (h : inB (zs[k]?.getD 0) 0 (fullI m) = false) : famIn m zs = false := by
  have : (zs.all fun z => inB z 0 (fullI m)) = false := by
    rw [List.all_eq_false]
    refine ⟨zs[k], List.getElem_mem _, ?_⟩
    simp [hk] at h
    simp [h]
  simp [famIn, this]

theorem famIn_y {m : Int} {zs : List Int} (h1 : inB m 1 6 = true) (h2 : zs.length ≤ 8) (h : ∀ k, k < zs.length → inB (zs[k]?.getD 0) 0 (fullI m) = true) : famIn m zs = true := by
  simp only [famIn, Bool.and_eq_true, decide_eq_true_eq, List.all_eq_true]
  refine ⟨h1, h2, fun z hz => ?_⟩
  obtain ⟨k, hk, rfl⟩ := List.getElem_of_mem hz
  have := h k hk
  simpa [hk] using this

end Go.Proofs.YtphddemilibooaaDoor
