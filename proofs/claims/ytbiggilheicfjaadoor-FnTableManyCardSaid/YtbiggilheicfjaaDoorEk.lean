/- It is proved what the reference model's l3Take and l3Count return; conditions: those of each statement. -/
import Derived.RowKit
import Derived.Laws.CopyRow
import Derived.Lib.SlBuf
import Derived.Deep.QuietTactic
import Derived.RangeFuncNested
import Derived.RangeFuncBound
import Derived.RangeFuncCalls
import Derived.RangeFuncLeaves
import Derived.RangeFuncBox
import Derived.RangeFuncWrites
import Derived.StillTailTactics
import Derived.Maps.OwnIn
import Derived.Maps.Ext
import Derived.DeepKeys4
import Derived.MapKept
import Derived.Test.YtbiggilheicfjaaDoorRows
import Derived.WalkKit
import Derived.WalkSpells
import Derived.ProofKit
import Derived.OpenShut
import Derived.ShutString
import Derived.ChangeOld
import Derived.Below
import Derived.Deep.RegionHeld3
import Derived.BigQuiet
import Derived.Lib.Hide
import Derived.Lib.SmallJoins
import Derived.Outline
import Derived.Laws.MakeOwn
import Derived.Laws.OwnMore
import Derived.IntWalk
import Derived.Maps.AppendAt
import Derived.Lib.AppendZeros
import Derived.Deep.AppendLies
import Derived.OwnWalk
import Derived.Lib.SlicesCompact
import Derived.Lib.OwnBridge
import Derived.OrdersIn
import Derived.TacticsIn
import Derived.Shelf.Sort.Plain
import Derived.Shelf.Slices.In.SortNone
import Derived.Shelf.Slices.CompactI
import Derived.Ground.Names2Prog
import Derived.Shelf.Abstract
import Derived.Shelf.RegionOpen
import Derived.OwnWalkIn
import Derived.TacticsInMore
import Derived.LoopNIn
import Derived.LoopIn
import Derived.StillTail
import Derived.StillTactics
import Derived.Shelf.Spec.TrailingZeros
import Derived.Test.YtbiggilheicfjaaDoorMva
import Derived.Test.YtbiggilheicfjaaDoorBi
import Derived.Test.YtbiggilheicfjaaDoorDc
import Derived.Test.YtbiggilheicfjaaDoorGc
import Derived.Test.YtbiggilheicfjaaDoorPm
import Derived.Test.YtbiggilheicfjaaDoorZa
import Derived.Test.YtbiggilheicfjaaDoorZd
namespace Go.Proofs.YtbiggilheicfjaaDoor
open Go.RowKit Go.Shelf

def bitI (s v : Nat) : Int := if s.testBit v then 1 else 0
theorem bitI_01 (s v : Nat) : 0 ≤ bitI s v ∧ bitI s v ≤ 1 := by unfold bitI; split <;> omega
/-- Degrees that are left behind a club. -/
def takeL (left : List Int) (s : Nat) : Nat → List Int
  | 0 => []
  | j + 1 => takeL left s j ++ [left[j]?.getD 0 - bitI s j]

def takeO (z : Int) (left : List Int) (s : Nat) : Nat → Bool
  | 0 => decide (pop (s : Int) = z)
  | j + 1 => takeO z left s j && decide (0 ≤ left[j]?.getD 0 - bitI s j)

def takeN (left : List Int) (s : Nat) : List Int := takeL left s left.length
def takeB (z : Int) (left : List Int) (s : Nat) : Bool := takeO z left s left.length
theorem takeL_len (left : List Int) (s : Nat) : ∀ j, (takeL left s j).length = j
  | 0 => rfl
  | j + 1 => by rw [takeL, List.length_append, takeL_len left s j]; rfl

theorem takeN_len (left : List Int) (s : Nat) : (takeN left s).length = left.length := takeL_len _ _ _
theorem takeL_at (left : List Int) (s : Nat) : ∀ j v, v < j → (takeL left s j)[v]?.getD 0 = left[v]?.getD 0 - bitI s v
  | 0, v, h => by omega
  | j + 1, v, h => by
    rw [takeL]
    by_cases e : v < j
    · rw [List.getElem?_append_left (by rw [takeL_len]; exact e)]
      exact takeL_at left s j v e
    · obtain rfl : v = j := by omega
      rw [List.getElem?_append_right (by rw [takeL_len]; exact Nat.le_refl _), takeL_len]
      simp

theorem takeN_at (left : List Int) (s v : Nat) (h : v < left.length) : (takeN left s)[v]?.getD 0 = left[v]?.getD 0 - bitI s v := takeL_at _ _ _ _ h
theorem takeO_iff (z : Int) (left : List Int) (s : Nat) : ∀ j, (takeO z left s j = true ↔ pop (s : Int) = z ∧ ∀ v, v < j → 0 ≤ left[v]?.getD 0 - bitI s v)
  | 0 => by simp [takeO]
  | j + 1 => by
    rw [takeO, Bool.and_eq_true, takeO_iff z left s j, decide_eq_true_eq]
    constructor
    · rintro ⟨⟨h1, h2⟩, h3⟩
      refine ⟨h1, fun v hv => ?_⟩
      by_cases e : v < j
      · exact h2 v e
      · obtain rfl : v = j := by omega
        exact h3
    · rintro ⟨h1, h2⟩
      exact ⟨⟨h1, fun v hv => h2 v (by omega)⟩, h2 j (by omega)⟩

theorem takeB_iff {z : Int} {left : List Int} {s : Nat} : takeB z left s = true ↔ pop (s : Int) = z ∧ ∀ v, v < left.length → 0 ≤ left[v]?.getD 0 - bitI s v := takeO_iff _ _ _ _
theorem mem_at {left : List Int} {x : Int} (h : x ∈ left) : ∃ v, v < left.length ∧ x = left[v]?.getD 0 := by
  obtain ⟨v, hv, e⟩ := List.getElem_of_mem h
  exact ⟨v, hv, by simp [hv, e]⟩

theorem at_mem {left : List Int} {v : Nat} (h : v < left.length) : left[v]?.getD 0 ∈ left := by
  rw [List.getElem?_eq_getElem h, Option.getD_some]; exact List.getElem_mem _

theorem takeN_in {z : Int} {left : List Int} {s : Nat} (hl : ∀ x ∈ left, 0 ≤ x ∧ x ≤ 5) (h : takeB z left s = true) : ∀ x ∈ takeN left s, 0 ≤ x ∧ x ≤ 5 := by
  intro x hx
  obtain ⟨v, hv, rfl⟩ := mem_at hx
  rw [takeN_len] at hv
  have h1 := (takeB_iff.1 h).2 v hv
  have h2 := hl _ (at_mem hv)
  have h3 := bitI_01 s v
  rw [takeN_at _ _ _ hv]
  omega

set_option maxRecDepth 100000 in
set_option maxHeartbeats 4000000 in
theorem take_any (z : Int) (a : Option Addr) (c : Nat) (left : List Int) (s : Nat) (w : World) (ha : Ints w w.heap.size a left) (hl : left.length ≤ 5) (hz : ∀ x ∈ left, 0 ≤ x ∧ x ≤ 5) (hs : s < 32) :
    Calls Tryd.prog 62 #[.int .i64 z, .slice a left.length c, .int .i64 (s : Int)] w (RetSB w (takeN left s) (takeB z left s)) := by
  obtain ⟨n, hn⟩ : ∃ n, n = left.length := ⟨_, rfl⟩
  have HN := Lib.hid hn
  have HI := Lib.hid ha
  have HZ := Lib.hid hz
  have HE : Hid (OwnN (w.alloc (.cells #[] 3)) w.heap.size (some ⟨w.heap.size, 0, none⟩) 0 0 []) := Lib.hid (own_empty (alloc_new w _) (Nat.le_refl _))
  have HB := Lib.hid (below1 w (.cells #[] 3))
  have hs0 : (0 : Int) ≤ (s : Int) := by omega
  have hs63 : (s : Int) ≤ 63 := by omega
  rw [← hn] at hl ⊢
  clear hn ha hz
  go_enter Tryd.func62, Tryd.ntmps62
  go_wp2_with fail
  refine (l1Size_any _ _ hs0 hs63).mono ?_
  rintro e w1 ⟨rfl, rfl⟩
  obtain ⟨P, hP⟩ : ∃ P, P = pop (s : Int) := ⟨_, rfl⟩
  have HP := Lib.hid hP
  rw [← hP]
  clear hP
  have hPz : Hid (takeO z left s 0 = decide (P = z)) := Lib.hid (by rw [HP.out]; rfl)
  go_wp2
  go_loopw [8, 9, 10] (fun nx ok i wr => ∃ (j : Nat) (a' : Option Addr) (c' : Nat), j ≤ n ∧ i = .int .i64 (j : Int) ∧ nx = .slice a' j c' ∧ ok = .bool (takeO z left s j) ∧ OwnN wr w.heap.size a' j c' (takeL left s j) ∧ Below w.heap.size w wr) (fun _ _ i _ => n - (intOf i).toNat)
  case atStart => exact ⟨0, _, _, Nat.zero_le _, rfl, rfl, by rw [hPz.out]; first | rfl | (congr 1), HE.out, HB.out⟩
  case round =>
    obtain ⟨j, a', c', hj, rfl, rfl, rfl, ho, hb⟩ := hrel
    obtain ⟨o, ho'⟩ : ∃ o, o = takeO z left s j := ⟨_, rfl⟩
    rw [← ho']
    have HOO := Lib.hid ho'
    have HO := Lib.hid ho
    have HBB := Lib.hid hb
    clear ho hb ho'
    by_cases hlt : j < n
    · have hjl : j < left.length := by rw [← HN.out]; exact hlt
      obtain ⟨b1, o1, rfl, hb1, hc1⟩ := HI.out.at_ (k := j) hjl
      have y1 := (HBB.out.cell (p := ⟨b1, o1 + j, none⟩) hb1).trans hc1
      obtain ⟨x, hx⟩ : ∃ x, x = left[j]?.getD 0 := ⟨_, rfl⟩
      rw [← hx] at y1
      have hx05 := HZ.out _ (at_mem hjl)
      rw [← hx] at hx05
      obtain ⟨hx0, hx5⟩ := hx05
      obtain ⟨y, hy⟩ : ∃ y, y = x - bitI s j := ⟨_, rfl⟩
      obtain ⟨a5, c5, w5, hr5, ho5, hall⟩ := app_int (W := wr.drew) (own_drew HO.out) (by show w.heap.size ≤ wr.heap.size; exact HBB.out.size) (by omega) y
      obtain ⟨hb5, -⟩ := hall (fun g => w.heap.size ≤ g) (fun g hg => (World.ownsRow.lt HO.out g hg).1) (fun g hg => Nat.le_trans HBB.out.size hg)
      have HB5 : Hid (Below w.heap.size w w5) := Lib.hid (HBB.out.drew.trans (hb5.below (B := w.heap.size) (by show w.heap.size ≤ wr.heap.size; exact HBB.out.size) (fun k hk => hk)))
      obtain ⟨g5, rfl, hg1, hg2⟩ := OwnN.addr ho5 (by omega)
      have y5 : w5.cell? ⟨g5, j, none⟩ = some (.int .i64 y) := by
        rw [World.ownsRow.cellAt ho5 j (by omega), List.map_append, List.getElem?_append_right (by rw [List.length_map, takeL_len]; exact Nat.le_refl _), List.length_map, takeL_len]
        simp
      have HO5 : Hid (OwnN w5 w.heap.size (some ⟨g5, 0, none⟩) (j + 1) c5 (takeL left s (j + 1))) := Lib.hid (by rw [takeL, ← hx, ← hy]; exact ho5)
      have HON : Hid (takeO z left s (j + 1) = (o && decide (0 ≤ y))) := Lib.hid (by rw [takeO, ← HOO.out, ← hx, ← hy])
      have hj0 : (0 : Int) ≤ (j : Int) := by omega
      have hj1 : (j : Int) < (n : Int) := by omega
      have hj2 : (j : Int) < 64 := by omega
      have hbv := bit_val (S := s) (v := j) (by omega) (by omega)
      unfold bitI at hy
      have hb1w : b1 < wr.heap.size := Nat.lt_of_lt_of_le hb1 HBB.out.size
      have y7 : Hid (w5.cell? ⟨b1, o1 + j, none⟩ = some (.int .i64 x)) := Lib.hid ((HB5.out.cell (p := ⟨b1, o1 + j, none⟩) hb1).trans (by rw [hc1, ← hx]))
      have HR5 := Lib.hid hr5
      clear hc1 ho5 hall hb5 hx hr5
      cases ht : s.testBit j
      · rw [ht] at hbv hy
        simp only [if_true, if_false, Bool.false_eq_true] at hbv hy
        obtain rfl : y = x := by omega
        clear hy
        have HW : Hid (IntKind.i64.wrap (y) = y) := Lib.hid (by rw [IntKind.wrap_i64]; omega)
        clear ht
        cases o
        · go_wp2
          have hw := HW.out
          go_region_held3 (fun w' => w'.cell? ⟨b1, o1 + j, none⟩ = some (.int .i64 y))
            (first
              | exact y1
              | exact (World.cell?_alloc_lt wr _ _ hb1w).trans y1
              | exact y7.out)
            (first
              | (refine step_run2 (by rfl) _ _ 23 23 (by rfl) (.slice a' j c') (.slice (some ⟨wr.heap.size, 0, none⟩) 1 1) (by rfl) (by rfl) ?_; refine ⟨_, _, HR5.out, ?_⟩))
          clear hw
          go_wp2
          go_roundw
          case rel => exact ⟨j + 1, _, c5, by omega, by go_num, rfl, by rw [HON.out]; rfl, HO5.out, HB5.out⟩
          case measure => simp [intOf]; omega
        · go_wp2
          have hw := HW.out
          go_region_held3 (fun w' => w'.cell? ⟨b1, o1 + j, none⟩ = some (.int .i64 y))
            (first
              | exact y1
              | exact (World.cell?_alloc_lt wr _ _ hb1w).trans y1
              | exact y7.out)
            (first
              | (refine step_run2 (by rfl) _ _ 23 23 (by rfl) (.slice a' j c') (.slice (some ⟨wr.heap.size, 0, none⟩) 1 1) (by rfl) (by rfl) ?_; refine ⟨_, _, HR5.out, ?_⟩))
          clear hw
          go_wp2
          go_roundw
          case rel => exact ⟨j + 1, _, c5, by omega, by go_num, rfl, by rw [HON.out, Bool.true_and]; first | rfl | exact congrArg Value.bool (decide_eq_decide.2 (by omega)) | exact congrArg Value.bool (decide_eq_true (by omega)).symm, HO5.out, HB5.out⟩
          case measure => simp [intOf]; omega
      · rw [ht] at hbv hy
        simp only [if_true, if_false, Bool.false_eq_true] at hbv hy
        subst hy
        have HW : Hid (IntKind.i64.wrap (x - 1) = x - 1) := Lib.hid (by rw [IntKind.wrap_i64]; omega)
        clear ht
        cases o
        · go_wp2
          have hw := HW.out
          go_region_held3 (fun w' => w'.cell? ⟨b1, o1 + j, none⟩ = some (.int .i64 x))
            (first
              | exact y1
              | exact (World.cell?_alloc_lt wr _ _ hb1w).trans y1
              | exact y7.out)
            (first
              | (refine step_run2 (by rfl) _ _ 23 23 (by rfl) (.slice a' j c') (.slice (some ⟨wr.heap.size, 0, none⟩) 1 1) (by rfl) (by rfl) ?_; refine ⟨_, _, HR5.out, ?_⟩))
          clear hw
          go_wp2
          go_roundw
          case rel => exact ⟨j + 1, _, c5, by omega, by go_num, rfl, by rw [HON.out]; rfl, HO5.out, HB5.out⟩
          case measure => simp [intOf]; omega
        · go_wp2
          have hw := HW.out
          go_region_held3 (fun w' => w'.cell? ⟨b1, o1 + j, none⟩ = some (.int .i64 x))
            (first
              | exact y1
              | exact (World.cell?_alloc_lt wr _ _ hb1w).trans y1
              | exact y7.out)
            (first
              | (refine step_run2 (by rfl) _ _ 23 23 (by rfl) (.slice a' j c') (.slice (some ⟨wr.heap.size, 0, none⟩) 1 1) (by rfl) (by rfl) ?_; refine ⟨_, _, HR5.out, ?_⟩))
          clear hw
          go_wp2
          go_roundw
          case rel => exact ⟨j + 1, _, c5, by omega, by go_num, rfl, by rw [HON.out, Bool.true_and]; first | rfl | exact congrArg Value.bool (decide_eq_decide.2 (by omega)) | exact congrArg Value.bool (decide_eq_true (by omega)).symm, HO5.out, HB5.out⟩
          case measure => simp [intOf]; omega
    · obtain rfl : j = n := by omega
      have HD : Hid (RetSB w (takeN left s) (takeB z left s) (.returned (.tuple #[.slice a' j c', .bool o])) wr) := by
        refine ⟨a', c', by rw [takeN_len, ← HN.out, takeB, ← HN.out, HOO.out], ?_, HBB.out⟩
        have h1 := HO.out
        unfold OwnI
        rw [takeN_len, ← HN.out, takeN, ← HN.out]
        exact h1
      go_wp2
      go_ret2
      exact HD.out

end Go.Proofs.YtbiggilheicfjaaDoor
