/- It is proved what l1Put returns; conditions: the bounds in each statement. -/
import Derived.Test.YtckbhhaigpajpaaRows
import Derived.WalkKit
import Derived.WalkSpells
import Derived.ProofKit
import Derived.OpenShut
import Derived.ShutString
import Derived.ChangeOld
import Derived.Below
import Derived.Deep.RegionHeld3
import Derived.Deep.QuietTactic
import Derived.BigQuiet
import Derived.Lib.Hide
import Derived.Lib.SmallJoins
import Derived.Outline
import Derived.Laws.MakeOwn
import Derived.Laws.OwnMore
import Derived.IntWalk
import Derived.Lib.AppendZeros
import Derived.Maps.AppendAt
import Derived.Deep.AppendLies
import Derived.OwnWalk
import Derived.RangeFuncNested
import Derived.RangeFuncBound
import Derived.RangeFuncCalls
import Derived.RangeFuncLeaves
import Derived.RangeFuncBox
import Derived.Shelf.Abstract
import Derived.Shelf.RegionOpen
import Derived.OwnWalkIn
import Derived.TacticsInMore
import Derived.LoopNIn
import Derived.LoopIn
import Derived.Test.YtckbhhaigpajpaaRaaa
import Derived.Test.YtckbhhaigpajpaaRaab
import Derived.Test.YtckbhhaigpajpaaRaae
import Derived.Test.YtckbhhaigpajpaaRaaf
import Derived.Test.YtckbhhaigpajpaaRaac
namespace Go.Proofs.Ytckbhhaigpajpaa
open Go.RowKit

/-- What l1Put comes to. -/
def PutPost (w : World) (b off n c : Nat) (zs : List Int) (x : Int) (e : Ending) (w' : World) : Prop :=
  ∃ k, k ≤ n ∧ (∀ j, k ≤ j → j < n → x < zs[j]?.getD 0) ∧
    ((∃ k', k = k' + 1 ∧ zs[k']?.getD 0 = x ∧ e = .returned (.slice (some ⟨b, off, none⟩) n c) ∧ w' = w) ∨
     ((∀ k', k = k' + 1 → zs[k']?.getD 0 < x) ∧ ∃ a' c', e = .returned (.slice a' (n + 1) c') ∧ OwnN w' w.heap.size a' (n + 1) c' (zs.take k ++ [x] ++ zs.drop k) ∧ Below w.heap.size w w'))

theorem app_run0n {w : World} {B k : Nat} {v : Value} (h : OwnI w B v []) (hB : B ≤ w.heap.size) (a : Option Addr) (c : Nat) (zs : List Int) (hk : zs.length = k) (hz : Ints w w.heap.size a zs) (hzn : k ≤ 1048576) :
    ∃ a' c' w', (Builtin.append_ #[23, 23] 23 #[v, .slice a k c]).run Try.prog w = .ok (.slice a' k c') w' ∧
      w'.ownsRow B 3 1 (.slice a' k c') k (zs.map (Value.int .i64)) ∧ w.grownBy w' v.ownBlock := by
  subst hk
  exact app_run0 h hB a c zs hz (by omega) hzn

theorem app_run_t {w : World} {B n k t : Nat} {v : Value} {xs : List Value} (h : w.ownsRow B 3 1 v n xs) (hB : B ≤ w.heap.size) (a : Option Addr) (c : Nat) (zs : List Int) (hk : zs.length = k) (hz : Ints w w.heap.size a zs) (ht : n + k = t) (hn : n ≤ 1048576) (hzn : k ≤ 1048576) :
    ∃ a' c' w', (Builtin.append_ #[23, 23] 23 #[v, .slice a k c]).run Try.prog w = .ok (.slice a' t c') w' ∧
      w'.ownsRow B 3 1 (.slice a' t c') t (xs ++ zs.map (Value.int .i64)) ∧ w.grownBy w' v.ownBlock := by
  subst ht
  exact app_run_n h hB a c zs hk hz hn hzn

set_option maxRecDepth 100000 in
set_option maxHeartbeats 6400000 in
theorem l1Put_any (b off n c : Nat) (zs : List Int) (x : Int) (w : World) (hl : zs.length = n) (ha : Ints w w.heap.size (some ⟨b, off, none⟩) zs) (hx : n < 1048576) (hc : n ≤ c) :
    Calls Try.prog 22 #[.slice (some ⟨b, off, none⟩) n c, .int .i64 x] w (PutPost w b off n c zs x) := by
  have HL := Lib.hid hl
  have HA := Lib.hid ha
  have hcell : ∀ j, j < n → w.cell? ⟨b, off + j, none⟩ = some (.int .i64 (zs[j]?.getD 0)) := by
    intro j hj
    obtain ⟨b', o', e, _, h⟩ := ha.at_ (k := j) (by omega)
    injection e with e
    injection e with e1 e2
    subst e1; subst e2
    exact h
  have HC := Lib.hid hcell
  clear hl ha hcell
  go_enter Try.func22, Try.ntmps22
  go_wp2
  go_loop [5] (fun i => ∃ q : Nat, q ≤ n ∧ i = .int .i64 q ∧ (∀ j, q ≤ j → j < n → x < zs[j]?.getD 0)) (fun i => (intOf i).toNat)
  case atStart => exact ⟨n, Nat.le_refl _, rfl, fun j h1 h2 => by omega⟩
  case round =>
    obtain ⟨q, hq, rfl, he⟩ := hrel
    have HE := Lib.hid he
    clear he
    have hqn : (q : Int) ≤ (n : Int) := by omega
    have hqc : (q : Int) ≤ (c : Int) := by omega
    have hnc : (n : Int) ≤ (c : Int) := by omega
    by_cases h0 : q = 0
    · subst h0
      by_cases hcc : c = 0
      · obtain rfl : n = 0 := by omega
        subst hcc
        have HT1 : Hid ((zs.take 0).length = 0) := Lib.hid (by rw [List.length_take, HL.out, Nat.min_self])
        have hD0 : zs.drop 0 = [] := List.drop_eq_nil_of_le (by rw [HL.out]; exact Nat.le_refl _)
        have HT2 : Hid ((zs.drop 0).length = 0) := Lib.hid (by rw [hD0]; rfl)
        have hTl : Ints w w.heap.size (some ⟨b, off, none⟩) (zs.drop 0) := by rw [hD0]; exact .inl rfl
        have hEA : OwnI (w.alloc (.cells #[] 3)).drew w.heap.size (.slice (some ⟨w.heap.size, 0, none⟩) 0 0) [] := own_empty (w := (w.alloc (.cells #[] 3)).drew) (alloc_new w _) (Nat.le_refl _)
        have hB0A : Below w.heap.size w (w.alloc (.cells #[] 3)).drew := (below1 w (.cells #[] 3)).drew
        obtain ⟨a3A, c3A, w3A, hr3A, ho3A, hg3A⟩ := app_run0n (k := 0) hEA hB0A.size (some ⟨b, off, none⟩) 0 (zs.take 0) HT1.out (((HA.out.take_ 0).below hB0A).mono hB0A.size) (by omega)
        have hb3A : Below w.heap.size w w3A := hB0A.grown hg3A hB0A.size (fun g e => (World.ownsRow.lt hEA g e).1)
        have hX2A : Ints (w3A.alloc (.cells #[.int .i64 x] 3)) (w3A.alloc (.cells #[.int .i64 x] 3)).heap.size (some ⟨w3A.heap.size, 0, none⟩) [x] := one_ints0 w3A x
        have hO2A := ho3A.alloc (.cells #[.int .i64 x] 3)
        have hBW2A : Below w.heap.size w (w3A.alloc (.cells #[.int .i64 x] 3)) := hb3A.alloc hb3A.size _
        obtain ⟨a4A, c4A, w4A, hr4A, ho4A, hg4A⟩ := app_run_t (t := 1) (k := 1) hO2A hBW2A.size (some ⟨w3A.heap.size, 0, none⟩) 1 [x] rfl hX2A (by omega) (by omega) (by omega)
        have hb4A : Below w.heap.size w w4A := hBW2A.grown hg4A hBW2A.size (fun g e => (World.ownsRow.lt hO2A g e).1)
        obtain ⟨a5A, c5A, w5A, hr5A, ho5A, hg5A⟩ := app_run_t (t := 0 + 1) (k := 0) ho4A hb4A.size (some ⟨b, off, none⟩) 0 (zs.drop 0) HT2.out ((hTl.below hb4A).mono hb4A.size) (by omega) (by omega) (by omega)
        have hb5A : Below w.heap.size w w5A := hb4A.grown hg5A hb4A.size (fun g e => (World.ownsRow.lt ho4A g e).1)
        have HR3A := Lib.hid hr3A
        have HR4A := Lib.hid hr4A
        have HR5A := Lib.hid hr5A
        have HO5A : Hid (OwnN w5A w.heap.size a5A (0 + 1) c5A (zs.take 0 ++ [x] ++ zs.drop 0)) := Lib.hid (by have h := ho5A; unfold OwnN; rw [List.map_append, List.map_append]; simpa using h)
        have HB5A := Lib.hid hb5A
        clear hEA hB0A hr3A ho3A hg3A hb3A hX2A hO2A hBW2A hr4A ho4A hg4A hb4A hr5A ho5A hg5A hb5A
        have hEB : OwnI ((w.alloc (.cells #[.int .i64 x] 3)).alloc (.cells #[] 3)).drew w.heap.size (.slice (some ⟨w.heap.size + 1, 0, none⟩) 0 0) [] := own_empty (w := ((w.alloc (.cells #[.int .i64 x] 3)).alloc (.cells #[] 3)).drew) (alloc2_1 w _ _) (by omega)
        have hB0B : Below w.heap.size w ((w.alloc (.cells #[.int .i64 x] 3)).alloc (.cells #[] 3)).drew := (below2 w (.cells #[.int .i64 x] 3) (.cells #[] 3)).drew
        obtain ⟨a3B, c3B, w3B, hr3B, ho3B, hg3B⟩ := app_run0n (k := 0) hEB hB0B.size (some ⟨b, off, none⟩) 0 (zs.take 0) HT1.out (((HA.out.take_ 0).below hB0B).mono hB0B.size) (by omega)
        have hb3B : Below w.heap.size w w3B := hB0B.grown hg3B hB0B.size (fun g e => (World.ownsRow.lt hEB g e).1)
        have hXbB : w3B.heap[w.heap.size]? = some (.cells #[.int .i64 x] 3 (0, 0)) := (hg3B.block w.heap.size (lt_of_some (W := ((w.alloc (.cells #[.int .i64 x] 3)).alloc (.cells #[] 3)).drew) (alloc2_0 w _ _)) (by simp [Value.ownBlock])).trans (alloc2_0 w _ _)
        have hX2B : Ints w3B w3B.heap.size (some ⟨w.heap.size, 0, none⟩) [x] := one_blk hXbB
        have hO2B := ho3B
        have hBW2B : Below w.heap.size w w3B := hb3B
        obtain ⟨a4B, c4B, w4B, hr4B, ho4B, hg4B⟩ := app_run_t (t := 1) (k := 1) hO2B hBW2B.size (some ⟨w.heap.size, 0, none⟩) 1 [x] rfl hX2B (by omega) (by omega) (by omega)
        have hb4B : Below w.heap.size w w4B := hBW2B.grown hg4B hBW2B.size (fun g e => (World.ownsRow.lt hO2B g e).1)
        obtain ⟨a5B, c5B, w5B, hr5B, ho5B, hg5B⟩ := app_run_t (t := 0 + 1) (k := 0) ho4B hb4B.size (some ⟨b, off, none⟩) 0 (zs.drop 0) HT2.out ((hTl.below hb4B).mono hb4B.size) (by omega) (by omega) (by omega)
        have hb5B : Below w.heap.size w w5B := hb4B.grown hg5B hb4B.size (fun g e => (World.ownsRow.lt ho4B g e).1)
        have HR3B := Lib.hid hr3B
        have HR4B := Lib.hid hr4B
        have HR5B := Lib.hid hr5B
        have HO5B : Hid (OwnN w5B w.heap.size a5B (0 + 1) c5B (zs.take 0 ++ [x] ++ zs.drop 0)) := Lib.hid (by have h := ho5B; unfold OwnN; rw [List.map_append, List.map_append]; simpa using h)
        have HB5B := Lib.hid hb5B
        clear hEB hB0B hr3B ho3B hg3B hb3B hX2B hO2B hBW2B hr4B ho4B hg4B hb4B hr5B ho5B hg5B hb5B hXbB
        have hEC : OwnI ((w.alloc (.cells #[] 3)).alloc (.cells #[.int .i64 x] 3)).drew w.heap.size (.slice (some ⟨w.heap.size, 0, none⟩) 0 0) [] := own_empty (w := ((w.alloc (.cells #[] 3)).alloc (.cells #[.int .i64 x] 3)).drew) (alloc2_0 w _ _) (Nat.le_refl _)
        have hB0C : Below w.heap.size w ((w.alloc (.cells #[] 3)).alloc (.cells #[.int .i64 x] 3)).drew := (below2 w (.cells #[] 3) (.cells #[.int .i64 x] 3)).drew
        obtain ⟨a3C, c3C, w3C, hr3C, ho3C, hg3C⟩ := app_run0n (k := 0) hEC hB0C.size (some ⟨b, off, none⟩) 0 (zs.take 0) HT1.out (((HA.out.take_ 0).below hB0C).mono hB0C.size) (by omega)
        have hb3C : Below w.heap.size w w3C := hB0C.grown hg3C hB0C.size (fun g e => (World.ownsRow.lt hEC g e).1)
        have hXbC : w3C.heap[(w.heap.size + 1)]? = some (.cells #[.int .i64 x] 3 (0, 0)) := (hg3C.block (w.heap.size + 1) (lt_of_some (W := ((w.alloc (.cells #[] 3)).alloc (.cells #[.int .i64 x] 3)).drew) (alloc2_1 w _ _)) (by simp [Value.ownBlock])).trans (alloc2_1 w _ _)
        have hX2C : Ints w3C w3C.heap.size (some ⟨(w.heap.size + 1), 0, none⟩) [x] := one_blk hXbC
        have hO2C := ho3C
        have hBW2C : Below w.heap.size w w3C := hb3C
        obtain ⟨a4C, c4C, w4C, hr4C, ho4C, hg4C⟩ := app_run_t (t := 1) (k := 1) hO2C hBW2C.size (some ⟨(w.heap.size + 1), 0, none⟩) 1 [x] rfl hX2C (by omega) (by omega) (by omega)
        have hb4C : Below w.heap.size w w4C := hBW2C.grown hg4C hBW2C.size (fun g e => (World.ownsRow.lt hO2C g e).1)
        obtain ⟨a5C, c5C, w5C, hr5C, ho5C, hg5C⟩ := app_run_t (t := 0 + 1) (k := 0) ho4C hb4C.size (some ⟨b, off, none⟩) 0 (zs.drop 0) HT2.out ((hTl.below hb4C).mono hb4C.size) (by omega) (by omega) (by omega)
        have hb5C : Below w.heap.size w w5C := hb4C.grown hg5C hb4C.size (fun g e => (World.ownsRow.lt ho4C g e).1)
        have HR3C := Lib.hid hr3C
        have HR4C := Lib.hid hr4C
        have HR5C := Lib.hid hr5C
        have HO5C : Hid (OwnN w5C w.heap.size a5C (0 + 1) c5C (zs.take 0 ++ [x] ++ zs.drop 0)) := Lib.hid (by have h := ho5C; unfold OwnN; rw [List.map_append, List.map_append]; simpa using h)
        have HB5C := Lib.hid hb5C
        clear hEC hB0C hr3C ho3C hg3C hb3C hX2C hO2C hBW2C hr4C ho4C hg4C hb4C hr5C ho5C hg5C hb5C hXbC
        clear hTl hD0
        go_wp2_with fail
        go_region_held3 (fun _ => True)
          (trivial)
          (first
            | ((with_reducible refine step_run3 (w := (w.alloc (.cells #[] 3)).drew) (.tmp 33) (.tmp 36) 23 23 (.slice (some ⟨w.heap.size, 0, none⟩) 0 0) (.slice (some ⟨b, off, none⟩) 0 0) ?_ ?_ ?_ ?_ ?_); rfl; rfl; rfl; rfl; refine ⟨_, _, HR3A.out, ?_⟩)
            | ((with_reducible refine step_run3 (w := ((w.alloc (.cells #[.int .i64 x] 3)).alloc (.cells #[] 3)).drew) (.tmp 33) (.tmp 36) 23 23 (.slice (some ⟨w.heap.size + 1, 0, none⟩) 0 0) (.slice (some ⟨b, off, none⟩) 0 0) ?_ ?_ ?_ ?_ ?_); rfl; rfl; rfl; rfl; refine ⟨_, _, HR3B.out, ?_⟩)
            | ((with_reducible refine step_run3 (w := ((w.alloc (.cells #[] 3)).alloc (.cells #[.int .i64 x] 3)).drew) (.tmp 33) (.tmp 36) 23 23 (.slice (some ⟨w.heap.size, 0, none⟩) 0 0) (.slice (some ⟨b, off, none⟩) 0 0) ?_ ?_ ?_ ?_ ?_); rfl; rfl; rfl; rfl; refine ⟨_, _, HR3C.out, ?_⟩)
            | ((with_reducible refine step_run3 (w := (w3A.alloc (.cells #[.int .i64 x] 3))) (.tmp 37) (.tmp 39) 23 23 (.slice a3A 0 c3A) (.slice (some ⟨w3A.heap.size, 0, none⟩) 1 1) ?_ ?_ ?_ ?_ ?_); rfl; rfl; rfl; rfl; refine ⟨_, _, HR4A.out, ?_⟩)
            | ((with_reducible refine step_run3 (w := w3B) (.tmp 37) (.tmp 39) 23 23 (.slice a3B 0 c3B) (.slice (some ⟨w.heap.size, 0, none⟩) 1 1) ?_ ?_ ?_ ?_ ?_); rfl; rfl; rfl; rfl; refine ⟨_, _, HR4B.out, ?_⟩)
            | ((with_reducible refine step_run3 (w := w3C) (.tmp 37) (.tmp 39) 23 23 (.slice a3C 0 c3C) (.slice (some ⟨(w.heap.size + 1), 0, none⟩) 1 1) ?_ ?_ ?_ ?_ ?_); rfl; rfl; rfl; rfl; refine ⟨_, _, HR4C.out, ?_⟩)
            | ((with_reducible refine step_run3 (w := w4A) (.tmp 40) (.tmp 43) 23 23 (.slice a4A (1) c4A) (.slice (some ⟨b, off, none⟩) 0 0) ?_ ?_ ?_ ?_ ?_); rfl; rfl; rfl; rfl; refine ⟨_, _, HR5A.out, ?_⟩)
            | ((with_reducible refine step_run3 (w := w4B) (.tmp 40) (.tmp 43) 23 23 (.slice a4B (1) c4B) (.slice (some ⟨b, off, none⟩) 0 0) ?_ ?_ ?_ ?_ ?_); rfl; rfl; rfl; rfl; refine ⟨_, _, HR5B.out, ?_⟩)
            | ((with_reducible refine step_run3 (w := w4C) (.tmp 40) (.tmp 43) 23 23 (.slice a4C (1) c4C) (.slice (some ⟨b, off, none⟩) 0 0) ?_ ?_ ?_ ?_ ?_); rfl; rfl; rfl; rfl; refine ⟨_, _, HR5C.out, ?_⟩))
        all_goals first
          | (go_wp2; go_ret; exact ⟨0, by omega, HE.out, .inr ⟨fun k' e => absurd e (Nat.succ_ne_zero _).symm, a5A, c5A, rfl, HO5A.out, HB5A.out⟩⟩)
          | (go_wp2; go_ret; exact ⟨0, by omega, HE.out, .inr ⟨fun k' e => absurd e (Nat.succ_ne_zero _).symm, a5B, c5B, rfl, HO5B.out, HB5B.out⟩⟩)
          | (go_wp2; go_ret; exact ⟨0, by omega, HE.out, .inr ⟨fun k' e => absurd e (Nat.succ_ne_zero _).symm, a5C, c5C, rfl, HO5C.out, HB5C.out⟩⟩)
      · have hcn : (0 : Int) < (c : Int) := by omega
        have HT1 : Hid ((zs.take 0).length = 0) := Lib.hid (by rw [List.length_take, HL.out]; omega)
        have HT2 : Hid ((zs.drop 0).length = n) := Lib.hid (by rw [List.length_drop, HL.out]; rfl)
        have hTl : Ints w w.heap.size (some ⟨b, off, none⟩) (zs.drop 0) := HA.out
        have hEA : OwnI (w.alloc (.cells #[] 3)).drew w.heap.size (.slice (some ⟨w.heap.size, 0, none⟩) 0 0) [] := own_empty (w := (w.alloc (.cells #[] 3)).drew) (alloc_new w _) (Nat.le_refl _)
        have hB0A : Below w.heap.size w (w.alloc (.cells #[] 3)).drew := (below1 w (.cells #[] 3)).drew
        obtain ⟨a3A, c3A, w3A, hr3A, ho3A, hg3A⟩ := app_run0n (k := 0) hEA hB0A.size (some ⟨b, off, none⟩) c (zs.take 0) HT1.out (((HA.out.take_ 0).below hB0A).mono hB0A.size) (by omega)
        have hb3A : Below w.heap.size w w3A := hB0A.grown hg3A hB0A.size (fun g e => (World.ownsRow.lt hEA g e).1)
        have hX2A : Ints (w3A.alloc (.cells #[.int .i64 x] 3)) (w3A.alloc (.cells #[.int .i64 x] 3)).heap.size (some ⟨w3A.heap.size, 0, none⟩) [x] := one_ints0 w3A x
        have hO2A := ho3A.alloc (.cells #[.int .i64 x] 3)
        have hBW2A : Below w.heap.size w (w3A.alloc (.cells #[.int .i64 x] 3)) := hb3A.alloc hb3A.size _
        obtain ⟨a4A, c4A, w4A, hr4A, ho4A, hg4A⟩ := app_run_t (t := 1) (k := 1) hO2A hBW2A.size (some ⟨w3A.heap.size, 0, none⟩) 1 [x] rfl hX2A (by omega) (by omega) (by omega)
        have hb4A : Below w.heap.size w w4A := hBW2A.grown hg4A hBW2A.size (fun g e => (World.ownsRow.lt hO2A g e).1)
        obtain ⟨a5A, c5A, w5A, hr5A, ho5A, hg5A⟩ := app_run_t (t := n + 1) (k := n) ho4A hb4A.size (some ⟨b, off, none⟩) c (zs.drop 0) HT2.out ((hTl.below hb4A).mono hb4A.size) (by omega) (by omega) (by omega)
        have hb5A : Below w.heap.size w w5A := hb4A.grown hg5A hb4A.size (fun g e => (World.ownsRow.lt ho4A g e).1)
        have HR3A := Lib.hid hr3A
        have HR4A := Lib.hid hr4A
        have HR5A := Lib.hid hr5A
        have HO5A : Hid (OwnN w5A w.heap.size a5A (n + 1) c5A (zs.take 0 ++ [x] ++ zs.drop 0)) := Lib.hid (by have h := ho5A; unfold OwnN; rw [List.map_append, List.map_append]; simpa using h)
        have HB5A := Lib.hid hb5A
        clear hEA hB0A hr3A ho3A hg3A hb3A hX2A hO2A hBW2A hr4A ho4A hg4A hb4A hr5A ho5A hg5A hb5A
        have hEB : OwnI ((w.alloc (.cells #[.int .i64 x] 3)).alloc (.cells #[] 3)).drew w.heap.size (.slice (some ⟨w.heap.size + 1, 0, none⟩) 0 0) [] := own_empty (w := ((w.alloc (.cells #[.int .i64 x] 3)).alloc (.cells #[] 3)).drew) (alloc2_1 w _ _) (by omega)
        have hB0B : Below w.heap.size w ((w.alloc (.cells #[.int .i64 x] 3)).alloc (.cells #[] 3)).drew := (below2 w (.cells #[.int .i64 x] 3) (.cells #[] 3)).drew
        obtain ⟨a3B, c3B, w3B, hr3B, ho3B, hg3B⟩ := app_run0n (k := 0) hEB hB0B.size (some ⟨b, off, none⟩) c (zs.take 0) HT1.out (((HA.out.take_ 0).below hB0B).mono hB0B.size) (by omega)
        have hb3B : Below w.heap.size w w3B := hB0B.grown hg3B hB0B.size (fun g e => (World.ownsRow.lt hEB g e).1)
        have hXbB : w3B.heap[w.heap.size]? = some (.cells #[.int .i64 x] 3 (0, 0)) := (hg3B.block w.heap.size (lt_of_some (W := ((w.alloc (.cells #[.int .i64 x] 3)).alloc (.cells #[] 3)).drew) (alloc2_0 w _ _)) (by simp [Value.ownBlock])).trans (alloc2_0 w _ _)
        have hX2B : Ints w3B w3B.heap.size (some ⟨w.heap.size, 0, none⟩) [x] := one_blk hXbB
        have hO2B := ho3B
        have hBW2B : Below w.heap.size w w3B := hb3B
        obtain ⟨a4B, c4B, w4B, hr4B, ho4B, hg4B⟩ := app_run_t (t := 1) (k := 1) hO2B hBW2B.size (some ⟨w.heap.size, 0, none⟩) 1 [x] rfl hX2B (by omega) (by omega) (by omega)
        have hb4B : Below w.heap.size w w4B := hBW2B.grown hg4B hBW2B.size (fun g e => (World.ownsRow.lt hO2B g e).1)
        obtain ⟨a5B, c5B, w5B, hr5B, ho5B, hg5B⟩ := app_run_t (t := n + 1) (k := n) ho4B hb4B.size (some ⟨b, off, none⟩) c (zs.drop 0) HT2.out ((hTl.below hb4B).mono hb4B.size) (by omega) (by omega) (by omega)
        have hb5B : Below w.heap.size w w5B := hb4B.grown hg5B hb4B.size (fun g e => (World.ownsRow.lt ho4B g e).1)
        have HR3B := Lib.hid hr3B
        have HR4B := Lib.hid hr4B
        have HR5B := Lib.hid hr5B
        have HO5B : Hid (OwnN w5B w.heap.size a5B (n + 1) c5B (zs.take 0 ++ [x] ++ zs.drop 0)) := Lib.hid (by have h := ho5B; unfold OwnN; rw [List.map_append, List.map_append]; simpa using h)
        have HB5B := Lib.hid hb5B
        clear hEB hB0B hr3B ho3B hg3B hb3B hX2B hO2B hBW2B hr4B ho4B hg4B hb4B hr5B ho5B hg5B hb5B hXbB
        have hEC : OwnI ((w.alloc (.cells #[] 3)).alloc (.cells #[.int .i64 x] 3)).drew w.heap.size (.slice (some ⟨w.heap.size, 0, none⟩) 0 0) [] := own_empty (w := ((w.alloc (.cells #[] 3)).alloc (.cells #[.int .i64 x] 3)).drew) (alloc2_0 w _ _) (Nat.le_refl _)
        have hB0C : Below w.heap.size w ((w.alloc (.cells #[] 3)).alloc (.cells #[.int .i64 x] 3)).drew := (below2 w (.cells #[] 3) (.cells #[.int .i64 x] 3)).drew
        obtain ⟨a3C, c3C, w3C, hr3C, ho3C, hg3C⟩ := app_run0n (k := 0) hEC hB0C.size (some ⟨b, off, none⟩) c (zs.take 0) HT1.out (((HA.out.take_ 0).below hB0C).mono hB0C.size) (by omega)
        have hb3C : Below w.heap.size w w3C := hB0C.grown hg3C hB0C.size (fun g e => (World.ownsRow.lt hEC g e).1)
        have hXbC : w3C.heap[(w.heap.size + 1)]? = some (.cells #[.int .i64 x] 3 (0, 0)) := (hg3C.block (w.heap.size + 1) (lt_of_some (W := ((w.alloc (.cells #[] 3)).alloc (.cells #[.int .i64 x] 3)).drew) (alloc2_1 w _ _)) (by simp [Value.ownBlock])).trans (alloc2_1 w _ _)
        have hX2C : Ints w3C w3C.heap.size (some ⟨(w.heap.size + 1), 0, none⟩) [x] := one_blk hXbC
        have hO2C := ho3C
        have hBW2C : Below w.heap.size w w3C := hb3C
        obtain ⟨a4C, c4C, w4C, hr4C, ho4C, hg4C⟩ := app_run_t (t := 1) (k := 1) hO2C hBW2C.size (some ⟨(w.heap.size + 1), 0, none⟩) 1 [x] rfl hX2C (by omega) (by omega) (by omega)
        have hb4C : Below w.heap.size w w4C := hBW2C.grown hg4C hBW2C.size (fun g e => (World.ownsRow.lt hO2C g e).1)
        obtain ⟨a5C, c5C, w5C, hr5C, ho5C, hg5C⟩ := app_run_t (t := n + 1) (k := n) ho4C hb4C.size (some ⟨b, off, none⟩) c (zs.drop 0) HT2.out ((hTl.below hb4C).mono hb4C.size) (by omega) (by omega) (by omega)
        have hb5C : Below w.heap.size w w5C := hb4C.grown hg5C hb4C.size (fun g e => (World.ownsRow.lt ho4C g e).1)
        have HR3C := Lib.hid hr3C
        have HR4C := Lib.hid hr4C
        have HR5C := Lib.hid hr5C
        have HO5C : Hid (OwnN w5C w.heap.size a5C (n + 1) c5C (zs.take 0 ++ [x] ++ zs.drop 0)) := Lib.hid (by have h := ho5C; unfold OwnN; rw [List.map_append, List.map_append]; simpa using h)
        have HB5C := Lib.hid hb5C
        clear hEC hB0C hr3C ho3C hg3C hb3C hX2C hO2C hBW2C hr4C ho4C hg4C hb4C hr5C ho5C hg5C hb5C hXbC
        clear hTl
        go_wp2_with fail
        go_region_held3 (fun _ => True)
          (trivial)
          (first
            | ((with_reducible refine step_run3 (w := (w.alloc (.cells #[] 3)).drew) (.tmp 33) (.tmp 36) 23 23 (.slice (some ⟨w.heap.size, 0, none⟩) 0 0) (.slice (some ⟨b, off, none⟩) 0 c) ?_ ?_ ?_ ?_ ?_); rfl; rfl; rfl; rfl; refine ⟨_, _, HR3A.out, ?_⟩)
            | ((with_reducible refine step_run3 (w := ((w.alloc (.cells #[.int .i64 x] 3)).alloc (.cells #[] 3)).drew) (.tmp 33) (.tmp 36) 23 23 (.slice (some ⟨w.heap.size + 1, 0, none⟩) 0 0) (.slice (some ⟨b, off, none⟩) 0 c) ?_ ?_ ?_ ?_ ?_); rfl; rfl; rfl; rfl; refine ⟨_, _, HR3B.out, ?_⟩)
            | ((with_reducible refine step_run3 (w := ((w.alloc (.cells #[] 3)).alloc (.cells #[.int .i64 x] 3)).drew) (.tmp 33) (.tmp 36) 23 23 (.slice (some ⟨w.heap.size, 0, none⟩) 0 0) (.slice (some ⟨b, off, none⟩) 0 c) ?_ ?_ ?_ ?_ ?_); rfl; rfl; rfl; rfl; refine ⟨_, _, HR3C.out, ?_⟩)
            | ((with_reducible refine step_run3 (w := (w3A.alloc (.cells #[.int .i64 x] 3))) (.tmp 37) (.tmp 39) 23 23 (.slice a3A 0 c3A) (.slice (some ⟨w3A.heap.size, 0, none⟩) 1 1) ?_ ?_ ?_ ?_ ?_); rfl; rfl; rfl; rfl; refine ⟨_, _, HR4A.out, ?_⟩)
            | ((with_reducible refine step_run3 (w := w3B) (.tmp 37) (.tmp 39) 23 23 (.slice a3B 0 c3B) (.slice (some ⟨w.heap.size, 0, none⟩) 1 1) ?_ ?_ ?_ ?_ ?_); rfl; rfl; rfl; rfl; refine ⟨_, _, HR4B.out, ?_⟩)
            | ((with_reducible refine step_run3 (w := w3C) (.tmp 37) (.tmp 39) 23 23 (.slice a3C 0 c3C) (.slice (some ⟨(w.heap.size + 1), 0, none⟩) 1 1) ?_ ?_ ?_ ?_ ?_); rfl; rfl; rfl; rfl; refine ⟨_, _, HR4C.out, ?_⟩)
            | ((with_reducible refine step_run3 (w := w4A) (.tmp 40) (.tmp 43) 23 23 (.slice a4A (1) c4A) (.slice (some ⟨b, off, none⟩) n c) ?_ ?_ ?_ ?_ ?_); rfl; rfl; rfl; rfl; refine ⟨_, _, HR5A.out, ?_⟩)
            | ((with_reducible refine step_run3 (w := w4B) (.tmp 40) (.tmp 43) 23 23 (.slice a4B (1) c4B) (.slice (some ⟨b, off, none⟩) n c) ?_ ?_ ?_ ?_ ?_); rfl; rfl; rfl; rfl; refine ⟨_, _, HR5B.out, ?_⟩)
            | ((with_reducible refine step_run3 (w := w4C) (.tmp 40) (.tmp 43) 23 23 (.slice a4C (1) c4C) (.slice (some ⟨b, off, none⟩) n c) ?_ ?_ ?_ ?_ ?_); rfl; rfl; rfl; rfl; refine ⟨_, _, HR5C.out, ?_⟩))
        all_goals first
          | (go_wp2; go_ret; exact ⟨0, by omega, HE.out, .inr ⟨fun k' e => absurd e (Nat.succ_ne_zero _).symm, a5A, c5A, rfl, HO5A.out, HB5A.out⟩⟩)
          | (go_wp2; go_ret; exact ⟨0, by omega, HE.out, .inr ⟨fun k' e => absurd e (Nat.succ_ne_zero _).symm, a5B, c5B, rfl, HO5B.out, HB5B.out⟩⟩)
          | (go_wp2; go_ret; exact ⟨0, by omega, HE.out, .inr ⟨fun k' e => absurd e (Nat.succ_ne_zero _).symm, a5C, c5C, rfl, HO5C.out, HB5C.out⟩⟩)
    · obtain ⟨k, hk⟩ : ∃ k, q = k + 1 := ⟨q - 1, by omega⟩
      have HK := Lib.hid hk
      have h0' : (0 : Int) < (q : Int) := by omega
      have hw1 : IntKind.i64.wrap ((q : Int) - 1) = (k : Int) := by rw [hk]; exact (IntWalk.i64_in _ (by omega)).trans (by omega)
      have hk1 : (k : Int) < (n : Int) := by omega
      have c1 := HC.out k (by omega)
      clear hk h0
      by_cases hlt : x < zs[k]?.getD 0
      · go_wp2
        go_round
        case rel => exact ⟨k, by have := HK.out; omega, by go_num, fun j h1 h2 => by
          by_cases hj : j = k
          · subst hj; exact hlt
          · exact HE.out j (by have := HK.out; omega) h2⟩
        case measure => have := HK.out; simp [intOf]; omega
      · by_cases hqx : zs[k]?.getD 0 = x
        · have hbe : (zs[k]?.getD 0 == x) = true := by rw [beq_iff_eq]; exact hqx
          go_wp2
          go_ret
          exact ⟨q, hq, HE.out, .inl ⟨k, HK.out, hqx, rfl, rfl⟩⟩
        · have hbe : (zs[k]?.getD 0 == x) = false := by rw [beq_eq_false_iff_ne]; exact hqx
          have HWY : Hid (∀ k', q = k' + 1 → zs[k']?.getD 0 < x) := Lib.hid (by
            intro k' e
            obtain rfl : k' = k := by have := HK.out; omega
            omega)
          clear hqx
          by_cases hcc : c = q
          · obtain rfl : n = q := by omega
            subst hcc
            have HT1 : Hid ((zs.take c).length = c) := Lib.hid (by rw [List.length_take, HL.out, Nat.min_self])
            have hD0 : zs.drop c = [] := List.drop_eq_nil_of_le (by rw [HL.out]; exact Nat.le_refl _)
            have HT2 : Hid ((zs.drop c).length = 0) := Lib.hid (by rw [hD0]; rfl)
            have hTl : Ints w w.heap.size (some ⟨b, off, none⟩) (zs.drop c) := by rw [hD0]; exact .inl rfl
            have hEA : OwnI (w.alloc (.cells #[] 3)).drew w.heap.size (.slice (some ⟨w.heap.size, 0, none⟩) 0 0) [] := own_empty (w := (w.alloc (.cells #[] 3)).drew) (alloc_new w _) (Nat.le_refl _)
            have hB0A : Below w.heap.size w (w.alloc (.cells #[] 3)).drew := (below1 w (.cells #[] 3)).drew
            obtain ⟨a3A, c3A, w3A, hr3A, ho3A, hg3A⟩ := app_run0n (k := c) hEA hB0A.size (some ⟨b, off, none⟩) c (zs.take c) HT1.out (((HA.out.take_ c).below hB0A).mono hB0A.size) (by omega)
            have hb3A : Below w.heap.size w w3A := hB0A.grown hg3A hB0A.size (fun g e => (World.ownsRow.lt hEA g e).1)
            have hX2A : Ints (w3A.alloc (.cells #[.int .i64 x] 3)) (w3A.alloc (.cells #[.int .i64 x] 3)).heap.size (some ⟨w3A.heap.size, 0, none⟩) [x] := one_ints0 w3A x
            have hO2A := ho3A.alloc (.cells #[.int .i64 x] 3)
            have hBW2A : Below w.heap.size w (w3A.alloc (.cells #[.int .i64 x] 3)) := hb3A.alloc hb3A.size _
            obtain ⟨a4A, c4A, w4A, hr4A, ho4A, hg4A⟩ := app_run_t (t := c + 1) (k := 1) hO2A hBW2A.size (some ⟨w3A.heap.size, 0, none⟩) 1 [x] rfl hX2A (by omega) (by omega) (by omega)
            have hb4A : Below w.heap.size w w4A := hBW2A.grown hg4A hBW2A.size (fun g e => (World.ownsRow.lt hO2A g e).1)
            obtain ⟨a5A, c5A, w5A, hr5A, ho5A, hg5A⟩ := app_run_t (t := c + 1) (k := 0) ho4A hb4A.size (some ⟨b, off, none⟩) 0 (zs.drop c) HT2.out ((hTl.below hb4A).mono hb4A.size) (by omega) (by omega) (by omega)
            have hb5A : Below w.heap.size w w5A := hb4A.grown hg5A hb4A.size (fun g e => (World.ownsRow.lt ho4A g e).1)
            have HR3A := Lib.hid hr3A
            have HR4A := Lib.hid hr4A
            have HR5A := Lib.hid hr5A
            have HO5A : Hid (OwnN w5A w.heap.size a5A (c + 1) c5A (zs.take c ++ [x] ++ zs.drop c)) := Lib.hid (by have h := ho5A; unfold OwnN; rw [List.map_append, List.map_append]; simpa using h)
            have HB5A := Lib.hid hb5A
            clear hEA hB0A hr3A ho3A hg3A hb3A hX2A hO2A hBW2A hr4A ho4A hg4A hb4A hr5A ho5A hg5A hb5A
            have hEB : OwnI ((w.alloc (.cells #[.int .i64 x] 3)).alloc (.cells #[] 3)).drew w.heap.size (.slice (some ⟨w.heap.size + 1, 0, none⟩) 0 0) [] := own_empty (w := ((w.alloc (.cells #[.int .i64 x] 3)).alloc (.cells #[] 3)).drew) (alloc2_1 w _ _) (by omega)
            have hB0B : Below w.heap.size w ((w.alloc (.cells #[.int .i64 x] 3)).alloc (.cells #[] 3)).drew := (below2 w (.cells #[.int .i64 x] 3) (.cells #[] 3)).drew
            obtain ⟨a3B, c3B, w3B, hr3B, ho3B, hg3B⟩ := app_run0n (k := c) hEB hB0B.size (some ⟨b, off, none⟩) c (zs.take c) HT1.out (((HA.out.take_ c).below hB0B).mono hB0B.size) (by omega)
            have hb3B : Below w.heap.size w w3B := hB0B.grown hg3B hB0B.size (fun g e => (World.ownsRow.lt hEB g e).1)
            have hXbB : w3B.heap[w.heap.size]? = some (.cells #[.int .i64 x] 3 (0, 0)) := (hg3B.block w.heap.size (lt_of_some (W := ((w.alloc (.cells #[.int .i64 x] 3)).alloc (.cells #[] 3)).drew) (alloc2_0 w _ _)) (by simp [Value.ownBlock])).trans (alloc2_0 w _ _)
            have hX2B : Ints w3B w3B.heap.size (some ⟨w.heap.size, 0, none⟩) [x] := one_blk hXbB
            have hO2B := ho3B
            have hBW2B : Below w.heap.size w w3B := hb3B
            obtain ⟨a4B, c4B, w4B, hr4B, ho4B, hg4B⟩ := app_run_t (t := c + 1) (k := 1) hO2B hBW2B.size (some ⟨w.heap.size, 0, none⟩) 1 [x] rfl hX2B (by omega) (by omega) (by omega)
            have hb4B : Below w.heap.size w w4B := hBW2B.grown hg4B hBW2B.size (fun g e => (World.ownsRow.lt hO2B g e).1)
            obtain ⟨a5B, c5B, w5B, hr5B, ho5B, hg5B⟩ := app_run_t (t := c + 1) (k := 0) ho4B hb4B.size (some ⟨b, off, none⟩) 0 (zs.drop c) HT2.out ((hTl.below hb4B).mono hb4B.size) (by omega) (by omega) (by omega)
            have hb5B : Below w.heap.size w w5B := hb4B.grown hg5B hb4B.size (fun g e => (World.ownsRow.lt ho4B g e).1)
            have HR3B := Lib.hid hr3B
            have HR4B := Lib.hid hr4B
            have HR5B := Lib.hid hr5B
            have HO5B : Hid (OwnN w5B w.heap.size a5B (c + 1) c5B (zs.take c ++ [x] ++ zs.drop c)) := Lib.hid (by have h := ho5B; unfold OwnN; rw [List.map_append, List.map_append]; simpa using h)
            have HB5B := Lib.hid hb5B
            clear hEB hB0B hr3B ho3B hg3B hb3B hX2B hO2B hBW2B hr4B ho4B hg4B hb4B hr5B ho5B hg5B hb5B hXbB
            have hEC : OwnI ((w.alloc (.cells #[] 3)).alloc (.cells #[.int .i64 x] 3)).drew w.heap.size (.slice (some ⟨w.heap.size, 0, none⟩) 0 0) [] := own_empty (w := ((w.alloc (.cells #[] 3)).alloc (.cells #[.int .i64 x] 3)).drew) (alloc2_0 w _ _) (Nat.le_refl _)
            have hB0C : Below w.heap.size w ((w.alloc (.cells #[] 3)).alloc (.cells #[.int .i64 x] 3)).drew := (below2 w (.cells #[] 3) (.cells #[.int .i64 x] 3)).drew
            obtain ⟨a3C, c3C, w3C, hr3C, ho3C, hg3C⟩ := app_run0n (k := c) hEC hB0C.size (some ⟨b, off, none⟩) c (zs.take c) HT1.out (((HA.out.take_ c).below hB0C).mono hB0C.size) (by omega)
            have hb3C : Below w.heap.size w w3C := hB0C.grown hg3C hB0C.size (fun g e => (World.ownsRow.lt hEC g e).1)
            have hXbC : w3C.heap[(w.heap.size + 1)]? = some (.cells #[.int .i64 x] 3 (0, 0)) := (hg3C.block (w.heap.size + 1) (lt_of_some (W := ((w.alloc (.cells #[] 3)).alloc (.cells #[.int .i64 x] 3)).drew) (alloc2_1 w _ _)) (by simp [Value.ownBlock])).trans (alloc2_1 w _ _)
            have hX2C : Ints w3C w3C.heap.size (some ⟨(w.heap.size + 1), 0, none⟩) [x] := one_blk hXbC
            have hO2C := ho3C
            have hBW2C : Below w.heap.size w w3C := hb3C
            obtain ⟨a4C, c4C, w4C, hr4C, ho4C, hg4C⟩ := app_run_t (t := c + 1) (k := 1) hO2C hBW2C.size (some ⟨(w.heap.size + 1), 0, none⟩) 1 [x] rfl hX2C (by omega) (by omega) (by omega)
            have hb4C : Below w.heap.size w w4C := hBW2C.grown hg4C hBW2C.size (fun g e => (World.ownsRow.lt hO2C g e).1)
            obtain ⟨a5C, c5C, w5C, hr5C, ho5C, hg5C⟩ := app_run_t (t := c + 1) (k := 0) ho4C hb4C.size (some ⟨b, off, none⟩) 0 (zs.drop c) HT2.out ((hTl.below hb4C).mono hb4C.size) (by omega) (by omega) (by omega)
            have hb5C : Below w.heap.size w w5C := hb4C.grown hg5C hb4C.size (fun g e => (World.ownsRow.lt ho4C g e).1)
            have HR3C := Lib.hid hr3C
            have HR4C := Lib.hid hr4C
            have HR5C := Lib.hid hr5C
            have HO5C : Hid (OwnN w5C w.heap.size a5C (c + 1) c5C (zs.take c ++ [x] ++ zs.drop c)) := Lib.hid (by have h := ho5C; unfold OwnN; rw [List.map_append, List.map_append]; simpa using h)
            have HB5C := Lib.hid hb5C
            clear hEC hB0C hr3C ho3C hg3C hb3C hX2C hO2C hBW2C hr4C ho4C hg4C hb4C hr5C ho5C hg5C hb5C hXbC
            clear hTl hD0
            go_wp2_with fail
            go_region_held3 (fun _ => True)
              (trivial)
              (first
                | ((with_reducible refine step_run3 (w := (w.alloc (.cells #[] 3)).drew) (.tmp 33) (.tmp 36) 23 23 (.slice (some ⟨w.heap.size, 0, none⟩) 0 0) (.slice (some ⟨b, off, none⟩) c c) ?_ ?_ ?_ ?_ ?_); rfl; rfl; rfl; rfl; refine ⟨_, _, HR3A.out, ?_⟩)
                | ((with_reducible refine step_run3 (w := ((w.alloc (.cells #[.int .i64 x] 3)).alloc (.cells #[] 3)).drew) (.tmp 33) (.tmp 36) 23 23 (.slice (some ⟨w.heap.size + 1, 0, none⟩) 0 0) (.slice (some ⟨b, off, none⟩) c c) ?_ ?_ ?_ ?_ ?_); rfl; rfl; rfl; rfl; refine ⟨_, _, HR3B.out, ?_⟩)
                | ((with_reducible refine step_run3 (w := ((w.alloc (.cells #[] 3)).alloc (.cells #[.int .i64 x] 3)).drew) (.tmp 33) (.tmp 36) 23 23 (.slice (some ⟨w.heap.size, 0, none⟩) 0 0) (.slice (some ⟨b, off, none⟩) c c) ?_ ?_ ?_ ?_ ?_); rfl; rfl; rfl; rfl; refine ⟨_, _, HR3C.out, ?_⟩)
                | ((with_reducible refine step_run3 (w := (w3A.alloc (.cells #[.int .i64 x] 3))) (.tmp 37) (.tmp 39) 23 23 (.slice a3A c c3A) (.slice (some ⟨w3A.heap.size, 0, none⟩) 1 1) ?_ ?_ ?_ ?_ ?_); rfl; rfl; rfl; rfl; refine ⟨_, _, HR4A.out, ?_⟩)
                | ((with_reducible refine step_run3 (w := w3B) (.tmp 37) (.tmp 39) 23 23 (.slice a3B c c3B) (.slice (some ⟨w.heap.size, 0, none⟩) 1 1) ?_ ?_ ?_ ?_ ?_); rfl; rfl; rfl; rfl; refine ⟨_, _, HR4B.out, ?_⟩)
                | ((with_reducible refine step_run3 (w := w3C) (.tmp 37) (.tmp 39) 23 23 (.slice a3C c c3C) (.slice (some ⟨(w.heap.size + 1), 0, none⟩) 1 1) ?_ ?_ ?_ ?_ ?_); rfl; rfl; rfl; rfl; refine ⟨_, _, HR4C.out, ?_⟩)
                | ((with_reducible refine step_run3 (w := w4A) (.tmp 40) (.tmp 43) 23 23 (.slice a4A (c + 1) c4A) (.slice (some ⟨b, off, none⟩) 0 0) ?_ ?_ ?_ ?_ ?_); rfl; rfl; rfl; rfl; refine ⟨_, _, HR5A.out, ?_⟩)
                | ((with_reducible refine step_run3 (w := w4B) (.tmp 40) (.tmp 43) 23 23 (.slice a4B (c + 1) c4B) (.slice (some ⟨b, off, none⟩) 0 0) ?_ ?_ ?_ ?_ ?_); rfl; rfl; rfl; rfl; refine ⟨_, _, HR5B.out, ?_⟩)
                | ((with_reducible refine step_run3 (w := w4C) (.tmp 40) (.tmp 43) 23 23 (.slice a4C (c + 1) c4C) (.slice (some ⟨b, off, none⟩) 0 0) ?_ ?_ ?_ ?_ ?_); rfl; rfl; rfl; rfl; refine ⟨_, _, HR5C.out, ?_⟩))
            all_goals first
              | (go_wp2; go_ret; exact ⟨c, by omega, HE.out, .inr ⟨HWY.out, a5A, c5A, rfl, HO5A.out, HB5A.out⟩⟩)
              | (go_wp2; go_ret; exact ⟨c, by omega, HE.out, .inr ⟨HWY.out, a5B, c5B, rfl, HO5B.out, HB5B.out⟩⟩)
              | (go_wp2; go_ret; exact ⟨c, by omega, HE.out, .inr ⟨HWY.out, a5C, c5C, rfl, HO5C.out, HB5C.out⟩⟩)
          · have hcn : (q : Int) < (c : Int) := by omega
            have HT1 : Hid ((zs.take q).length = q) := Lib.hid (by rw [List.length_take, HL.out]; omega)
            have HT2 : Hid ((zs.drop q).length = (n - q)) := Lib.hid (by rw [List.length_drop, HL.out])
            have hTl : Ints w w.heap.size (some ⟨b, off + q, none⟩) (zs.drop q) := drop_ints HA.out q
            have hEA : OwnI (w.alloc (.cells #[] 3)).drew w.heap.size (.slice (some ⟨w.heap.size, 0, none⟩) 0 0) [] := own_empty (w := (w.alloc (.cells #[] 3)).drew) (alloc_new w _) (Nat.le_refl _)
            have hB0A : Below w.heap.size w (w.alloc (.cells #[] 3)).drew := (below1 w (.cells #[] 3)).drew
            obtain ⟨a3A, c3A, w3A, hr3A, ho3A, hg3A⟩ := app_run0n (k := q) hEA hB0A.size (some ⟨b, off, none⟩) c (zs.take q) HT1.out (((HA.out.take_ q).below hB0A).mono hB0A.size) (by omega)
            have hb3A : Below w.heap.size w w3A := hB0A.grown hg3A hB0A.size (fun g e => (World.ownsRow.lt hEA g e).1)
            have hX2A : Ints (w3A.alloc (.cells #[.int .i64 x] 3)) (w3A.alloc (.cells #[.int .i64 x] 3)).heap.size (some ⟨w3A.heap.size, 0, none⟩) [x] := one_ints0 w3A x
            have hO2A := ho3A.alloc (.cells #[.int .i64 x] 3)
            have hBW2A : Below w.heap.size w (w3A.alloc (.cells #[.int .i64 x] 3)) := hb3A.alloc hb3A.size _
            obtain ⟨a4A, c4A, w4A, hr4A, ho4A, hg4A⟩ := app_run_t (t := q + 1) (k := 1) hO2A hBW2A.size (some ⟨w3A.heap.size, 0, none⟩) 1 [x] rfl hX2A (by omega) (by omega) (by omega)
            have hb4A : Below w.heap.size w w4A := hBW2A.grown hg4A hBW2A.size (fun g e => (World.ownsRow.lt hO2A g e).1)
            obtain ⟨a5A, c5A, w5A, hr5A, ho5A, hg5A⟩ := app_run_t (t := n + 1) (k := (n - q)) ho4A hb4A.size (some ⟨b, off + q, none⟩) (c - q) (zs.drop q) HT2.out ((hTl.below hb4A).mono hb4A.size) (by omega) (by omega) (by omega)
            have hb5A : Below w.heap.size w w5A := hb4A.grown hg5A hb4A.size (fun g e => (World.ownsRow.lt ho4A g e).1)
            have HR3A := Lib.hid hr3A
            have HR4A := Lib.hid hr4A
            have HR5A := Lib.hid hr5A
            have HO5A : Hid (OwnN w5A w.heap.size a5A (n + 1) c5A (zs.take q ++ [x] ++ zs.drop q)) := Lib.hid (by have h := ho5A; unfold OwnN; rw [List.map_append, List.map_append]; simpa using h)
            have HB5A := Lib.hid hb5A
            clear hEA hB0A hr3A ho3A hg3A hb3A hX2A hO2A hBW2A hr4A ho4A hg4A hb4A hr5A ho5A hg5A hb5A
            have hEB : OwnI ((w.alloc (.cells #[.int .i64 x] 3)).alloc (.cells #[] 3)).drew w.heap.size (.slice (some ⟨w.heap.size + 1, 0, none⟩) 0 0) [] := own_empty (w := ((w.alloc (.cells #[.int .i64 x] 3)).alloc (.cells #[] 3)).drew) (alloc2_1 w _ _) (by omega)
            have hB0B : Below w.heap.size w ((w.alloc (.cells #[.int .i64 x] 3)).alloc (.cells #[] 3)).drew := (below2 w (.cells #[.int .i64 x] 3) (.cells #[] 3)).drew
            obtain ⟨a3B, c3B, w3B, hr3B, ho3B, hg3B⟩ := app_run0n (k := q) hEB hB0B.size (some ⟨b, off, none⟩) c (zs.take q) HT1.out (((HA.out.take_ q).below hB0B).mono hB0B.size) (by omega)
            have hb3B : Below w.heap.size w w3B := hB0B.grown hg3B hB0B.size (fun g e => (World.ownsRow.lt hEB g e).1)
            have hXbB : w3B.heap[w.heap.size]? = some (.cells #[.int .i64 x] 3 (0, 0)) := (hg3B.block w.heap.size (lt_of_some (W := ((w.alloc (.cells #[.int .i64 x] 3)).alloc (.cells #[] 3)).drew) (alloc2_0 w _ _)) (by simp [Value.ownBlock])).trans (alloc2_0 w _ _)
            have hX2B : Ints w3B w3B.heap.size (some ⟨w.heap.size, 0, none⟩) [x] := one_blk hXbB
            have hO2B := ho3B
            have hBW2B : Below w.heap.size w w3B := hb3B
            obtain ⟨a4B, c4B, w4B, hr4B, ho4B, hg4B⟩ := app_run_t (t := q + 1) (k := 1) hO2B hBW2B.size (some ⟨w.heap.size, 0, none⟩) 1 [x] rfl hX2B (by omega) (by omega) (by omega)
            have hb4B : Below w.heap.size w w4B := hBW2B.grown hg4B hBW2B.size (fun g e => (World.ownsRow.lt hO2B g e).1)
            obtain ⟨a5B, c5B, w5B, hr5B, ho5B, hg5B⟩ := app_run_t (t := n + 1) (k := (n - q)) ho4B hb4B.size (some ⟨b, off + q, none⟩) (c - q) (zs.drop q) HT2.out ((hTl.below hb4B).mono hb4B.size) (by omega) (by omega) (by omega)
            have hb5B : Below w.heap.size w w5B := hb4B.grown hg5B hb4B.size (fun g e => (World.ownsRow.lt ho4B g e).1)
            have HR3B := Lib.hid hr3B
            have HR4B := Lib.hid hr4B
            have HR5B := Lib.hid hr5B
            have HO5B : Hid (OwnN w5B w.heap.size a5B (n + 1) c5B (zs.take q ++ [x] ++ zs.drop q)) := Lib.hid (by have h := ho5B; unfold OwnN; rw [List.map_append, List.map_append]; simpa using h)
            have HB5B := Lib.hid hb5B
            clear hEB hB0B hr3B ho3B hg3B hb3B hX2B hO2B hBW2B hr4B ho4B hg4B hb4B hr5B ho5B hg5B hb5B hXbB
            have hEC : OwnI ((w.alloc (.cells #[] 3)).alloc (.cells #[.int .i64 x] 3)).drew w.heap.size (.slice (some ⟨w.heap.size, 0, none⟩) 0 0) [] := own_empty (w := ((w.alloc (.cells #[] 3)).alloc (.cells #[.int .i64 x] 3)).drew) (alloc2_0 w _ _) (Nat.le_refl _)
            have hB0C : Below w.heap.size w ((w.alloc (.cells #[] 3)).alloc (.cells #[.int .i64 x] 3)).drew := (below2 w (.cells #[] 3) (.cells #[.int .i64 x] 3)).drew
            obtain ⟨a3C, c3C, w3C, hr3C, ho3C, hg3C⟩ := app_run0n (k := q) hEC hB0C.size (some ⟨b, off, none⟩) c (zs.take q) HT1.out (((HA.out.take_ q).below hB0C).mono hB0C.size) (by omega)
            have hb3C : Below w.heap.size w w3C := hB0C.grown hg3C hB0C.size (fun g e => (World.ownsRow.lt hEC g e).1)
            have hXbC : w3C.heap[(w.heap.size + 1)]? = some (.cells #[.int .i64 x] 3 (0, 0)) := (hg3C.block (w.heap.size + 1) (lt_of_some (W := ((w.alloc (.cells #[] 3)).alloc (.cells #[.int .i64 x] 3)).drew) (alloc2_1 w _ _)) (by simp [Value.ownBlock])).trans (alloc2_1 w _ _)
            have hX2C : Ints w3C w3C.heap.size (some ⟨(w.heap.size + 1), 0, none⟩) [x] := one_blk hXbC
            have hO2C := ho3C
            have hBW2C : Below w.heap.size w w3C := hb3C
            obtain ⟨a4C, c4C, w4C, hr4C, ho4C, hg4C⟩ := app_run_t (t := q + 1) (k := 1) hO2C hBW2C.size (some ⟨(w.heap.size + 1), 0, none⟩) 1 [x] rfl hX2C (by omega) (by omega) (by omega)
            have hb4C : Below w.heap.size w w4C := hBW2C.grown hg4C hBW2C.size (fun g e => (World.ownsRow.lt hO2C g e).1)
            obtain ⟨a5C, c5C, w5C, hr5C, ho5C, hg5C⟩ := app_run_t (t := n + 1) (k := (n - q)) ho4C hb4C.size (some ⟨b, off + q, none⟩) (c - q) (zs.drop q) HT2.out ((hTl.below hb4C).mono hb4C.size) (by omega) (by omega) (by omega)
            have hb5C : Below w.heap.size w w5C := hb4C.grown hg5C hb4C.size (fun g e => (World.ownsRow.lt ho4C g e).1)
            have HR3C := Lib.hid hr3C
            have HR4C := Lib.hid hr4C
            have HR5C := Lib.hid hr5C
            have HO5C : Hid (OwnN w5C w.heap.size a5C (n + 1) c5C (zs.take q ++ [x] ++ zs.drop q)) := Lib.hid (by have h := ho5C; unfold OwnN; rw [List.map_append, List.map_append]; simpa using h)
            have HB5C := Lib.hid hb5C
            clear hEC hB0C hr3C ho3C hg3C hb3C hX2C hO2C hBW2C hr4C ho4C hg4C hb4C hr5C ho5C hg5C hb5C hXbC
            clear hTl
            go_wp2_with fail
            go_region_held3 (fun _ => True)
              (trivial)
              (first
                | ((with_reducible refine step_run3 (w := (w.alloc (.cells #[] 3)).drew) (.tmp 33) (.tmp 36) 23 23 (.slice (some ⟨w.heap.size, 0, none⟩) 0 0) (.slice (some ⟨b, off, none⟩) q c) ?_ ?_ ?_ ?_ ?_); rfl; rfl; rfl; rfl; refine ⟨_, _, HR3A.out, ?_⟩)
                | ((with_reducible refine step_run3 (w := ((w.alloc (.cells #[.int .i64 x] 3)).alloc (.cells #[] 3)).drew) (.tmp 33) (.tmp 36) 23 23 (.slice (some ⟨w.heap.size + 1, 0, none⟩) 0 0) (.slice (some ⟨b, off, none⟩) q c) ?_ ?_ ?_ ?_ ?_); rfl; rfl; rfl; rfl; refine ⟨_, _, HR3B.out, ?_⟩)
                | ((with_reducible refine step_run3 (w := ((w.alloc (.cells #[] 3)).alloc (.cells #[.int .i64 x] 3)).drew) (.tmp 33) (.tmp 36) 23 23 (.slice (some ⟨w.heap.size, 0, none⟩) 0 0) (.slice (some ⟨b, off, none⟩) q c) ?_ ?_ ?_ ?_ ?_); rfl; rfl; rfl; rfl; refine ⟨_, _, HR3C.out, ?_⟩)
                | ((with_reducible refine step_run3 (w := (w3A.alloc (.cells #[.int .i64 x] 3))) (.tmp 37) (.tmp 39) 23 23 (.slice a3A q c3A) (.slice (some ⟨w3A.heap.size, 0, none⟩) 1 1) ?_ ?_ ?_ ?_ ?_); rfl; rfl; rfl; rfl; refine ⟨_, _, HR4A.out, ?_⟩)
                | ((with_reducible refine step_run3 (w := w3B) (.tmp 37) (.tmp 39) 23 23 (.slice a3B q c3B) (.slice (some ⟨w.heap.size, 0, none⟩) 1 1) ?_ ?_ ?_ ?_ ?_); rfl; rfl; rfl; rfl; refine ⟨_, _, HR4B.out, ?_⟩)
                | ((with_reducible refine step_run3 (w := w3C) (.tmp 37) (.tmp 39) 23 23 (.slice a3C q c3C) (.slice (some ⟨(w.heap.size + 1), 0, none⟩) 1 1) ?_ ?_ ?_ ?_ ?_); rfl; rfl; rfl; rfl; refine ⟨_, _, HR4C.out, ?_⟩)
                | ((with_reducible refine step_run3 (w := w4A) (.tmp 40) (.tmp 43) 23 23 (.slice a4A (q + 1) c4A) (.slice (some ⟨b, off + q, none⟩) (n - q) (c - q)) ?_ ?_ ?_ ?_ ?_); rfl; rfl; rfl; rfl; refine ⟨_, _, HR5A.out, ?_⟩)
                | ((with_reducible refine step_run3 (w := w4B) (.tmp 40) (.tmp 43) 23 23 (.slice a4B (q + 1) c4B) (.slice (some ⟨b, off + q, none⟩) (n - q) (c - q)) ?_ ?_ ?_ ?_ ?_); rfl; rfl; rfl; rfl; refine ⟨_, _, HR5B.out, ?_⟩)
                | ((with_reducible refine step_run3 (w := w4C) (.tmp 40) (.tmp 43) 23 23 (.slice a4C (q + 1) c4C) (.slice (some ⟨b, off + q, none⟩) (n - q) (c - q)) ?_ ?_ ?_ ?_ ?_); rfl; rfl; rfl; rfl; refine ⟨_, _, HR5C.out, ?_⟩))
            all_goals first
              | (go_wp2; go_ret; exact ⟨q, by omega, HE.out, .inr ⟨HWY.out, a5A, c5A, rfl, HO5A.out, HB5A.out⟩⟩)
              | (go_wp2; go_ret; exact ⟨q, by omega, HE.out, .inr ⟨HWY.out, a5B, c5B, rfl, HO5B.out, HB5B.out⟩⟩)
              | (go_wp2; go_ret; exact ⟨q, by omega, HE.out, .inr ⟨HWY.out, a5C, c5C, rfl, HO5C.out, HB5C.out⟩⟩)

end Go.Proofs.Ytckbhhaigpajpaa
