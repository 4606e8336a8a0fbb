/- It is proved what three appends in one statement make, in each order that Go allows; conditions: those of each statement. -/
import Derived.Test.YtgpgocijacgkhaaDoorRows
import Derived.WalkKit
import Derived.WalkSpells
import Derived.ProofKit
import Derived.OpenShut
import Derived.ShutString
import Derived.ChangeOld
import Derived.Below
import Derived.Deep.RegionHeld3
import Derived.Deep.QuietTactic
import Derived.BigQuiet
import Derived.Lib.Hide
import Derived.Lib.SmallJoins
import Derived.Outline
import Derived.Laws.MakeOwn
import Derived.Laws.OwnMore
import Derived.IntWalk
import Derived.Lib.AppendZeros
import Derived.Maps.AppendAt
import Derived.Deep.AppendLies
import Derived.OwnWalk
import Derived.RangeFuncNested
import Derived.RangeFuncBound
import Derived.RangeFuncCalls
import Derived.RangeFuncLeaves
import Derived.RangeFuncBox
import Derived.Shelf.Abstract
import Derived.Shelf.RegionOpen
import Derived.OwnWalkIn
import Derived.TacticsInMore
import Derived.LoopNIn
import Derived.LoopIn
import Derived.Test.YtgpgocijacgkhaaDoorRaaa
import Derived.Test.YtgpgocijacgkhaaDoorRaab
import Derived.Test.YtgpgocijacgkhaaDoorRaah
import Derived.Test.YtgpgocijacgkhaaDoorGf
import Derived.Test.YtgpgocijacgkhaaDoorHa
import Derived.Test.YtgpgocijacgkhaaDoorOw
import Derived.Test.YtgpgocijacgkhaaDoorRaac
namespace Go.Proofs.YtgpgocijacgkhaaDoor
open Go.RowKit

theorem insA (W : World) (a1 a2 : Option Addr) (L1 L2 : List Int) (x : Int) (k1 c1 k2 c2 s t : Nat) (h1 : Ints W W.heap.size a1 L1) (h2 : Ints W W.heap.size a2 L2) (l1 : L1.length = k1) (l2 : L2.length = k2) (hs : k1 + 1 = s) (ht : s + k2 = t) (hk : t ≤ 1048576) :
    ∃ a3 c3 w3 a4 c4 w4 a5 c5 w5, (Builtin.append_ #[23, 23] 23 #[.slice (some ⟨W.heap.size, 0, none⟩) 0 0, .slice a1 k1 c1]).run Tryd.prog (W.alloc (.cells #[] 3)).drew = .ok (.slice a3 k1 c3) w3 ∧
      (Builtin.append_ #[23, 23] 23 #[.slice a3 k1 c3, .slice (some ⟨w3.heap.size, 0, none⟩) 1 1]).run Tryd.prog (w3.alloc (.cells #[.int .i64 x] 3)) = .ok (.slice a4 s c4) w4 ∧
      (Builtin.append_ #[23, 23] 23 #[.slice a4 s c4, .slice a2 k2 c2]).run Tryd.prog w4 = .ok (.slice a5 t c5) w5 ∧
      OwnN w5 W.heap.size a5 t c5 (L1 ++ [x] ++ L2) ∧ Below W.heap.size W w5 := by
  have hEA : OwnI (W.alloc (.cells #[] 3)).drew W.heap.size (.slice (some ⟨W.heap.size, 0, none⟩) 0 0) [] := own_empty (w := (W.alloc (.cells #[] 3)).drew) (alloc_new W _) (Nat.le_refl _)
  have hB0A : Below W.heap.size W (W.alloc (.cells #[] 3)).drew := (below1 W (.cells #[] 3)).drew
  obtain ⟨a3A, c3A, w3A, hr3A, ho3A, hg3A⟩ := app_run0n (k := k1) hEA hB0A.size a1 c1 L1 l1 ((h1.below hB0A).mono hB0A.size) (by omega)
  have hb3A : Below W.heap.size W w3A := hB0A.grown hg3A hB0A.size (fun g e => (World.ownsRow.lt hEA g e).1)
  have hX2A : Ints (w3A.alloc (.cells #[.int .i64 x] 3)) (w3A.alloc (.cells #[.int .i64 x] 3)).heap.size (some ⟨w3A.heap.size, 0, none⟩) [x] := one_ints0 w3A x
  have hO2A := ho3A.alloc (.cells #[.int .i64 x] 3)
  have hBW2A : Below W.heap.size W (w3A.alloc (.cells #[.int .i64 x] 3)) := hb3A.alloc hb3A.size _
  obtain ⟨a4A, c4A, w4A, hr4A, ho4A, hg4A⟩ := app_run_t (t := s) (k := 1) hO2A hBW2A.size (some ⟨w3A.heap.size, 0, none⟩) 1 [x] rfl hX2A (by omega) (by omega) (by omega)
  have hb4A : Below W.heap.size W w4A := hBW2A.grown hg4A hBW2A.size (fun g e => (World.ownsRow.lt hO2A g e).1)
  obtain ⟨a5A, c5A, w5A, hr5A, ho5A, hg5A⟩ := app_run_t (t := t) (k := k2) ho4A hb4A.size a2 c2 L2 l2 ((h2.below hb4A).mono hb4A.size) (by omega) (by omega) (by omega)
  have hb5A : Below W.heap.size W w5A := hb4A.grown hg5A hb4A.size (fun g e => (World.ownsRow.lt ho4A g e).1)
  exact ⟨_, _, _, _, _, _, _, _, _, hr3A, hr4A, hr5A, by unfold OwnN; rw [List.map_append, List.map_append]; simpa using ho5A, hb5A⟩

theorem insB (W : World) (a1 a2 : Option Addr) (L1 L2 : List Int) (x : Int) (k1 c1 k2 c2 s t : Nat) (h1 : Ints W W.heap.size a1 L1) (h2 : Ints W W.heap.size a2 L2) (l1 : L1.length = k1) (l2 : L2.length = k2) (hs : k1 + 1 = s) (ht : s + k2 = t) (hk : t ≤ 1048576) :
    ∃ a3 c3 w3 a4 c4 w4 a5 c5 w5, (Builtin.append_ #[23, 23] 23 #[.slice (some ⟨W.heap.size + 1, 0, none⟩) 0 0, .slice a1 k1 c1]).run Tryd.prog ((W.alloc (.cells #[.int .i64 x] 3)).alloc (.cells #[] 3)).drew = .ok (.slice a3 k1 c3) w3 ∧
      (Builtin.append_ #[23, 23] 23 #[.slice a3 k1 c3, .slice (some ⟨W.heap.size, 0, none⟩) 1 1]).run Tryd.prog w3 = .ok (.slice a4 s c4) w4 ∧
      (Builtin.append_ #[23, 23] 23 #[.slice a4 s c4, .slice a2 k2 c2]).run Tryd.prog w4 = .ok (.slice a5 t c5) w5 ∧
      OwnN w5 W.heap.size a5 t c5 (L1 ++ [x] ++ L2) ∧ Below W.heap.size W w5 := by
  have hEB : OwnI ((W.alloc (.cells #[.int .i64 x] 3)).alloc (.cells #[] 3)).drew W.heap.size (.slice (some ⟨W.heap.size + 1, 0, none⟩) 0 0) [] := own_empty (w := ((W.alloc (.cells #[.int .i64 x] 3)).alloc (.cells #[] 3)).drew) (alloc2_1 W _ _) (by omega)
  have hB0B : Below W.heap.size W ((W.alloc (.cells #[.int .i64 x] 3)).alloc (.cells #[] 3)).drew := (below2 W (.cells #[.int .i64 x] 3) (.cells #[] 3)).drew
  obtain ⟨a3B, c3B, w3B, hr3B, ho3B, hg3B⟩ := app_run0n (k := k1) hEB hB0B.size a1 c1 L1 l1 ((h1.below hB0B).mono hB0B.size) (by omega)
  have hb3B : Below W.heap.size W w3B := hB0B.grown hg3B hB0B.size (fun g e => (World.ownsRow.lt hEB g e).1)
  have hXbB : w3B.heap[W.heap.size]? = some (.cells #[.int .i64 x] 3 (0, 0)) := (hg3B.block W.heap.size (lt_of_some (W := ((W.alloc (.cells #[.int .i64 x] 3)).alloc (.cells #[] 3)).drew) (alloc2_0 W _ _)) (by simp [Value.ownBlock])).trans (alloc2_0 W _ _)
  have hX2B : Ints w3B w3B.heap.size (some ⟨W.heap.size, 0, none⟩) [x] := one_blk hXbB
  obtain ⟨a4B, c4B, w4B, hr4B, ho4B, hg4B⟩ := app_run_t (t := s) (k := 1) ho3B hb3B.size (some ⟨W.heap.size, 0, none⟩) 1 [x] rfl hX2B (by omega) (by omega) (by omega)
  have hb4B : Below W.heap.size W w4B := hb3B.grown hg4B hb3B.size (fun g e => (World.ownsRow.lt ho3B g e).1)
  obtain ⟨a5B, c5B, w5B, hr5B, ho5B, hg5B⟩ := app_run_t (t := t) (k := k2) ho4B hb4B.size a2 c2 L2 l2 ((h2.below hb4B).mono hb4B.size) (by omega) (by omega) (by omega)
  have hb5B : Below W.heap.size W w5B := hb4B.grown hg5B hb4B.size (fun g e => (World.ownsRow.lt ho4B g e).1)
  exact ⟨_, _, _, _, _, _, _, _, _, hr3B, hr4B, hr5B, by unfold OwnN; rw [List.map_append, List.map_append]; simpa using ho5B, hb5B⟩

theorem insC (W : World) (a1 a2 : Option Addr) (L1 L2 : List Int) (x : Int) (k1 c1 k2 c2 s t : Nat) (h1 : Ints W W.heap.size a1 L1) (h2 : Ints W W.heap.size a2 L2) (l1 : L1.length = k1) (l2 : L2.length = k2) (hs : k1 + 1 = s) (ht : s + k2 = t) (hk : t ≤ 1048576) :
    ∃ a3 c3 w3 a4 c4 w4 a5 c5 w5, (Builtin.append_ #[23, 23] 23 #[.slice (some ⟨W.heap.size, 0, none⟩) 0 0, .slice a1 k1 c1]).run Tryd.prog ((W.alloc (.cells #[] 3)).alloc (.cells #[.int .i64 x] 3)).drew = .ok (.slice a3 k1 c3) w3 ∧
      (Builtin.append_ #[23, 23] 23 #[.slice a3 k1 c3, .slice (some ⟨W.heap.size + 1, 0, none⟩) 1 1]).run Tryd.prog w3 = .ok (.slice a4 s c4) w4 ∧
      (Builtin.append_ #[23, 23] 23 #[.slice a4 s c4, .slice a2 k2 c2]).run Tryd.prog w4 = .ok (.slice a5 t c5) w5 ∧
      OwnN w5 W.heap.size a5 t c5 (L1 ++ [x] ++ L2) ∧ Below W.heap.size W w5 := by
  have hEC : OwnI ((W.alloc (.cells #[] 3)).alloc (.cells #[.int .i64 x] 3)).drew W.heap.size (.slice (some ⟨W.heap.size, 0, none⟩) 0 0) [] := own_empty (w := ((W.alloc (.cells #[] 3)).alloc (.cells #[.int .i64 x] 3)).drew) (alloc2_0 W _ _) (Nat.le_refl _)
  have hB0C : Below W.heap.size W ((W.alloc (.cells #[] 3)).alloc (.cells #[.int .i64 x] 3)).drew := (below2 W (.cells #[] 3) (.cells #[.int .i64 x] 3)).drew
  obtain ⟨a3C, c3C, w3C, hr3C, ho3C, hg3C⟩ := app_run0n (k := k1) hEC hB0C.size a1 c1 L1 l1 ((h1.below hB0C).mono hB0C.size) (by omega)
  have hb3C : Below W.heap.size W w3C := hB0C.grown hg3C hB0C.size (fun g e => (World.ownsRow.lt hEC g e).1)
  have hXbC : w3C.heap[(W.heap.size + 1)]? = some (.cells #[.int .i64 x] 3 (0, 0)) := (hg3C.block (W.heap.size + 1) (lt_of_some (W := ((W.alloc (.cells #[] 3)).alloc (.cells #[.int .i64 x] 3)).drew) (alloc2_1 W _ _)) (by simp [Value.ownBlock])).trans (alloc2_1 W _ _)
  have hX2C : Ints w3C w3C.heap.size (some ⟨(W.heap.size + 1), 0, none⟩) [x] := one_blk hXbC
  obtain ⟨a4C, c4C, w4C, hr4C, ho4C, hg4C⟩ := app_run_t (t := s) (k := 1) ho3C hb3C.size (some ⟨(W.heap.size + 1), 0, none⟩) 1 [x] rfl hX2C (by omega) (by omega) (by omega)
  have hb4C : Below W.heap.size W w4C := hb3C.grown hg4C hb3C.size (fun g e => (World.ownsRow.lt ho3C g e).1)
  obtain ⟨a5C, c5C, w5C, hr5C, ho5C, hg5C⟩ := app_run_t (t := t) (k := k2) ho4C hb4C.size a2 c2 L2 l2 ((h2.below hb4C).mono hb4C.size) (by omega) (by omega) (by omega)
  have hb5C : Below W.heap.size W w5C := hb4C.grown hg5C hb4C.size (fun g e => (World.ownsRow.lt ho4C g e).1)
  exact ⟨_, _, _, _, _, _, _, _, _, hr3C, hr4C, hr5C, by unfold OwnN; rw [List.map_append, List.map_append]; simpa using ho5C, hb5C⟩

end Go.Proofs.YtgpgocijacgkhaaDoor
