/- It is proved what the palette of some colours is, and which numbers of colours may be told; conditions: those of each statement. -/
import Derived.RowKit
import Derived.Laws.CopyRow
import Derived.Lib.SlBuf
import Derived.Deep.QuietTactic
import Derived.RangeFuncNested
import Derived.RangeFuncBound
import Derived.RangeFuncCalls
import Derived.RangeFuncLeaves
import Derived.RangeFuncBox
import Derived.RangeFuncWrites
import Derived.StillTailTactics
import Derived.Maps.OwnIn
import Derived.Maps.Ext
import Derived.DeepKeys4
import Derived.MapKept
import Derived.Test.YtfhhfilkabjhaaaDoorRows
import Derived.WalkKit
import Derived.WalkSpells
import Derived.ProofKit
import Derived.OpenShut
import Derived.ShutString
import Derived.ChangeOld
import Derived.Below
import Derived.Deep.RegionHeld3
import Derived.BigQuiet
import Derived.Lib.Hide
import Derived.Lib.SmallJoins
import Derived.Outline
import Derived.Laws.MakeOwn
import Derived.Laws.OwnMore
import Derived.IntWalk
import Derived.Lib.AppendZeros
import Derived.Maps.AppendAt
import Derived.Deep.AppendLies
import Derived.OwnWalk
import Derived.Lib.SlicesCompact
import Derived.Lib.OwnBridge
import Derived.OrdersIn
import Derived.TacticsIn
import Derived.Shelf.Sort.Plain
import Derived.Shelf.Slices.In.SortNone
import Derived.Shelf.Slices.CompactI
import Derived.Ground.Names2Prog
import Derived.Lib.SliceRun
import Derived.Shelf.Abstract
import Derived.Shelf.RegionOpen
import Derived.OwnWalkIn
import Derived.TacticsInMore
import Derived.LoopNIn
import Derived.LoopIn
import Derived.StillTail
import Derived.StillTactics
import Derived.Shelf.Spec.TrailingZeros
import Derived.Test.YtfhhfilkabjhaaaDoorRaac
import Derived.Test.YtfhhfilkabjhaaaDoorRaaa
import Derived.Test.YtfhhfilkabjhaaaDoorRaab
import Derived.Test.YtfhhfilkabjhaaaDoorRaad
import Derived.Test.YtfhhfilkabjhaaaDoorRaae
import Derived.Test.YtfhhfilkabjhaaaDoorKc
namespace Go.Proofs.YtfhhfilkabjhaaaDoor
open Go.RowKit Go.Shelf

/-- The palette, filled up to a place. -/
def palTo (k j : Nat) : List Int := (List.range k).map fun i => if i < j then (i : Int) else 0

theorem palTo_len (k j : Nat) : (palTo k j).length = k := by simp [palTo]
theorem palTo_zero (k : Nat) : palTo k 0 = List.replicate k 0 := by
  apply List.ext_getElem <;> simp [palTo]

theorem palTo_all (k : Nat) : palTo k k = palI k := by
  unfold palTo palI
  apply List.map_congr_left
  intro i hi
  rw [if_pos (List.mem_range.1 hi)]

theorem palTo_succ {k j : Nat} : palTo k (j + 1) = (palTo k j).set j (j : Int) := by
  apply List.ext_getElem
  · simp [palTo]
  · intro i h1 h2
    simp only [palTo, List.getElem_map, List.getElem_range, List.getElem_set]
    by_cases e : j = i
    · subst e; simp
    · rw [if_neg e]
      by_cases h : i < j
      · rw [if_pos h, if_pos (by omega)]
      · rw [if_neg h, if_neg (by omega)]

theorem under_ints : Tryd.prog.underlying 22 = some (.slice 3) := by kernel_rfl
theorem run_makeP (k : Nat) (hk : k ≤ 100) (w : World) : (Instr.makeSlice 22 (.int .i64 (k : Int)) (.int .i64 (k : Int))).run Tryd.prog w = .ok (.slice (some ⟨w.heap.size, 0, none⟩) k k) (w.alloc (.cells (Array.replicate k (.int .i64 0)) 3)) := by
  obtain ⟨i0, hi0, hz0, hz1, hz2⟩ := info_parts Tryd.info3
  have := run_make (P := Tryd.prog) w 22 3 i0 (.int .i64 0) under_ints hi0 hz0 .i64 .i64 (k : Int) (k : Int) (by omega) (Int.le_refl _) (by rw [hz2]; omega) (by omega)
  rw [this, hz1]
  have e : madeCells (Value.int .i64 0).cells ((k : Int).toNat * 1) = Array.replicate k (.int .i64 0) := by
    apply Array.toList_inj.1
    rw [show (Value.int .i64 0).cells = #[Value.int .i64 0] from rfl, toList_madeCells_one]; simp
  rw [e]; rfl

set_option maxRecDepth 100000 in
set_option maxHeartbeats 2000000 in
theorem numbered_any (k : Nat) (hk : k ≤ 100) (w : World) :
    Calls Tryd.prog 84 #[.int .i64 (k : Int)] w fun e w' => e = .returned (.slice (some ⟨w.heap.size, 0, none⟩) k k) ∧ Nums w' w.heap.size 3 (palI k) ∧ Below w.heap.size w w' ∧ w'.heap.size = w.heap.size + 1 := by
  have hmk := run_makeP k hk w
  obtain ⟨W1, hW1, q1, hb1⟩ : ∃ W1, w.alloc (.cells (Array.replicate k (.int .i64 0)) 3) = W1 ∧ Nums W1 w.heap.size 3 (palTo k 0) ∧ Below w.heap.size w W1 ∧ W1.heap.size = w.heap.size + 1 :=
    ⟨_, rfl, by
      rw [palTo_zero]
      have := alloc_new w (.cells (Array.replicate k (.int .i64 0)) 3)
      unfold Nums HasBlk iv
      simpa using this, below1 w _, by simp⟩
  rw [hW1] at hmk
  have H0 : Hid (Nums W1 w.heap.size 3 (palTo k 0) ∧ Below w.heap.size w W1 ∧ W1.heap.size = w.heap.size + 1) := Lib.hid ⟨q1, hb1⟩
  clear q1 hb1 hW1
  have hk0 : (0 : Int) ≤ (k : Int) := by omega
  have hk100 : (k : Int) ≤ 100 := by omega
  go_enter Tryd.func84, Tryd.ntmps84
  go_wp2
  clear hmk
  go_loopw [4, 9] (fun _ i wr => ∃ j : Nat, j ≤ k ∧ i = .int .i64 (j : Int) ∧ Hid (Nums wr w.heap.size 3 (palTo k j) ∧ Below w.heap.size w wr ∧ wr.heap.size = w.heap.size + 1)) (fun _ i _ => k - (intOf i).toNat)
  case atStart => exact ⟨0, Nat.zero_le _, rfl, H0⟩
  case round =>
    obtain ⟨j, hj, rfl, HS⟩ := hrel
    by_cases hlt : j < k
    · have hjk : (j : Int) < (k : Int) := by omega
      have hj0 : (0 : Int) ≤ (j : Int) := by omega
      have c1 := HS.out.1.cell j (by rw [palTo_len]; exact hlt)
      have f1 := HS.out.1.frozen j
      have HR : Hid (Nums (wr.setCell ⟨w.heap.size, j, none⟩ (.int .i64 (j : Int))) w.heap.size 3 (palTo k (j + 1)) ∧ Below w.heap.size w (wr.setCell ⟨w.heap.size, j, none⟩ (.int .i64 (j : Int))) ∧ (wr.setCell ⟨w.heap.size, j, none⟩ (.int .i64 (j : Int))).heap.size = w.heap.size + 1) := Lib.hid ⟨by rw [palTo_succ]; exact HS.out.1.set j _, HS.out.2.1.setCell (p := ⟨w.heap.size, j, none⟩) (Nat.le_refl _) _, by rw [World.size_setCell]; exact HS.out.2.2⟩
      clear H0
      go_wp2
      go_roundw
      case rel => exact ⟨j + 1, by omega, by go_num, HR⟩
      case measure => simp [intOf]; omega
    · obtain rfl : j = k := by omega
      have HR := HS.out
      rw [palTo_all] at HR
      have HRR := Lib.hid HR
      clear HR H0
      go_wp2
      go_ret
      exact ⟨rfl, HRR.out⟩

/-- A number of colours may be told. -/
def colIn (k least : Int) : Bool := decide (least ≤ k) && decide (k ≤ 4)

theorem coloursIn_any (k least : Int) (w : World) :
    Calls Tryd.prog 51 #[.int .i64 k, .int .i64 least] w fun e w' => e = .returned (.bool (colIn k least)) ∧ w = w' := by
  unfold colIn
  by_cases h1 : least ≤ k
  · by_cases h2 : k ≤ 4
    · rw [decide_eq_true h1, decide_eq_true h2]
      go_enter Tryd.func51, Tryd.ntmps51
      go_wp2
      go_ret
      exact ⟨rfl, rfl⟩
    · rw [decide_eq_true h1, decide_eq_false h2]
      go_enter Tryd.func51, Tryd.ntmps51
      go_wp2
      go_ret
      exact ⟨rfl, rfl⟩
  · rw [decide_eq_false h1]
    go_enter Tryd.func51, Tryd.ntmps51
    go_wp2
    go_ret
    exact ⟨rfl, rfl⟩

set_option maxRecDepth 100000 in
theorem coloured_any (m : Int) (a : Option Addr) (n c : Nat) (k : Int) (rf : Nat) (w : World) :
    Calls Tryd.prog 61 #[.agg #[.int .i64 m, .slice a n c], .int .i64 k, .func (.func rf) #[] #[]] w fun e w' => e = .returned (.func (.func 82) #[] #[.pointer (some ⟨w.heap.size, 0, none⟩), .pointer (some ⟨w.heap.size + 1, 0, none⟩), .pointer (some ⟨w.heap.size + 1 + 1, 0, none⟩)]) ∧
      w' = ((w.alloc (.cells #[.int .i64 m, .slice a n c] 27)).alloc (.cells #[.int .i64 k] 3)).alloc (.cells #[.func (.func rf) #[] #[]] 73) := by
  go_enter Tryd.func61, Tryd.ntmps61
  go_wp2
  go_ret
  exact ⟨rfl, rfl⟩

end Go.Proofs.YtfhhfilkabjhaaaDoor

/- It is proved what the method ask leaves in its map; conditions: those of each statement. -/
namespace Go.Proofs.YtfhhfilkabjhaaaDoor
open Go.RowKit Go.Shelf Go.Maps

attribute [local go_sem] Oper.semAt_some

theorem arr8 (x : Array Bool) (h : x.size = 8) : ∃ l0 l1 l2 l3 l4 l5 l6 l7 : Bool, x = #[l0, l1, l2, l3, l4, l5, l6, l7] := by
  obtain ⟨l⟩ := x
  match l, h with
  | [l0, l1, l2, l3, l4, l5, l6, l7], _ => exact ⟨_, _, _, _, _, _, _, _, rfl⟩

theorem ints_putObj {A : World} {B l : Nat} {o : Obj} {a : Option Addr} {zs : List Int} (h : Ints A B a zs) (hl : ∃ o', A.heap[l]? = some o' ∧ o'.isCells = false) : Ints (A.putObj l o) B a zs := by
  rcases h with h | ⟨g, off, e, hg, hc⟩
  · exact .inl h
  · by_cases hz : zs = []
    · exact .inl hz
    · refine .inr ⟨g, off, e, hg, fun j hj => ?_⟩
      have hne : g ≠ l := by
        rintro rfl
        obtain ⟨o', ho, hn⟩ := hl
        have := hc 0 (List.length_pos_iff.2 hz)
        cases o' <;> simp [World.cell?, ho] at this
        cases hn
      exact (World.cell?_of_block (a := ⟨g, off + j, none⟩) (World.putObj_heap_other hne)).trans (hc j hj)

end Go.Proofs.YtfhhfilkabjhaaaDoor
