/- It is proved what slices.Sort does with the first places of an array, and how listed clubs are told; conditions: those of each statement. -/
import Derived.Laws.CopyRow
import Derived.Lib.SlBuf
import Derived.Test.YtijhpfecbpkpdaaDoorRows
import Derived.WalkKit
import Derived.WalkSpells
import Derived.ProofKit
import Derived.OpenShut
import Derived.ShutString
import Derived.ChangeOld
import Derived.Below
import Derived.Deep.RegionHeld3
import Derived.Deep.QuietTactic
import Derived.BigQuiet
import Derived.Lib.Hide
import Derived.Lib.SmallJoins
import Derived.Outline
import Derived.Laws.MakeOwn
import Derived.Laws.OwnMore
import Derived.IntWalk
import Derived.Lib.AppendZeros
import Derived.Maps.AppendAt
import Derived.Deep.AppendLies
import Derived.OwnWalk
import Derived.Lib.SlicesCompact
import Derived.Lib.OwnBridge
import Derived.Shelf.Sort.Plain
import Derived.Shelf.Slices.In.SortNone
import Derived.Shelf.Slices.CompactI
import Derived.Ground.Names2Prog
import Derived.RangeFuncNested
import Derived.RangeFuncBound
import Derived.RangeFuncCalls
import Derived.RangeFuncLeaves
import Derived.RangeFuncBox
import Derived.Shelf.Abstract
import Derived.Shelf.RegionOpen
import Derived.OwnWalkIn
import Derived.TacticsInMore
import Derived.LoopNIn
import Derived.LoopIn
import Derived.StillTail
import Derived.StillTactics
import Derived.OrdersIn
import Derived.TacticsIn
import Derived.Shelf.Spec.TrailingZeros
import Derived.StillTailTactics
import Derived.Test.YtijhpfecbpkpdaaDoorMj
import Derived.Test.YtijhpfecbpkpdaaDoorNe
namespace Go.Proofs.YtijhpfecbpkpdaaDoor
open Go.RowKit Go.Shelf

def leZ : Int → Int → Bool := fun x y => decide (x ≤ y)
theorem nums_own {β : Type} (b : Nat) (t : TypeId) (f : β → List Int) : Own (fun (s : β) W => Nums W b t (f s)) := fun s W W' row h hg hrow =>
  HasBlk.kept h hg (fun e => by obtain ⟨o, ho, hc⟩ := hrow b e; rw [show W.heap[b]? = _ from h] at ho; cases ho; cases hc)

theorem putCells_iv (ys L : List Int) (n : Nat) (hy : ys.length = n) (hn : n ≤ L.length) : Sort.putCells (Value.int .i64) 0 ys.toArray (iv L) = iv (ys ++ L.drop n) := by
  apply Array.ext_getElem?
  intro j
  simp only [Sort.putCells, Array.getElem?_mapIdx, iv, List.getElem?_toArray, List.map_append, List.size_toArray, Nat.zero_le, true_and, Nat.zero_add, Nat.sub_zero]
  by_cases hj : j < n
  · rw [List.getElem?_append_left (by simp; omega), List.getElem?_map, List.getElem?_map, List.getElem?_eq_getElem (by omega : j < L.length), List.getElem?_eq_getElem (by omega : j < ys.length)]
    simp only [Option.map_some]
    rw [if_pos (by omega), getElem!_pos _ j (by simp; omega)]
    simp
  · rw [List.getElem?_append_right (by simp; omega), List.getElem?_map, List.getElem?_map, List.getElem?_drop, List.length_map, hy, show n + (j - n) = j from by omega]
    cases L[j]? with
    | none => rfl
    | some z => simp only [Option.map_some]; rw [if_neg (by omega)]

theorem sort_nums (g n cap t : Nat) (L : List Int) (w : World) (h : Nums w g t L) (hn : n ≤ L.length) (hc : n ≤ cap) (hl : L.length ≤ 1048576) :
    Calls Tryd.prog 116 #[.slice (some ⟨g, 0, none⟩) n cap] w fun e w' => e = .returned (.tuple #[]) ∧ Nums w' g t ((L.take n).mergeSort leZ ++ L.drop n) ∧ w.grownBy w' (some g) := by
  have htl : (L.take n).length = n := by rw [List.length_take]; omega
  have hH : Sort.Holds (Value.int .i64) w g 0 (L.take n).toArray := by
    intro j hj
    have hj' : j < n := by simpa [htl] using hj
    refine ⟨?_, h.frozen _⟩
    have h1 := h.cell j (by omega)
    rw [Nat.zero_add, h1]
    have : ((L.take n).toArray)[j]! = L[j]?.getD 0 := by
      rw [getElem!_pos _ j hj]
      simp [show j < L.length by omega]
    rw [this]
  have hc := Any.slices_Sort_int sortLays g 0 cap (L.take n) w hH h.lt (by rw [htl]; omega)
  rw [htl] at hc
  refine hc.mono ?_
  rintro e w' ⟨rfl, q, os, rfl⟩
  refine ⟨rfl, ?_, only_trans (grownBy_put w g q _) (only_of_below (grown_below _ os) _)⟩
  have h1 : Nums (Sort.putRow (Value.int .i64) (Sort.ahead w q) g 0 ((L.take n).mergeSort leZ).toArray) g t ((L.take n).mergeSort leZ ++ L.drop n) := by
    have hb := h
    unfold Nums HasBlk at hb ⊢
    have hlt := (Array.getElem?_eq_some_iff.1 hb).1
    simp only [Sort.putRow, Sort.mapBlock, Sort.ahead, Array.getElem?_modify, if_pos, hb, Option.map_some, Sort.onCells]
    rw [putCells_iv _ _ n (by rw [List.length_mergeSort, htl]) hn]
  exact h1.below (grown_below _ os) h1.lt

/-- The array of clubs as it is filled. -/
def madeL (ps : List Int) (pre : List (Nat × Int)) : List Int := pre.foldl (fun L p => L.set p.1 (callZ ps p.2)) (List.replicate 8 0)

theorem madeL_snoc (ps : List Int) (pre : List (Nat × Int)) (p : Nat × Int) : madeL ps (pre ++ [p]) = (madeL ps pre).set p.1 (callZ ps p.2) := by simp [madeL]
theorem madeL_len (ps : List Int) : ∀ pre : List (Nat × Int), (madeL ps pre).length = 8 := by
  intro pre
  unfold madeL
  suffices h : ∀ (pre : List (Nat × Int)) (L : List Int), (pre.foldl (fun L p => L.set p.1 (callZ ps p.2)) L).length = L.length by rw [h]; simp
  intro pre
  induction pre with
  | nil => intro L; rfl
  | cons p pre ih => intro L; rw [List.foldl_cons, ih, List.length_set]

theorem madeL_pairs (ps zs : List Int) (h8 : zs.length ≤ 8) : ∀ k, k ≤ zs.length → madeL ps (pairs zs k) = (zs.take k).map (callZ ps) ++ List.replicate (8 - k) 0
  | 0, _ => by simp [pairs, madeL]
  | k + 1, hk => by
    rw [pairs_succ' zs k (by omega), madeL_snoc, madeL_pairs ps zs h8 k (by omega)]
    have hl : ((zs.take k).map (callZ ps)).length = k := by rw [List.length_map, List.length_take]; omega
    rw [List.set_append_right _ _ (by simp only; omega), hl, Nat.sub_self, show 8 - k = (8 - (k + 1)) + 1 from by omega, List.replicate_succ, List.set_cons_zero, List.take_succ_eq_append_getElem (by omega), List.map_append, List.append_assoc]
    rfl

/-- The list that names make of a family's clubs, and behind it zeros. -/
def keyL (zs ps : List Int) : List Int := (zs.map (callZ ps)).mergeSort leZ ++ List.replicate (8 - zs.length) 0

theorem keyL_len (zs ps : List Int) (h : zs.length ≤ 8) : (keyL zs ps).length = 8 := by simp [keyL]; omega
theorem keyL_made (zs ps : List Int) (h8 : zs.length ≤ 8) : ((madeL ps (pairs zs zs.length)).take zs.length).mergeSort leZ ++ (madeL ps (pairs zs zs.length)).drop zs.length = keyL zs ps := by
  have hl : (zs.map (callZ ps)).length = zs.length := by simp
  rw [madeL_pairs ps zs h8 _ (Nat.le_refl _), List.take_length, List.take_append_of_le_length (by omega), List.take_of_length_le (by omega), List.drop_append_of_le_length (by omega), List.drop_of_length_le (by omega), List.nil_append, keyL]

end Go.Proofs.YtijhpfecbpkpdaaDoor
