/- It is proved what the FamilySizes of the model returns; conditions: those of each statement. -/
import Derived.Test.YtlfbpaphjkbcmaaRows
import Derived.WalkKit
import Derived.WalkSpells
import Derived.ProofKit
import Derived.OpenShut
import Derived.ShutString
import Derived.ChangeOld
import Derived.Below
import Derived.Deep.RegionHeld3
import Derived.Deep.QuietTactic
import Derived.BigQuiet
import Derived.Lib.Hide
import Derived.Lib.SmallJoins
import Derived.Outline
import Derived.Laws.MakeOwn
import Derived.Laws.OwnMore
import Derived.IntWalk
import Derived.RangeFuncNested
import Derived.RangeFuncBound
import Derived.RangeFuncCalls
import Derived.RangeFuncLeaves
import Derived.RangeFuncBox
import Derived.Shelf.Abstract
import Derived.Shelf.RegionOpen
import Derived.OwnWalkIn
import Derived.TacticsInMore
import Derived.LoopNIn
import Derived.LoopIn
import Derived.Maps.AppendAt
import Derived.Deep.AppendLies
import Derived.OwnWalk
import Derived.Test.YtlfbpaphjkbcmaaB
import Derived.Test.YtlfbpaphjkbcmaaC
import Derived.Test.YtlfbpaphjkbcmaaD
import Derived.Test.YtlfbpaphjkbcmaaE
import Derived.Test.YtlfbpaphjkbcmaaF
import Derived.Test.YtlfbpaphjkbcmaaG
import Derived.Test.YtlfbpaphjkbcmaaP
import Derived.Test.YtlfbpaphjkbcmaaSa
import Derived.Test.YtlfbpaphjkbcmaaZa
namespace Go.Proofs.Ytlfbpaphjkbcmaa
open Go.RowKit

/-- What a function of a list of ints and a bool returns: both, in new memory; nothing that lay has turned. -/
def RetSB (w : World) (zs : List Int) (ok : Bool) (e : Ending) (w' : World) : Prop :=
  ∃ a cap, e = .returned (.tuple #[.slice a zs.length cap, .bool ok]) ∧ OwnI w' w.heap.size (.slice a zs.length cap) zs ∧ Below w.heap.size w w'

theorem fullI_63 {m : Int} (h1 : 1 ≤ m) (h2 : m ≤ 6) : fullI m ≤ 63 := by
  rcases m16 h1 h2 with rfl | rfl | rfl | rfl | rfl | rfl <;> decide

set_option maxRecDepth 100000 in
set_option maxHeartbeats 1600000 in
theorem specSizes_no (m : Int) (a : Option Addr) (c : Nat) (zs : List Int) (w : World) (ha : Ints w w.heap.size a zs) (hx : zs.length ≤ 1048576) (hf : famIn m zs = false) :
    Calls Try.prog 9 #[.agg #[.int .i64 m, .slice a zs.length c]] w (RetSB w [] false) := by
  have HB0 := Lib.hid (below2 w (.cells #[.int .i64 m, .slice a zs.length c] 28) (.cells #[] 3))
  have HA := Lib.hid (ha.below HB0.out)
  have HF := Lib.hid hf
  clear hf ha
  go_enter Try.func9, Try.ntmps9
  go_wp2_with fail
  refine (specFamilyIn_any _ _ _ zs _ (HA.out.mono (by simp; omega)) hx).mono ?_
  rintro e w1 ⟨rfl, hb⟩
  rw [HF.out]
  have HO : Hid (OwnI w1 w.heap.size (.slice (some ⟨w.heap.size + 1, 0, none⟩) 0 0) []) := Lib.hid (own_empty ((hb.block _ (by simp)).trans (alloc2_1 w _ _)) (by omega))
  have HB := Lib.hid (HB0.out.trans (hb.mono (by simp; omega)))
  clear hb
  go_wp2
  go_ret2
  exact ⟨_, _, rfl, HO.out, HB.out⟩

set_option maxRecDepth 100000 in
set_option maxHeartbeats 1600000 in
theorem specSizes_yes (m : Int) (a : Option Addr) (c : Nat) (zs : List Int) (w : World) (ha : Ints w w.heap.size a zs) (hx : zs.length ≤ 1048576) (hf : famIn m zs = true) :
    Calls Try.prog 9 #[.agg #[.int .i64 m, .slice a zs.length c]] w (RetSB w (zs.map pop) true) := by
  have HB0 := Lib.hid (below2 w (.cells #[.int .i64 m, .slice a zs.length c] 28) (.cells #[] 3))
  have HA := Lib.hid (ha.below HB0.out)
  have HF := Lib.hid hf
  obtain ⟨hm1, hm6, -, hz⟩ := famIn_out hf
  have hfu := fullI_63 hm1 hm6
  obtain ⟨i0, hi0, hz0, hz1, hz2⟩ := info_parts Try.info3
  have HZ := Lib.hid hz
  clear hf ha hz
  go_enter Try.func9, Try.ntmps9
  go_wp2_with fail
  refine (specFamilyIn_any _ _ _ zs _ (HA.out.mono (by simp; omega)) hx).mono ?_
  rintro e w1 ⟨rfl, hb⟩
  rw [HF.out]
  have b0 : w1.heap[w.heap.size]? = some (.cells #[.int .i64 m, .slice a zs.length c] 28 (0, 0)) := (hb.block _ (by simp; omega)).trans (alloc2_0 w _ _)
  have b1 : w1.heap[w.heap.size + 1]? = some (.cells #[] 3 (0, 0)) := (hb.block _ (by simp)).trans (alloc2_1 w _ _)
  have x0 := blk_cell b0 0
  have x1 := blk_cell b0 1
  simp only [cell2_0, cell2_1] at x0 x1
  have HB := Lib.hid (HB0.out.trans (hb.mono (by simp; omega)))
  have HA1 := Lib.hid (HA.out.below (hb.mono (by simp; omega)))
  have B1 := Lib.hid b1
  have z1 : w.heap.size + 1 < w1.heap.size := by have := hb.size; simp at this; omega
  clear hb b0 b1
  go_wp2
  go_loopw [4, 5] (fun v i wr => ∃ (k : Nat) (a' : Option Addr) (c' : Nat), k ≤ zs.length ∧ i = .int .i64 k ∧ v = .slice a' k c' ∧ wr.ownsRow (w.heap.size + 1) 3 1 (.slice a' k c') k (((zs.take k).map pop).map (Value.int .i64)) ∧ Below (w.heap.size + 1) w1 wr) (fun _ i _ => zs.length - (intOf i).toNat)
  case atStart => exact ⟨0, _, _, Nat.zero_le _, rfl, rfl, own_empty B1.out (Nat.le_refl _), Below.refl _ _⟩
  case round =>
    obtain ⟨k, a', c', hk, rfl, rfl, ho, hb⟩ := hrel
    have y0 := (hb.cell (p := ⟨w.heap.size, 0, none⟩) (by simp)).trans x0
    have y1 := (hb.cell (p := ⟨w.heap.size, 1, none⟩) (by simp)).trans x1
    by_cases hlt : k < zs.length
    · obtain ⟨b1, o1, rfl, hb1, hc1⟩ := HA1.out.at_ hlt
      have hc2 := (hb.cell (p := ⟨b1, o1 + k, none⟩) (by simp; omega)).trans hc1
      have hsz := hb.size
      have hzk := HZ.out zs[k] (List.getElem_mem hlt)
      obtain ⟨hzk0, hzk1⟩ := hzk
      go_wp2_with (first
        | (go_at_call 30; refine (l1Size_any _ _ hzk0 (by omega)).mono ?_; rintro e w' ⟨rfl, rfl⟩)
        | (at_builtin; refine wpList_append_own _ rfl _ _ 22 rfl (w.heap.size + 1) 3 i0 (.int .i64 0) 1 8 Try.underlying22 hi0 hz0 hz1 hz2 rfl (by decide) _ _ _ rfl (ho.alloc _) ⟨wr.heap.size, 0, none⟩ 1 1 [.int .i64 (pop zs[k])] rfl rfl (cell_one_new _ _ _) (by simp [Value.oneCell']) (by simp only [maxLen]; omega) (by omega) (by simp; omega) ?_; intro v' w3 hown hgrow _; obtain ⟨g', cap', rfl, _, _⟩ := World.ownsRow.form hown (by omega)))
      go_roundw
      case rel => exact ⟨k + 1, _, _, by omega, by go_num, rfl, by rw [map_at _ zs k hlt, List.map_append]; simpa [hlt] using hown, (hb.alloc (by omega) _).grown hgrow (by simp; omega) (fun g e => (World.ownsRow.lt ho g e).1)⟩
      case measure => simp [intOf]; omega
    · obtain rfl : k = zs.length := by omega
      rw [List.take_length] at ho
      have HO : Hid (OwnI wr (w.heap.size + 1) (.slice a' zs.length c') (zs.map pop)) := Lib.hid (by unfold OwnI; rw [List.length_map]; exact ho)
      have HW := Lib.hid (HB.out.trans (hb.mono (by omega)))
      clear ho hb
      go_wp2
      go_ret2
      exact ⟨a', c', by rw [List.length_map]; rfl, by rw [List.length_map]; exact own_mono HO.out (by omega), HW.out⟩

def sizesZ (m : Int) (zs : List Int) : List Int := if famIn m zs then zs.map pop else []
theorem sizesZ_len (m : Int) (zs : List Int) (h : zs.length ≤ 1048576) : (sizesZ m zs).length ≤ 1048576 := by
  unfold sizesZ; split <;> simp; exact h

theorem specSizes_any (m : Int) (a : Option Addr) (c : Nat) (zs : List Int) (w : World) (ha : Ints w w.heap.size a zs) (hx : zs.length ≤ 1048576) :
    Calls Try.prog 9 #[.agg #[.int .i64 m, .slice a zs.length c]] w (RetSB w (sizesZ m zs) (famIn m zs)) := by
  unfold sizesZ
  cases hf : famIn m zs
  · exact specSizes_no m a c zs w ha hx hf
  · exact specSizes_yes m a c zs w ha hx hf

end Go.Proofs.Ytlfbpaphjkbcmaa
