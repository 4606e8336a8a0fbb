/- It is proved what FamilyAll of the program and of the model return; conditions: those of each statement. -/
import Derived.Test.YtkmaebkfmljiiaaDoorRows
import Derived.WalkKit
import Derived.WalkSpells
import Derived.ProofKit
import Derived.OpenShut
import Derived.ShutString
import Derived.ChangeOld
import Derived.Below
import Derived.Deep.RegionHeld3
import Derived.Deep.QuietTactic
import Derived.BigQuiet
import Derived.Lib.Hide
import Derived.Lib.SmallJoins
import Derived.Outline
import Derived.Laws.MakeOwn
import Derived.Laws.OwnMore
import Derived.IntWalk
import Derived.RangeFuncNested
import Derived.RangeFuncBound
import Derived.RangeFuncCalls
import Derived.RangeFuncLeaves
import Derived.RangeFuncBox
import Derived.Shelf.Abstract
import Derived.Shelf.RegionOpen
import Derived.OwnWalkIn
import Derived.TacticsInMore
import Derived.LoopNIn
import Derived.LoopIn
import Derived.Maps.AppendAt
import Derived.Test.YtkmaebkfmljiiaaDoorB
import Derived.Test.YtkmaebkfmljiiaaDoorC
import Derived.Test.YtkmaebkfmljiiaaDoorD
import Derived.Test.YtkmaebkfmljiiaaDoorE
import Derived.Test.YtkmaebkfmljiiaaDoorF
import Derived.Test.YtkmaebkfmljiiaaDoorG
import Derived.Test.YtkmaebkfmljiiaaDoorO
namespace Go.Proofs.YtkmaebkfmljiiaaDoor
open Go.RowKit Go.Shelf

attribute [local go_sem] Oper.semAt_some

def orAll (zs : List Int) : Int := zs.foldl (fun s z => bits .or .i64 s z) 0
theorem orAll_snoc (zs : List Int) (x : Int) : orAll (zs ++ [x]) = bits .or .i64 (orAll zs) x := by simp [orAll]
def famAll (m : Int) (zs : List Int) : Int := if famIn m zs then orAll zs else 0
theorem orAll_take (zs : List Int) (k : Nat) (h : k < zs.length) : orAll (zs.take (k + 1)) = bits .or .i64 (orAll (zs.take k)) (zs[k]?.getD 0) := by
  rw [List.take_succ_eq_append_getElem h, orAll_snoc]; simp [h]

set_option maxRecDepth 100000 in
set_option maxHeartbeats 400000 in
theorem l1Union_any (a : Option Addr) (c : Nat) (zs : List Int) (B : Nat) (w : World) (ha : Ints w B a zs) (hx : zs.length ≤ 1048576) :
    Calls Tryd.prog 31 #[.slice a zs.length c] w fun e w' => e = .returned (.int .i64 (orAll zs)) ∧ w = w' := by
  go_enter Tryd.func31, Tryd.ntmps31
  go_wp2
  go_loop [3, 4] (fun s i => ∃ k : Nat, k ≤ zs.length ∧ i = .int .i64 k ∧ s = .int .i64 (orAll (zs.take k))) (fun _ i => zs.length - (intOf i).toNat)
  case atStart => exact ⟨0, Nat.zero_le _, rfl, rfl⟩
  case round =>
    obtain ⟨k, hk, rfl, rfl⟩ := hrel
    by_cases hlt : k < zs.length
    · obtain ⟨b1, o1, rfl, hb1, hc1⟩ := ha.at_ hlt
      have HO := Lib.hid (orAll_take zs k hlt)
      go_wp2
      go_round
      case rel => exact ⟨k + 1, by omega, by go_num, by rw [HO.out]; simp [hlt]⟩
      case measure => simp [intOf]; omega
    · obtain rfl : k = zs.length := by omega
      have HT := Lib.hid (List.take_length (l := zs))
      go_wp2
      go_ret
      exact ⟨by simp, rfl⟩

set_option maxRecDepth 100000 in
set_option maxHeartbeats 400000 in
theorem specAll_any (m : Int) (a : Option Addr) (c : Nat) (zs : List Int) (w : World) (ha : Ints w w.heap.size a zs) (hx : zs.length ≤ 1048576) :
    Calls Tryd.prog 14 #[.agg #[.int .i64 m, .slice a zs.length c]] w (RetIB w (famAll m zs) (famIn m zs)) := by
  have HA := Lib.hid ((ha.below (below1 w (.cells #[.int .i64 m, .slice a zs.length c] 25))).mono (B' := (w.alloc (.cells #[.int .i64 m, .slice a zs.length c] 25)).heap.size) (by simp))
  cases hf : famIn m zs
  · have HF := Lib.hid hf
    have HR : Hid (famAll m zs = 0) := Lib.hid (by simp [famAll, hf])
    clear hf ha
    go_enter Tryd.func14, Tryd.ntmps14
    go_wp2_with (go_at_call 22; refine (specFamilyIn_any _ _ _ zs _ HA.out hx).mono ?_; rintro e w1 ⟨rfl, hb⟩; rw [HF.out]; have HB := Lib.hid hb; clear hb)
    go_ret2
    exact ⟨by rw [HR.out]; rfl, (below1 _ _).trans (HB.out.mono (by simp))⟩
  · have HF := Lib.hid hf
    have HR : Hid (famAll m zs = orAll zs) := Lib.hid (by simp [famAll, hf])
    clear hf ha
    go_enter Tryd.func14, Tryd.ntmps14
    go_wp2_with fail
    refine (specFamilyIn_any _ _ _ zs _ HA.out hx).mono ?_
    rintro e w1 ⟨rfl, hb⟩
    rw [HF.out]
    have x1 : w1.cell? ⟨w.heap.size, 1, none⟩ = some (.slice a zs.length c) := (hb.cell (p := ⟨w.heap.size, 1, none⟩) (by simp)).trans (blk_cell (alloc_new w _) 1)
    have HI := Lib.hid (HA.out.below hb)
    have HB := Lib.hid ((below1 w _).trans (hb.mono (by simp)))
    clear hb
    go_wp2_with (go_at_call 31; refine (l1Union_any _ _ zs _ _ HI.out hx).mono ?_; rintro e w2 ⟨rfl, rfl⟩)
    go_ret2
    exact ⟨by rw [HR.out]; rfl, HB.out⟩

end Go.Proofs.YtkmaebkfmljiiaaDoor
