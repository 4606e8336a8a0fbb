/- It is proved what AlikeNames of the program and of the reference model return; conditions: those of each statement. -/
import Derived.RowKit
import Derived.Laws.CopyRow
import Derived.Lib.SlBuf
import Derived.Deep.QuietTactic
import Derived.RangeFuncNested
import Derived.RangeFuncBound
import Derived.RangeFuncCalls
import Derived.RangeFuncLeaves
import Derived.RangeFuncBox
import Derived.RangeFuncWrites
import Derived.StillTailTactics
import Derived.Maps.OwnIn
import Derived.Maps.Ext
import Derived.DeepKeys4
import Derived.MapKept
import Derived.Test.YtjclfpcnfmpjdaaDoorRows
import Derived.WalkKit
import Derived.WalkSpells
import Derived.ProofKit
import Derived.OpenShut
import Derived.ShutString
import Derived.ChangeOld
import Derived.Below
import Derived.Deep.RegionHeld3
import Derived.BigQuiet
import Derived.Lib.Hide
import Derived.Lib.SmallJoins
import Derived.Outline
import Derived.Laws.MakeOwn
import Derived.Laws.OwnMore
import Derived.IntWalk
import Derived.Maps.AppendAt
import Derived.Sort.MapsRangeIn
import Derived.Lib.AppendZeros
import Derived.Deep.AppendLies
import Derived.OwnWalk
import Derived.Lib.SlicesCompact
import Derived.Lib.OwnBridge
import Derived.OrdersIn
import Derived.TacticsIn
import Derived.Shelf.Sort.Plain
import Derived.Shelf.Slices.In.SortNone
import Derived.Shelf.Slices.CompactI
import Derived.Ground.Names2Prog
import Derived.Shelf.Abstract
import Derived.Shelf.RegionOpen
import Derived.OwnWalkIn
import Derived.TacticsInMore
import Derived.LoopNIn
import Derived.LoopIn
import Derived.StillTail
import Derived.StillTactics
import Derived.Shelf.Spec.TrailingZeros
import Derived.Test.YtjclfpcnfmpjdaaDoorMsa
import Derived.Test.YtjclfpcnfmpjdaaDoorMsb
import Derived.Test.YtjclfpcnfmpjdaaDoorBv
import Derived.Test.YtjclfpcnfmpjdaaDoorG
namespace Go.Proofs.YtjclfpcnfmpjdaaDoor
open Go.RowKit Go.Shelf Go.Maps

def namesZ (m : Int) (zs : List Int) : List Int := if famIn m zs then nI (firstN m.toNat zs) else []
theorem firstN_len {m : Nat} (hm : m ≤ 6) (zs : List Int) : (firstN m zs).length = m := lvlL_in (bestG_in zs (lvlL m m) _ (by have := lvlL_pos hm; omega))
theorem namesZ_len (m : Int) (zs : List Int) : (namesZ m zs).length ≤ 1048576 := by
  unfold namesZ
  split
  · rename_i h
    have h1 := (famIn_out h).1
    have h2 := (famIn_out h).2.1
    rw [nI_len, firstN_len (by omega)]; omega
  · simp

theorem slice_nil (g o n c : Nat) (w : World) : (binOp BinOp.eql 23 (.slice (some ⟨g, o, none⟩) n c) (.slice none 0 0)).run Tryd.prog w = .ok (.bool false) w := by kernel_rfl
set_option maxRecDepth 100000 in
set_option maxHeartbeats 1000000 in
theorem clone_any (g o c n : Nat) (xs : List Int) (hn : xs.length = n) (hx : n ≤ 1048576) (w : World) (ha : Ints w w.heap.size (some ⟨g, o, none⟩) xs) :
    Calls Tryd.prog 61 #[.slice (some ⟨g, o, none⟩) n c] w fun e w' => ∃ a' c', e = .returned (.slice a' n c') ∧ OwnN w' w.heap.size a' n c' xs ∧ Below w.heap.size w w' := by
  have hE : OwnI (w.alloc (.cells #[] 3)) w.heap.size (.slice (some ⟨w.heap.size, 0, none⟩) 0 0) [] := own_empty (alloc_new w _) (Nat.le_refl _)
  have hB0 : Below w.heap.size w (w.alloc (.cells #[] 3)) := below1 w (.cells #[] 3)
  obtain ⟨a3, c3, w3, hr3, ho3, hg3⟩ := app_run0n (k := n) hE hB0.size (some ⟨g, o, none⟩) c xs hn ((ha.below hB0).mono hB0.size) (by omega)
  have hb3 : Below w.heap.size w w3 := hB0.grown hg3 hB0.size (fun g e => (World.ownsRow.lt hE g e).1)
  have HO := Lib.hid (show OwnN w3 w.heap.size a3 n c3 xs from ho3)
  have HB := Lib.hid hb3
  have hnl := slice_nil g o n c w
  clear ha hE hB0 ho3 hg3 hb3 hn
  go_enter Tryd.func61, Tryd.ntmps61
  go_wp2_with (at_builtin; refine wpList_append_eq _ rfl _ _ 23 23 rfl _ _ rfl rfl hr3 ?_)
  go_ret
  exact ⟨_, _, rfl, HO.out, HB.out⟩

set_option maxRecDepth 100000 in
set_option maxHeartbeats 1000000 in
theorem specNames_any (m : Int) (a : Option Addr) (c : Nat) (zs : List Int) (w : World) (ha : Ints w w.heap.size a zs) (hx : zs.length ≤ 1048576) :
    Calls Tryd.prog 24 #[.agg #[.int .i64 m, .slice a zs.length c]] w (RetSB w (namesZ m zs) (famIn m zs)) := by
  have HA := Lib.hid ((ha.below (below1 w (.cells #[.int .i64 m, .slice a zs.length c] 25))).mono (B' := (w.alloc (.cells #[.int .i64 m, .slice a zs.length c] 25)).heap.size) (by simp))
  cases hf : famIn m zs
  · have HF := Lib.hid hf
    have HR : Hid (namesZ m zs = []) := Lib.hid (by simp [namesZ, hf])
    clear hf ha
    go_enter Tryd.func24, Tryd.ntmps24
    go_wp2_with (go_at_call 48; refine (specFamilyIn_any _ _ _ zs _ HA.out hx).mono ?_; rintro e w1 ⟨rfl, hb⟩; rw [HF.out]; have HB := Lib.hid hb; clear hb)
    rw [HR.out]
    have HB1 := Lib.hid ((below1 w (.cells #[.int .i64 m, .slice a zs.length c] 25)).trans (HB.out.mono (by simp)))
    have hsz := HB1.out.size
    clear HB
    go_ret2
    exact ⟨some ⟨w1.heap.size, 0, none⟩, 0, rfl, own_empty (alloc_new w1 _) hsz, HB1.out.alloc hsz _⟩
  · have HF := Lib.hid hf
    obtain ⟨hm1, hm6, -, -⟩ := famIn_out hf
    obtain ⟨k, rfl⟩ : ∃ k : Nat, m = (k : Int) := ⟨m.toNat, by omega⟩
    have hk6 : k ≤ 6 := by omega
    have HR : Hid (namesZ (k : Int) zs = nI (firstN k zs)) := Lib.hid (by simp [namesZ, hf])
    have HL : Hid ((firstN k zs).length = k) := Lib.hid (firstN_len hk6 zs)
    clear hf ha
    go_enter Tryd.func24, Tryd.ntmps24
    go_wp2_with fail
    refine (specFamilyIn_any _ _ _ zs _ HA.out hx).mono ?_
    rintro e w1 ⟨rfl, hb⟩
    rw [HF.out, HR.out]
    have x0 : w1.cell? ⟨w.heap.size, 0, none⟩ = some (.int .i64 (k : Int)) := (hb.cell (p := ⟨w.heap.size, 0, none⟩) (by simp)).trans (blk_cell (alloc_new w _) 0)
    have x1 : w1.cell? ⟨w.heap.size, 1, none⟩ = some (.slice a zs.length c) := (hb.cell (p := ⟨w.heap.size, 1, none⟩) (by simp)).trans (blk_cell (alloc_new w _) 1)
    have HI := Lib.hid ((HA.out.below hb).mono hb.size)
    have HB := Lib.hid ((below1 w _).trans (hb.mono (by simp)))
    have hsz := HB.out.size
    clear hb
    go_wp2_with fail
    refine (specBest_any k hk6 a c zs w1 HI.out HF.out).mono ?_
    rintro e w2 ⟨ba, bc, na, nc, rfl, -, hn, hb2⟩
    have HD : Hid (RetSB w (nI (firstN k zs)) true (.returned (.tuple #[.slice na k nc, .bool true])) w2) := Lib.hid ⟨na, nc, by rw [nI_len, HL.out], by rw [nI_len, HL.out]; unfold OwnI; rw [nI_len, HL.out]; exact hn.base hsz, HB.out.trans (hb2.mono hsz)⟩
    clear hn hb2
    go_wp2
    go_ret2
    rw [HR.out]
    exact HD.out

end Go.Proofs.YtjclfpcnfmpjdaaDoor
