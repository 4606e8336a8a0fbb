/- It is proved what FamilyAll of the program returns, and that the call of the law FnBlocked returns true; conditions: those of each statement. -/
import Derived.RowKit
import Derived.Laws.CopyRow
import Derived.Lib.SlBuf
import Derived.Deep.QuietTactic
import Derived.RangeFuncNested
import Derived.RangeFuncBound
import Derived.RangeFuncCalls
import Derived.RangeFuncLeaves
import Derived.RangeFuncBox
import Derived.RangeFuncWrites
import Derived.StillTailTactics
import Derived.Maps.OwnIn
import Derived.Maps.Ext
import Derived.DeepKeys4
import Derived.MapKept
import Derived.Test.YtgaappbcekllhaaDoorRows
import Derived.WalkKit
import Derived.WalkSpells
import Derived.ProofKit
import Derived.OpenShut
import Derived.ShutString
import Derived.ChangeOld
import Derived.Below
import Derived.Deep.RegionHeld3
import Derived.BigQuiet
import Derived.Lib.Hide
import Derived.Lib.SmallJoins
import Derived.Outline
import Derived.Laws.MakeOwn
import Derived.Laws.OwnMore
import Derived.IntWalk
import Derived.Maps.AppendAt
import Derived.Deep.RegionLaw
import Derived.Deep.AppendLies
import Derived.Lib.AppendZeros
import Derived.OwnWalk
import Derived.Lib.SlicesCompact
import Derived.Lib.OwnBridge
import Derived.OrdersIn
import Derived.TacticsIn
import Derived.Shelf.Sort.Plain
import Derived.Shelf.Slices.In.SortNone
import Derived.Shelf.Slices.CompactI
import Derived.Ground.Names2Prog
import Derived.Lib.SliceRun
import Derived.Shelf.RegionOpen
import Derived.Shelf.Abstract
import Derived.OwnWalkIn
import Derived.TacticsInMore
import Derived.LoopNIn
import Derived.LoopIn
import Derived.StillTail
import Derived.StillTactics
import Derived.Shelf.Spec.TrailingZeros
import Derived.Test.YtgaappbcekllhaaDoorCaaa
import Derived.Test.YtgaappbcekllhaaDoorCaab
import Derived.Test.YtgaappbcekllhaaDoorCaac
import Derived.Test.YtgaappbcekllhaaDoorCaad
import Derived.Test.YtgaappbcekllhaaDoorCaag
import Derived.Test.YtgaappbcekllhaaDoorCaaj
import Derived.Test.YtgaappbcekllhaaDoorMa
import Derived.Test.YtgaappbcekllhaaDoorMb
import Derived.Test.YtgaappbcekllhaaDoorCaae
namespace Go.Proofs.YtgaappbcekllhaaDoor
open Go.RowKit

def allZ (m : Int) (zs : List Int) : Int := if famIn m zs then ((togK zs (2 ^ zs.length - 1) : Nat) : Int) else 0
theorem placesB_any (m : Int) (a : Option Addr) (n c : Nat) (w : World) (hn : n ≤ 8) :
    Calls Tryd.prog 26 #[.agg #[.int .i64 m, .slice a n c]] w fun e w' => e = .returned (.int .i64 ((2 ^ n - 1 : Nat) : Int)) ∧ Below w.heap.size w w' :=
  (places_any m a n c w hn).mono fun _ _ h => ⟨h.1, h.2 ▸ below1 w _⟩

set_option maxRecDepth 100000 in
set_option maxHeartbeats 4000000 in
theorem implAllT_any (m : Int) (a : Option Addr) (c : Nat) (zs : List Int) (w : World) (ha : Ints w w.heap.size a zs) (hT : Tab w) (hx : zs.length ≤ 1048576) :
    Calls Tryd.prog 9 #[.agg #[.int .i64 m, .slice a zs.length c]] w (RetIB w (allZ m zs) (famIn m zs)) := by
  have HB0 := Lib.hid (below1 w (.cells #[.int .i64 m, .slice a zs.length c] 25))
  have HA := Lib.hid (ha.below HB0.out)
  have HT := Lib.hid hT
  clear ha hT
  unfold allZ
  cases hf : famIn m zs
  · have HF := Lib.hid hf
    clear hf
    go_enter Tryd.func9, Tryd.ntmps9
    go_wp2_with fail
    refine (implFamilyIn_any _ _ _ zs _ (HA.out.mono (by simp)) hx).mono ?_
    rintro e w1 ⟨rfl, hb⟩
    rw [HF.out]
    have HB := Lib.hid (HB0.out.trans (hb.mono (by simp)))
    clear hb
    go_wp2
    go_ret2
    exact ⟨rfl, HB.out⟩
  · have HF := Lib.hid hf
    obtain ⟨k, rfl, hk1, hk6, hset, hl8⟩ := fam_nat2 hf
    have HSET := Lib.hid hset
    obtain ⟨PL, hPL⟩ : ∃ PL, PL = 2 ^ zs.length - 1 := ⟨_, rfl⟩
    have HPL : Hid (PL < 2 ^ zs.length) := Lib.hid (by have := Nat.two_pow_pos zs.length; omega)
    have HPA := Lib.hid (fun W => placesB_any (k : Int) a zs.length c W hl8)
    rw [← hPL] at HPA ⊢
    clear hf hset hPL
    go_enter Tryd.func9, Tryd.ntmps9
    go_wp2_with fail
    refine (implFamilyIn_any _ _ _ zs _ (HA.out.mono (by simp)) hx).mono ?_
    rintro e w1 ⟨rfl, hb⟩
    rw [HF.out]
    have b0 : w1.heap[w.heap.size]? = some (.cells #[.int .i64 (k : Int), .slice a zs.length c] 25 (0, 0)) := (hb.block _ (by simp)).trans (alloc_new w _)
    have x0 := (blk_cell b0 0).trans (cell2_0 _ _)
    have x1 := (blk_cell b0 1).trans (cell2_1 _ _)
    have z1 : w.heap.size < w1.heap.size := lt_of_some b0
    have HB := Lib.hid (HB0.out.trans (hb.mono (by simp)))
    have HI1 := Lib.hid ((HA.out.below (hb.mono (by simp))).mono (show w.heap.size ≤ w1.heap.size by omega))
    have HT1 := Lib.hid (HT.out.below HB.out HT.out.lt)
    have Z1 := Lib.hid z1
    clear hb b0 z1
    go_wp2_with fail
    go_region_held3 (fun w' => w'.cell? ⟨w.heap.size, 0, none⟩ = some (.int .i64 (k : Int)) ∧ w'.cell? ⟨w.heap.size, 1, none⟩ = some (.slice a zs.length c))
      (first
        | exact ⟨x0, x1⟩
        | exact ⟨(hb2.cell (p := ⟨w.heap.size, 0, none⟩) Z1.out).trans x0, (hb2.cell (p := ⟨w.heap.size, 1, none⟩) Z1.out).trans x1⟩
        | exact ⟨((hb4.cell (p := ⟨w.heap.size, 0, none⟩) (Nat.lt_of_lt_of_le Z1.out hb2.size)).trans (hb2.cell (p := ⟨w.heap.size, 0, none⟩) Z1.out)).trans x0, ((hb4.cell (p := ⟨w.heap.size, 1, none⟩) (Nat.lt_of_lt_of_le Z1.out hb2.size)).trans (hb2.cell (p := ⟨w.heap.size, 1, none⟩) Z1.out)).trans x1⟩)
      (first
        | (go_at_call 26; refine (HPA.out _).mono ?_; rintro e w2 ⟨rfl, hb2⟩)
        | (go_at_call 25; refine (together_any k hk6 a c zs PL _ (((show Ints w1.drew w1.drew.heap.size a zs from HI1.out).below hb2).mono hb2.size) hl8 HSET.out HPL.out ((show Tab w1.drew from HT1.out).below hb2 (show Tab w1.drew from HT1.out).lt)).mono ?_; rintro e w4 ⟨rfl, hb4⟩))
    have HR := Lib.hid ((HB.out.drew.trans (hb2.mono (show w.heap.size ≤ w1.heap.size from Nat.le_of_lt Z1.out))).trans (hb4.mono (Nat.le_trans (show w.heap.size ≤ w1.heap.size from Nat.le_of_lt Z1.out) hb2.size)))
    rename_i hHeldX
    clear hHeldX hb2 hb4
    go_wp2
    go_ret2
    exact ⟨by simp, HR.out⟩

end Go.Proofs.YtgaappbcekllhaaDoor
