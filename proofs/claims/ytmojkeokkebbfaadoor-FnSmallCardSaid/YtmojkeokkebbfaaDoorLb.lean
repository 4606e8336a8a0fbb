/- It is proved that the family and the set drawn for CoverIn are the call's own; conditions: those of each statement. -/
import Derived.RowKit
import Derived.Laws.CopyRow
import Derived.Lib.SlBuf
import Derived.Deep.QuietTactic
import Derived.RangeFuncNested
import Derived.RangeFuncBound
import Derived.RangeFuncCalls
import Derived.RangeFuncLeaves
import Derived.RangeFuncBox
import Derived.RangeFuncWrites
import Derived.StillTailTactics
import Derived.Maps.OwnIn
import Derived.Maps.Ext
import Derived.DeepKeys4
import Derived.MapKept
import Derived.Test.YtmojkeokkebbfaaDoorRows
import Derived.WalkKit
import Derived.WalkSpells
import Derived.ProofKit
import Derived.OpenShut
import Derived.ShutString
import Derived.ChangeOld
import Derived.Below
import Derived.Deep.RegionHeld3
import Derived.BigQuiet
import Derived.Lib.Hide
import Derived.Lib.SmallJoins
import Derived.Outline
import Derived.Laws.MakeOwn
import Derived.Laws.OwnMore
import Derived.IntWalk
import Derived.Deep.RegionLaw
import Derived.Deep.AppendLies
import Derived.Deep.RegionWith
import Derived.Lib.AppendZeros
import Derived.Maps.AppendAt
import Derived.OwnWalk
import Derived.Lib.SlicesCompact
import Derived.Lib.OwnBridge
import Derived.OrdersIn
import Derived.TacticsIn
import Derived.Shelf.Sort.Plain
import Derived.Shelf.Slices.In.SortNone
import Derived.Shelf.Slices.CompactI
import Derived.Ground.Names2Prog
import Derived.Lib.SliceRun
import Derived.Shelf.Abstract
import Derived.Shelf.RegionOpen
import Derived.OwnWalkIn
import Derived.TacticsInMore
import Derived.LoopNIn
import Derived.LoopIn
import Derived.StillTail
import Derived.StillTactics
import Derived.Shelf.Spec.TrailingZeros
import Derived.Test.YtmojkeokkebbfaaDoorMzaa
import Derived.Test.YtmojkeokkebbfaaDoorMzad
import Derived.Test.YtmojkeokkebbfaaDoorMzab
import Derived.Test.YtmojkeokkebbfaaDoorDb
import Derived.Test.YtmojkeokkebbfaaDoorMzae
import Derived.Test.YtmojkeokkebbfaaDoorDk
import Derived.Test.YtmojkeokkebbfaaDoorMzaf
import Derived.Test.YtmojkeokkebbfaaDoorKc
import Derived.Test.YtmojkeokkebbfaaDoorMzav
import Derived.Test.YtmojkeokkebbfaaDoorMzaw
import Derived.Test.YtmojkeokkebbfaaDoorMzay
namespace Go.Proofs.YtmojkeokkebbfaaDoor
open Go.RowKit

set_option maxRecDepth 100000 in
set_option maxHeartbeats 4000000 in
theorem drawCoverIn_any (a : Option Addr) (n cap : Nat) (w : World) (hb : Bys w w.heap.size a n) (hn : n ≤ 1048576) (hc : n ≤ cap) (hc2 : cap ≤ 9223372036854775807) :
    Calls Tryd.prog 12 #[.slice a n cap] w (DrawnTwo w) := by
  have b1 := below1 w (.cells #[.int .i64 0, .slice none 0 0] 25)
  have HB := Lib.hid ((hb.below b1).fewer (B' := (w.alloc (.cells #[.int .i64 0, .slice none 0 0] 25)).heap.size) (by simp) (Nat.le_refl n))
  have HX : Hid (HasBlk (w.alloc (.cells #[.int .i64 0, .slice none 0 0] 25)) w.heap.size #[.int .i64 0, .slice none 0 0] 25) := Lib.hid (alloc_new w _)
  have HBL := Lib.hid b1
  clear hb b1
  go_enter Tryd.func12, Tryd.ntmps12
  go_wp2_with fail
  refine (setD_any a n cap _ HB.out hn hc hc2).mono ?_
  rintro e w2 ⟨m, a2, zs, c2, x, rfl, hl, ho, D2⟩
  have q0 : HasBlk w2 w.heap.size #[.int .i64 0, .slice none 0 0] 25 := (D2.block _ (by simp)).trans HX.out
  have hs2 : w.heap.size < w2.heap.size := lt_of_some q0
  have HO2 : Hid (OwnI w2 (w.heap.size + 1) (.slice a2 zs.length c2) zs) := Lib.hid (own_mono ho (by simp))
  have HBW2 := Lib.hid (HBL.out.trans (D2.mono (by simp)))
  clear ho D2 HB HX HBL
  obtain ⟨W3, hW3, hs3⟩ : ∃ W3, W3 = w2.alloc (.cells #[.int .i64 m, .slice a2 zs.length c2] 25) ∧ W3.heap.size = w2.heap.size + 1 := ⟨_, rfl, by simp⟩
  have bw3 := below1 w2 (.cells #[.int .i64 m, .slice a2 zs.length c2] 25)
  have qx3 := alloc_new w2 (.cells #[.int .i64 m, .slice a2 zs.length c2] 25)
  rw [← hW3] at bw3 qx3
  have HQ3 : Hid (HasBlk W3 w.heap.size #[.int .i64 0, .slice none 0 0] 25) := Lib.hid ((bw3.block _ (by omega)).trans q0)
  have HX3 : Hid (HasBlk W3 w2.heap.size #[.int .i64 m, .slice a2 zs.length c2] 25) := Lib.hid qx3
  have HO3 : Hid (OwnI W3 (w.heap.size + 1) (.slice a2 zs.length c2) zs) := Lib.hid (own_below HO2.out bw3 (by omega))
  have HB3 := Lib.hid (HBW2.out.trans (bw3.mono (by omega)))
  have hll : zs.length ≤ 1048576 := by omega
  have x0 := (blk_cell HX3.out 0).trans (cell2_0 _ _)
  have x1 := (blk_cell HX3.out 1).trans (cell2_1 _ _)
  clear bw3 qx3 q0 HO2 HBW2
  go_upto_region 2 with fail
  rw [← hW3]
  clear hW3
  go_wp2_with fail
  refine (specCoverSets_any m a2 c2 zs W3 (own_ints HO3.out) hll).mono ?_
  rintro e w4 ⟨a4, c4, rfl, ho4, hb4⟩
  have hlen : (lcZ m zs).length ≤ 1048576 := lcZ_len m zs
  obtain ⟨L, hL⟩ : ∃ L, L = lcZ m zs := ⟨_, rfl⟩
  rw [← hL] at ho4 hlen ⊢
  clear hL
  have hs4 := hb4.size
  have HQ4 : Hid (HasBlk w4 w.heap.size #[.int .i64 0, .slice none 0 0] 25) := Lib.hid ((hb4.block _ (by omega)).trans HQ3.out)
  have q4 : HasBlk w4 w2.heap.size #[.int .i64 m, .slice a2 zs.length c2] 25 := (hb4.block _ (by omega)).trans HX3.out
  have HF4 : Hid (OwnI w4 (w.heap.size + 1) (.slice a2 zs.length c2) zs) := Lib.hid (own_below HO3.out hb4 (by omega))
  have HL4 : Hid (OwnI w4 (w.heap.size + 1) (.slice a4 L.length c4) L) := Lib.hid (own_mono ho4 (by omega))
  have HB4 := Lib.hid (HB3.out.trans (hb4.mono (by omega)))
  have x0 := (blk_cell q4 0).trans (cell2_0 _ _)
  have x1 := (blk_cell q4 1).trans (cell2_1 _ _)
  have d0 := (blk_cell HQ4.out 0).trans (cell2_0 _ _)
  have d1 := (blk_cell HQ4.out 1).trans (cell2_1 _ _)
  have f0 := blk_frozen HQ4.out 0
  have f1 := blk_frozen HQ4.out 1
  clear ho4 hb4 q4 HO3 HB3 HX3 HQ3
  have K : ∀ (y : Int) (W : World), W = w4 ∨ W = w4.drew → DrawnTwo w (.returned (.tuple #[.agg #[.int .i64 m, .slice a2 zs.length c2], .int .i64 y])) ((W.setCell ⟨w.heap.size, 0, none⟩ (.int .i64 m)).setCell ⟨w.heap.size, 1, none⟩ (.slice a2 zs.length c2)) := by
    intro y W hW
    refine ⟨m, a2, zs, c2, _, rfl, by omega, ?_, ?_⟩
    · rcases hW with rfl | rfl
      · exact own_mono (ownsRow_setCell_below (ownsRow_setCell_below HF4.out (a := ⟨w.heap.size, 0, none⟩) (show w.heap.size < w.heap.size + 1 by omega) _) (a := ⟨w.heap.size, 1, none⟩) (show w.heap.size < w.heap.size + 1 by omega) _) (by omega)
      · exact own_mono (ownsRow_setCell_below (ownsRow_setCell_below HF4.out (a := ⟨w.heap.size, 0, none⟩) (show w.heap.size < w.heap.size + 1 by omega) _) (a := ⟨w.heap.size, 1, none⟩) (show w.heap.size < w.heap.size + 1 by omega) _) (by omega)
    · rcases hW with rfl | rfl
      · exact (HB4.out.setCell (p := ⟨w.heap.size, 0, none⟩) (Nat.le_refl _) _).setCell (p := ⟨w.heap.size, 1, none⟩) (Nat.le_refl _) _
      · exact (HB4.out.drew.setCell (p := ⟨w.heap.size, 0, none⟩) (Nat.le_refl _) _).setCell (p := ⟨w.heap.size, 1, none⟩) (Nat.le_refl _) _
  have HK := Lib.hid K
  clear K
  cases hd : famIn m zs
  · clear hd
    go_wp2
    refine bodyPost_ret (v := .tuple #[.agg #[.int .i64 m, .slice a2 zs.length c2], .int .i64 _]) (by simp [results, Tryd.results12, go_sem, d0, d1]; rfl) rfl ?_
    first | exact HK.out _ _ (.inl rfl) | exact HK.out _ _ (.inr rfl)
  · clear hd
    by_cases h0 : L.length = 0
    · have e0 : ¬ (0 < (L.length : Int)) := by omega
      go_wp2
      refine bodyPost_ret (v := .tuple #[.agg #[.int .i64 m, .slice a2 zs.length c2], .int .i64 _]) (by simp [results, Tryd.results12, go_sem, d0, d1]; rfl) rfl ?_
      first | exact HK.out _ _ (.inl rfl) | exact HK.out _ _ (.inr rfl)
    · have e0 : 0 < (L.length : Int) := by omega
      have e00 : (L.length : Int) ≠ 0 := by omega
      cases h2 : ((n : Int) % 2 == 0)
      · go_wp2
        refine bodyPost_ret (v := .tuple #[.agg #[.int .i64 m, .slice a2 zs.length c2], .int .i64 _]) (by simp [results, Tryd.results12, go_sem, d0, d1]; rfl) rfl ?_
        first | exact HK.out _ _ (.inl rfl) | exact HK.out _ _ (.inr rfl)
      · obtain ⟨q, hq, hq2⟩ : ∃ q : Nat, ((n : Int) / 2) = (q : Int) ∧ q ≤ 1048576 := ⟨n / 2, by norm_cast, by omega⟩
        obtain ⟨j, hj, hjl⟩ : ∃ j : Nat, (q : Int) % (L.length : Int) = (j : Int) ∧ j < L.length := ⟨q % L.length, by norm_cast, Nat.mod_lt _ (by omega)⟩
        have hqt : (n : Int).tdiv 2 = (q : Int) := by rw [Int.tdiv_eq_ediv_of_nonneg (by omega)]; exact hq
        have hjt : (q : Int).tmod (L.length : Int) = (j : Int) := by rw [Int.tmod_eq_emod_of_nonneg (by omega)]; exact hj
        have hqw : IntKind.i64.wrap (q : Int) = (q : Int) := by rw [IntKind.wrap_i64]; omega
        have hjw : IntKind.i64.wrap (j : Int) = (j : Int) := by rw [IntKind.wrap_i64]; omega
        obtain ⟨b9, o9, ha9, hb9, hc9⟩ := (own_ints HL4.out).at_ (k := j) hjl
        subst ha9
        obtain ⟨y, hy⟩ : ∃ y, y = L[j]?.getD 0 := ⟨_, rfl⟩
        rw [← hy] at hc9
        have j0 : (0 : Int) ≤ (j : Int) := by omega
        have j1 : (j : Int) < (L.length : Int) := by omega
        clear hy hb9 hjl HF4 HB4 HQ4
        have d0' : w4.drew.cell? ⟨w.heap.size, 0, none⟩ = some (.int .i64 0) := d0
        have d1' : w4.drew.cell? ⟨w.heap.size, 1, none⟩ = some (.slice none 0 0) := d1
        have f0' : w4.drew.frozen? ⟨w.heap.size, 0, none⟩ = false := f0
        have f1' : w4.drew.frozen? ⟨w.heap.size, 1, none⟩ = false := f1
        have hne : w.heap.size ≠ b9 := by have := (own_block HL4.out _ rfl).1; simp at this; omega
        have c9' := ((World.cell?_setCell_far (w4.setCell ⟨w.heap.size, 0, none⟩ (.int .i64 m)) ⟨w.heap.size, 1, none⟩ ⟨b9, o9 + j, none⟩ (.slice a2 zs.length c2) hne).trans (World.cell?_setCell_far w4 ⟨w.heap.size, 0, none⟩ ⟨b9, o9 + j, none⟩ (.int .i64 m) hne)).trans hc9
        clear HL4
        have x0' : w4.drew.cell? ⟨w2.heap.size, 0, none⟩ = some (.int .i64 m) := x0
        have x1' : w4.drew.cell? ⟨w2.heap.size, 1, none⟩ = some (.slice a2 zs.length c2) := x1
        go_wp2
        go_region_with (fail)
        all_goals
          go_wp2
          refine bodyPost_ret (v := .tuple #[.agg #[.int .i64 m, .slice a2 zs.length c2], .int .i64 _]) (by simp [results, Tryd.results12, go_sem, d0, d1]; rfl) rfl ?_
          exact HK.out _ _ (.inr rfl)

end Go.Proofs.YtmojkeokkebbfaaDoor
