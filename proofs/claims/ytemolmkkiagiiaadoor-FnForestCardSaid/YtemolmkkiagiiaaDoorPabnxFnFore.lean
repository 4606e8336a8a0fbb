/- It is proved what EarReduce and EarFalls of the program return; conditions: those of each statement. -/
import Derived.RowKit
import Derived.Laws.CopyRow
import Derived.Lib.SlBuf
import Derived.Deep.QuietTactic
import Derived.RangeFuncNested
import Derived.RangeFuncBound
import Derived.RangeFuncCalls
import Derived.RangeFuncLeaves
import Derived.RangeFuncBox
import Derived.RangeFuncWrites
import Derived.StillTailTactics
import Derived.Maps.OwnIn
import Derived.Maps.Ext
import Derived.DeepKeys4
import Derived.MapKept
import Derived.Test.YtemolmkkiagiiaaDoorRows
import Derived.WalkKit
import Derived.WalkSpells
import Derived.ProofKit
import Derived.OpenShut
import Derived.ShutString
import Derived.ChangeOld
import Derived.Below
import Derived.Deep.RegionHeld3
import Derived.BigQuiet
import Derived.Lib.Hide
import Derived.Lib.SmallJoins
import Derived.Outline
import Derived.Laws.MakeOwn
import Derived.Laws.OwnMore
import Derived.IntWalk
import Derived.Maps.AppendAt
import Derived.Sort.MapsRangeIn
import Derived.Deep.RegionLaw
import Derived.Deep.AppendLies
import Derived.Lib.AppendZeros
import Derived.OwnWalk
import Derived.Lib.SlicesCompact
import Derived.Lib.OwnBridge
import Derived.OrdersIn
import Derived.TacticsIn
import Derived.Shelf.Sort.Plain
import Derived.Shelf.Slices.In.SortNone
import Derived.Shelf.Slices.CompactI
import Derived.Ground.Names2Prog
import Derived.Lib.SliceRun
import Derived.Shelf.Abstract
import Derived.Shelf.RegionOpen
import Derived.OwnWalkIn
import Derived.TacticsInMore
import Derived.LoopNIn
import Derived.LoopIn
import Derived.StillTail
import Derived.StillTactics
import Derived.Shelf.Spec.TrailingZeros
import Derived.Deep.LoopGhost
import Derived.Test.YtemolmkkiagiiaaDoorPaaa
import Derived.Test.YtemolmkkiagiiaaDoorPabmxFnFore
import Derived.Test.YtemolmkkiagiiaaDoorPaac
import Derived.Test.YtemolmkkiagiiaaDoorPaau
import Derived.Test.YtemolmkkiagiiaaDoorGa
import Derived.Test.YtemolmkkiagiiaaDoorGb
import Derived.Test.YtemolmkkiagiiaaDoorPaal
import Derived.Test.YtemolmkkiagiiaaDoorPaav
import Derived.Test.YtemolmkkiagiiaaDoorPaad
import Derived.Test.YtemolmkkiagiiaaDoorPaab
import Derived.Test.YtemolmkkiagiiaaDoorUa
import Derived.Test.YtemolmkkiagiiaaDoorYb
import Derived.Test.YtemolmkkiagiiaaDoorPabc
import Derived.Test.YtemolmkkiagiiaaDoorPaar
import Derived.Test.YtemolmkkiagiiaaDoorPaax
import Derived.Test.YtemolmkkiagiiaaDoorPaai
import Derived.Test.YtemolmkkiagiiaaDoorPaae
import Derived.Test.YtemolmkkiagiiaaDoorYa
import Derived.Test.YtemolmkkiagiiaaDoorYf
namespace Go.Proofs.YtemolmkkiagiiaaDoor
open Go.RowKit

set_option maxRecDepth 100000 in
set_option maxHeartbeats 1600000 in
theorem implReduce_any (m : Int) (a : Option Addr) (c : Nat) (zs : List Int) (w : World) (ha : Ints w w.heap.size a zs) (hT : Tab w) (hx : zs.length ≤ 1048576) :
    Calls Tryd.prog 10 #[.agg #[.int .i64 m, .slice a zs.length c]] w (RetFB w (famM (famIn m zs) m) (famF (famIn m zs) (redZ m.toNat) zs) (famIn m zs)) := by
  unfold famM famF
  have HB0 := Lib.hid (below2 w (.cells #[.int .i64 m, .slice a zs.length c] 25) (.cells #[.int .i64 0, .slice none 0 0] 25))
  have HA := Lib.hid (ha.below HB0.out)
  have HT := Lib.hid hT
  clear ha hT
  cases hf : famIn m zs
  · have HF := Lib.hid hf
    clear hf
    go_enter Tryd.func10, Tryd.ntmps10
    go_wp2_with fail
    refine (implFamilyIn_any _ _ _ zs _ (HA.out.mono (by simp; omega)) hx).mono ?_
    rintro e w1 ⟨rfl, hb⟩
    rw [HF.out]
    have b2 : w1.heap[w.heap.size + 1]? = some (.cells #[.int .i64 0, .slice none 0 0] 25 (0, 0)) := (hb.block _ (by simp)).trans (alloc2_1 w _ _)
    have d0 := blk_cell b2 0
    have d1 := blk_cell b2 1
    have f0 := blk_frozen b2 0
    have f1 := blk_frozen b2 1
    simp only [cell2_0, cell2_1] at d0 d1
    have HB := Lib.hid (HB0.out.trans (hb.mono (by simp; omega)))
    clear hb b2
    go_wp2
    refine bodyPost_ret (v := .tuple #[.agg #[.int .i64 0, .slice none 0 0], .bool false]) (by simp [results, Tryd.results10, go_sem, d0, d1]) rfl ?_
    exact ⟨none, 0, rfl, own_nil _ _, (HB.out.setCell (p := ⟨w.heap.size + 1, 0, none⟩) (by simp) _).setCell (p := ⟨w.heap.size + 1, 1, none⟩) (by simp) _⟩
  · have HF := Lib.hid hf
    obtain ⟨k, rfl, hk1, hk6, hset, hl8⟩ := fam_nat2 hf
    have HSET := Lib.hid hset
    have HL8 := Lib.hid hl8
    simp only [Int.toNat_natCast, if_true]
    obtain ⟨N, hN⟩ : ∃ N, N = redZ k zs := ⟨_, rfl⟩
    have HRD : Hid (∀ W, Ints W W.heap.size a zs → Tab W → Calls Tryd.prog 39 #[.agg #[.int .i64 (k : Int), .slice a zs.length c]] W (RetFam W (k : Int) N)) := Lib.hid fun W h h' => by rw [hN]; exact reduced_any k hk1 hk6 a c zs W h h' hl8 hset
    rw [← hN]
    clear hf hset hl8 hN
    go_enter Tryd.func10, Tryd.ntmps10
    go_wp2_with fail
    refine (implFamilyIn_any _ _ _ zs _ (HA.out.mono (by simp; omega)) hx).mono ?_
    rintro e w1 ⟨rfl, hb⟩
    rw [HF.out]
    have b0 : w1.heap[w.heap.size]? = some (.cells #[.int .i64 (k : Int), .slice a zs.length c] 25 (0, 0)) := (hb.block _ (by simp; omega)).trans (alloc2_0 w _ _)
    have b2 : w1.heap[w.heap.size + 1]? = some (.cells #[.int .i64 0, .slice none 0 0] 25 (0, 0)) := (hb.block _ (by simp)).trans (alloc2_1 w _ _)
    have x0 := (blk_cell b0 0).trans (cell2_0 _ _)
    have x1 := (blk_cell b0 1).trans (cell2_1 _ _)
    have HB := Lib.hid (HB0.out.trans (hb.mono (by simp; omega)))
    have HA1 := Lib.hid (HA.out.below (hb.mono (by simp; omega)))
    have z1 : w.heap.size + 1 < w1.heap.size := by have := hb.size; simp at this; omega
    have B2 := Lib.hid b2
    clear hb b0 b2
    go_wp2_with fail
    refine (HRD.out _ (HA1.out.mono (by omega)) (HT.out.below HB.out HT.out.lt)).mono ?_
    rintro e w2 ⟨a2, c2, rfl, ho2, hb2⟩
    have b2' := (hb2.block _ z1).trans B2.out
    have d0 := (blk_cell b2' 0).trans (cell2_0 _ _)
    have d1 := (blk_cell b2' 1).trans (cell2_1 _ _)
    have f0 := blk_frozen b2' 0
    have f1 := blk_frozen b2' 1
    have HO2 := Lib.hid ho2
    have HB2 := Lib.hid (HB.out.trans (hb2.mono (by omega)))
    clear ho2 hb2 b2'
    go_wp2
    refine bodyPost_ret (v := .tuple #[.agg #[.int .i64 (k : Int), .slice a2 N.length c2], .bool true]) (by simp [results, Tryd.results10, go_sem, d0, d1]) rfl ?_
    refine ⟨a2, c2, rfl, ?_, ?_⟩
    · exact own_mono (ownsRow_setCell_below (ownsRow_setCell_below HO2.out z1 _) z1 _) (by omega)
    · exact (HB2.out.setCell (p := ⟨w.heap.size + 1, 0, none⟩) (by simp) _).setCell (p := ⟨w.heap.size + 1, 1, none⟩) (by simp) _

def fallsB (m : Int) (zs : List Int) : Bool := famIn m zs && Nat.ble (redZ m.toNat zs).length 1
set_option maxRecDepth 100000 in
set_option maxHeartbeats 1600000 in
theorem implFalls_any (m : Int) (a : Option Addr) (c : Nat) (zs : List Int) (w : World) (ha : Ints w w.heap.size a zs) (hT : Tab w) (hx : zs.length ≤ 1048576) :
    Calls Tryd.prog 15 #[.agg #[.int .i64 m, .slice a zs.length c]] w fun e w' => e = .returned (.bool (fallsB m zs)) ∧ Below w.heap.size w w' := by
  unfold fallsB
  have HB0 := Lib.hid (below1 w (.cells #[.int .i64 m, .slice a zs.length c] 25))
  have HA := Lib.hid (ha.below HB0.out)
  have HT := Lib.hid hT
  clear ha hT
  cases hf : famIn m zs
  · have HF := Lib.hid hf
    clear hf
    go_enter Tryd.func15, Tryd.ntmps15
    go_wp2_with fail
    refine (implFamilyIn_any _ _ _ zs _ (HA.out.mono (by simp)) hx).mono ?_
    rintro e w1 ⟨rfl, hb⟩
    rw [HF.out]
    have HB := Lib.hid (HB0.out.trans (hb.mono (by simp)))
    clear hb
    go_wp2
    go_ret
    exact ⟨rfl, HB.out⟩
  · have HF := Lib.hid hf
    obtain ⟨k, rfl, hk1, hk6, hset, hl8⟩ := fam_nat2 hf
    simp only [Int.toNat_natCast, Bool.true_and]
    obtain ⟨N, hN⟩ : ∃ N, N = redZ k zs := ⟨_, rfl⟩
    have HRD : Hid (∀ W, Ints W W.heap.size a zs → Tab W → Calls Tryd.prog 39 #[.agg #[.int .i64 (k : Int), .slice a zs.length c]] W (RetFam W (k : Int) N)) := Lib.hid fun W h h' => by rw [hN]; exact reduced_any k hk1 hk6 a c zs W h h' hl8 hset
    rw [← hN]
    clear hf hset hl8 hN
    go_enter Tryd.func15, Tryd.ntmps15
    go_wp2_with fail
    refine (implFamilyIn_any _ _ _ zs _ (HA.out.mono (by simp)) hx).mono ?_
    rintro e w1 ⟨rfl, hb⟩
    rw [HF.out]
    have b0 : w1.heap[w.heap.size]? = some (.cells #[.int .i64 (k : Int), .slice a zs.length c] 25 (0, 0)) := (hb.block _ (by simp)).trans (alloc_new w _)
    have x0 := (blk_cell b0 0).trans (cell2_0 _ _)
    have x1 := (blk_cell b0 1).trans (cell2_1 _ _)
    have HB := Lib.hid (HB0.out.trans (hb.mono (by simp)))
    have HI1 := Lib.hid ((HA.out.below (hb.mono (by simp))).mono (show w.heap.size ≤ w1.heap.size by have := lt_of_some b0; omega))
    clear hb b0
    go_wp2_with fail
    refine (HRD.out _ HI1.out (HT.out.below HB.out HT.out.lt)).mono ?_
    rintro e w2 ⟨a2, c2, rfl, ho2, hb2⟩
    have HR := Lib.hid (HB.out.trans (hb2.mono HB.out.size))
    clear ho2 hb2
    have HLE : Hid (decide ((N.length : Int) ≤ 1) = Nat.ble N.length 1) := Lib.hid (by rw [Bool.eq_iff_iff, decide_eq_true_eq, Nat.ble_eq]; omega)
    have hff := field_fam
    go_wp2
    all_goals
      go_ret
      exact ⟨by rw [← HLE.out]; simp, HR.out⟩

end Go.Proofs.YtemolmkkiagiiaaDoor

/- It is proved what EarFalls and EarSteps of the model return; conditions: those of each statement. -/
namespace Go.Proofs.YtemolmkkiagiiaaDoor
open Go.RowKit

theorem redF_len (m : Nat) : ∀ (f : Nat) (G : List Int), (redF f m G).length ≤ G.length
  | 0, _ => Nat.le_refl _
  | f + 1, G => by
    rw [redF]
    split
    · exact Nat.le_refl _
    · rename_i v _
      refine Nat.le_trans (redF_len m f _) (Nat.le_trans (gr_len _) ?_)
      rw [List.length_map]; exact Nat.le_refl _

theorem redZ_len (m : Nat) (zs : List Int) : (redZ m zs).length ≤ zs.length := Nat.le_trans (redF_len m 7 _) (gr_len zs)
theorem redLen (m : Int) (zs : List Int) (h : zs.length ≤ 1048576) : (famF (famIn m zs) (redZ m.toNat) zs).length ≤ 1048576 := by
  unfold famF
  split
  · exact Nat.le_trans (redZ_len _ _) h
  · simp

theorem redZ_done {k : Nat} (hk6 : k ≤ 6) {zs : List Int} (hz : Sets k zs) : Red k (grZ zs) (redZ k zs) ∧ Done k (redZ k zs) :=
  redF_is hk6 7 (grZ zs) (gr_nodup _) (gr_sets hz) (by have := mbN_le (grZ zs); omega)

theorem redZ_sets {k : Nat} (hk6 : k ≤ 6) {zs : List Int} (hz : Sets k zs) : Sets k (redZ k zs) := (redZ_done hk6 hz).1.sets (gr_sets hz)
theorem red_zero {k : Nat} (hk6 : k ≤ 6) {zs : List Int} (hz : Sets k zs) {x : Int} (h : redZ k zs = [x]) : x = 0 := by
  have hS := redZ_sets hk6 hz x (by rw [h]; simp)
  by_cases e : x = 0
  · exact e
  · have hne : x.toNat ≠ 0 := by omega
    obtain ⟨v, hv⟩ := Nat.exists_testBit_of_ne_zero hne
    exact ((redZ_done hk6 hz).2 v (bt_lt hS.2 hv) (by rw [h]; exact ⟨x, by simp, hv, fun y hy _ => List.mem_singleton.1 hy⟩)).elim

set_option maxRecDepth 100000 in
set_option maxHeartbeats 1600000 in
theorem specFalls_any (m : Int) (a : Option Addr) (c : Nat) (zs : List Int) (w : World) (ha : Ints w w.heap.size a zs) (hx : zs.length ≤ 1048576) :
    Calls Tryd.prog 16 #[.agg #[.int .i64 m, .slice a zs.length c]] w fun e w' => e = .returned (.bool (fallsB m zs)) ∧ Below w.heap.size w w' := by
  unfold fallsB
  have HB0 := Lib.hid (below1 w (.cells #[.int .i64 m, .slice a zs.length c] 25))
  have HA := Lib.hid (ha.below HB0.out)
  clear ha
  cases hf : famIn m zs
  · have HF := Lib.hid hf
    clear hf
    go_enter Tryd.func16, Tryd.ntmps16
    go_wp2_with fail
    refine (specFamilyIn_any _ _ _ zs _ (HA.out.mono (by simp)) hx).mono ?_
    rintro e w1 ⟨rfl, hb⟩
    rw [HF.out]
    have HB := Lib.hid (HB0.out.trans (hb.mono (by simp)))
    clear hb
    go_wp2
    go_ret
    exact ⟨rfl, HB.out⟩
  · have HF := Lib.hid hf
    obtain ⟨k, rfl, hk1, hk6, hset, hl8⟩ := fam_nat2 hf
    have HSET := Lib.hid hset
    have HRED : Hid (∀ W, Ints W W.heap.size a zs → Calls Tryd.prog 42 #[.slice a zs.length c] W (RedRet W k zs)) := Lib.hid fun W h => l6eReduce_any k hk6 a c zs W h hl8 hset
    simp only [Int.toNat_natCast, Bool.true_and]
    obtain ⟨R, hR⟩ : ∃ R, R = Nat.ble (redZ k zs).length 1 := ⟨_, rfl⟩
    rw [← hR]
    have HR := Lib.hid hR
    clear hf hset hl8 hR
    go_enter Tryd.func16, Tryd.ntmps16
    go_wp2_with fail
    refine (specFamilyIn_any _ _ _ zs _ (HA.out.mono (by simp)) hx).mono ?_
    rintro e w1 ⟨rfl, hb⟩
    rw [HF.out]
    have b0 : w1.heap[w.heap.size]? = some (.cells #[.int .i64 (k : Int), .slice a zs.length c] 25 (0, 0)) := (hb.block _ (by simp)).trans (alloc_new w _)
    have x0 := (blk_cell b0 0).trans (cell2_0 _ _)
    have x1 := (blk_cell b0 1).trans (cell2_1 _ _)
    have HB := Lib.hid (HB0.out.trans (hb.mono (by simp)))
    have HI1 := Lib.hid ((HA.out.below (hb.mono (by simp))).mono (show w.heap.size ≤ w1.heap.size by have := lt_of_some b0; omega))
    clear hb b0
    go_wp2_with fail
    refine (HRED.out _ HI1.out).mono ?_
    rintro e w3 ⟨bo, co, out, st, rfl, ho3, hb3, hdone⟩
    have HB3 := Lib.hid (HB.out.trans (hb3.mono HB.out.size))
    have HD := Lib.hid hdone
    obtain ⟨n, hn⟩ : ∃ n, n = out.length := ⟨_, rfl⟩
    have HN := Lib.hid hn
    have hno : OwnN w3 w1.heap.size bo n co out := by rw [hn]; exact ho3
    have HO := Lib.hid hno
    rw [← hn]
    clear ho3 hb3 hdone hn x0 x1 hno
    match n, HN, HO with
    | 0, HN, _ =>
      have HE : Hid (true = R) := Lib.hid (by rw [HR.out, ← HD.out.2.1, ← HN.out]; rfl)
      go_wp2
      go_ret
      exact ⟨by rw [← HE.out]; simp, HB3.out⟩
    | 1, HN, HO =>
      have HE : Hid (true = R) := Lib.hid (by rw [HR.out, ← HD.out.2.1, ← HN.out]; rfl)
      have h0 : out[0]?.getD 0 = 0 := by
        obtain ⟨x, hx'⟩ := List.length_eq_one_iff.1 HN.out.symm
        obtain ⟨y, hy'⟩ := List.length_eq_one_iff.1 (HD.out.2.1 ▸ HN.out.symm : (redZ k zs).length = 1)
        have hxy : x = y := by
          have := (HD.out.2.2.1 x).1 (by rw [hx']; simp)
          rw [hy'] at this
          exact List.mem_singleton.1 this
        rw [hx']
        show x = 0
        rw [hxy]
        exact red_zero hk6 HSET.out hy'
      obtain ⟨g, rfl, hg1, hg2⟩ := HO.out.addr (by omega)
      have hc := HO.out.cell (j := 0) (by omega)
      rw [h0] at hc
      clear h0
      go_wp2
      go_ret
      exact ⟨by rw [← HE.out]; simp, HB3.out⟩
    | n + 2, HN, _ =>
      have HE : Hid (false = R) := Lib.hid (by rw [HR.out, ← HD.out.2.1, ← HN.out]; rfl)
      have h1 : (((n + 2 : Nat) : Int) == 0) = false := by rw [beq_eq_false_iff_ne]; omega
      have h2 : (((n + 2 : Nat) : Int) == 1) = false := by rw [beq_eq_false_iff_ne]; omega
      obtain ⟨q, hq⟩ : ∃ q, q = n + 2 := ⟨_, rfl⟩
      rw [← hq] at h1 h2 ⊢
      have h3 : (q == 0) = false := by rw [beq_eq_false_iff_ne]; omega
      have h4 : (q == 1) = false := by rw [beq_eq_false_iff_ne]; omega
      clear hq
      go_wp2
      go_ret
      exact ⟨by rw [← HE.out]; simp, HB3.out⟩

def stepsI (m : Int) (zs : List Int) : Int := if famIn m zs then ((mbN zs + zs.length : Nat) : Int) - ((mbN (redZ m.toNat zs) + (redZ m.toNat zs).length : Nat) : Int) else 0
set_option maxRecDepth 100000 in
set_option maxHeartbeats 1600000 in
theorem specEarSteps_any (m : Int) (a : Option Addr) (c : Nat) (zs : List Int) (w : World) (ha : Ints w w.heap.size a zs) (hx : zs.length ≤ 1048576) :
    Calls Tryd.prog 35 #[.agg #[.int .i64 m, .slice a zs.length c]] w (RetIB w (stepsI m zs) (famIn m zs)) := by
  unfold stepsI
  have HB0 := Lib.hid (below1 w (.cells #[.int .i64 m, .slice a zs.length c] 25))
  have HA := Lib.hid (ha.below HB0.out)
  clear ha
  cases hf : famIn m zs
  · have HF := Lib.hid hf
    clear hf
    go_enter Tryd.func35, Tryd.ntmps35
    go_wp2_with fail
    refine (specFamilyIn_any _ _ _ zs _ (HA.out.mono (by simp)) hx).mono ?_
    rintro e w1 ⟨rfl, hb⟩
    rw [HF.out]
    have HB := Lib.hid (HB0.out.trans (hb.mono (by simp)))
    clear hb
    go_wp2
    go_ret2
    exact ⟨rfl, HB.out⟩
  · have HF := Lib.hid hf
    obtain ⟨k, rfl, hk1, hk6, hset, hl8⟩ := fam_nat2 hf
    have HRED : Hid (∀ W, Ints W W.heap.size a zs → Calls Tryd.prog 42 #[.slice a zs.length c] W (RedRet W k zs)) := Lib.hid fun W h => l6eReduce_any k hk6 a c zs W h hl8 hset
    simp only [Int.toNat_natCast, if_true]
    obtain ⟨R, hR⟩ : ∃ R, R = ((mbN zs + zs.length : Nat) : Int) - ((mbN (redZ k zs) + (redZ k zs).length : Nat) : Int) := ⟨_, rfl⟩
    rw [← hR]
    have HR := Lib.hid hR
    clear hf hset hl8 hR
    go_enter Tryd.func35, Tryd.ntmps35
    go_wp2_with fail
    refine (specFamilyIn_any _ _ _ zs _ (HA.out.mono (by simp)) hx).mono ?_
    rintro e w1 ⟨rfl, hb⟩
    rw [HF.out]
    have b0 : w1.heap[w.heap.size]? = some (.cells #[.int .i64 (k : Int), .slice a zs.length c] 25 (0, 0)) := (hb.block _ (by simp)).trans (alloc_new w _)
    have x0 := (blk_cell b0 0).trans (cell2_0 _ _)
    have x1 := (blk_cell b0 1).trans (cell2_1 _ _)
    have HB := Lib.hid (HB0.out.trans (hb.mono (by simp)))
    have HI1 := Lib.hid ((HA.out.below (hb.mono (by simp))).mono (show w.heap.size ≤ w1.heap.size by have := lt_of_some b0; omega))
    clear hb b0
    go_wp2_with fail
    refine (HRED.out _ HI1.out).mono ?_
    rintro e w3 ⟨bo, co, out, st, rfl, ho3, hb3, hdone⟩
    have HB3 := Lib.hid (HB.out.trans (hb3.mono HB.out.size))
    have HE : Hid (((st : Nat) : Int) = R) := Lib.hid (by rw [HR.out]; have := hdone.2.2.2; omega)
    clear ho3 hb3 hdone x0 x1
    go_wp2
    go_ret2
    exact ⟨by rw [← HE.out]; rfl, HB3.out⟩

end Go.Proofs.YtemolmkkiagiiaaDoor
