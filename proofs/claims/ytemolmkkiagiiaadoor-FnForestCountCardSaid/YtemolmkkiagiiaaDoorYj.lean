/- It is proved what EarSteps of the program returns; conditions: those of each statement. -/
import Derived.RowKit
import Derived.Laws.CopyRow
import Derived.Lib.SlBuf
import Derived.Deep.QuietTactic
import Derived.RangeFuncNested
import Derived.RangeFuncBound
import Derived.RangeFuncCalls
import Derived.RangeFuncLeaves
import Derived.RangeFuncBox
import Derived.RangeFuncWrites
import Derived.StillTailTactics
import Derived.Maps.OwnIn
import Derived.Maps.Ext
import Derived.DeepKeys4
import Derived.MapKept
import Derived.Test.YtemolmkkiagiiaaDoorRows
import Derived.WalkKit
import Derived.WalkSpells
import Derived.ProofKit
import Derived.OpenShut
import Derived.ShutString
import Derived.ChangeOld
import Derived.Below
import Derived.Deep.RegionHeld3
import Derived.BigQuiet
import Derived.Lib.Hide
import Derived.Lib.SmallJoins
import Derived.Outline
import Derived.Laws.MakeOwn
import Derived.Laws.OwnMore
import Derived.IntWalk
import Derived.Maps.AppendAt
import Derived.Sort.MapsRangeIn
import Derived.Deep.RegionLaw
import Derived.Deep.AppendLies
import Derived.Lib.AppendZeros
import Derived.OwnWalk
import Derived.Lib.SlicesCompact
import Derived.Lib.OwnBridge
import Derived.OrdersIn
import Derived.TacticsIn
import Derived.Shelf.Sort.Plain
import Derived.Shelf.Slices.In.SortNone
import Derived.Shelf.Slices.CompactI
import Derived.Ground.Names2Prog
import Derived.Lib.SliceRun
import Derived.Shelf.RegionOpen
import Derived.Shelf.Abstract
import Derived.OwnWalkIn
import Derived.TacticsInMore
import Derived.LoopNIn
import Derived.LoopIn
import Derived.StillTail
import Derived.StillTactics
import Derived.Shelf.Spec.TrailingZeros
import Derived.Deep.LoopGhost
import Derived.Test.YtemolmkkiagiiaaDoorPaaa
import Derived.Test.YtemolmkkiagiiaaDoorPaac
import Derived.Test.YtemolmkkiagiiaaDoorPaar
import Derived.Test.YtemolmkkiagiiaaDoorPaad
import Derived.Test.YtemolmkkiagiiaaDoorKa
import Derived.Test.YtemolmkkiagiiaaDoorPaao
import Derived.Test.YtemolmkkiagiiaaDoorPaas
import Derived.Test.YtemolmkkiagiiaaDoorPabd
import Derived.Test.YtemolmkkiagiiaaDoorPaau
import Derived.Test.YtemolmkkiagiiaaDoorPaav
import Derived.Test.YtemolmkkiagiiaaDoorPaab
import Derived.Test.YtemolmkkiagiiaaDoorPaae
import Derived.Test.YtemolmkkiagiiaaDoorYa
import Derived.Test.YtemolmkkiagiiaaDoorPaaw
import Derived.Test.YtemolmkkiagiiaaDoorPaba
namespace Go.Proofs.YtemolmkkiagiiaaDoor
open Go.RowKit

theorem metU_bt6 (zs : List Int) (v : Nat) : ∀ (ps : List Nat) (t : Nat), (metU zs t ps).testBit v = (t.testBit v || ps.any fun p => Bt v (zs[p]?.getD 0))
  | [], t => by simp [metU]
  | p :: ps, t => by
    have h := metU_bt6 zs v ps (t ||| (zs[p]?.getD 0).toNat)
    unfold metU at h ⊢
    rw [List.foldl_cons, h, Nat.testBit_or, List.any_cons, Bool.or_assoc]; rfl

theorem any_range (p : Int → Bool) : ∀ (zs : List Int), ((List.range zs.length).any fun i => p (zs[i]?.getD 0)) = zs.any p
  | [] => rfl
  | z :: zs => by
    rw [List.length_cons, List.range_succ_eq_map, List.any_cons, List.any_map, List.any_cons]
    rw [← any_range p zs]
    rfl

theorem tog_bits6 (zs : List Int) (v : Nat) : (togK zs (2 ^ zs.length - 1)).testBit v = zs.any (Bt v) := by
  unfold togK
  rw [memK_full, metU_bt6, Nat.zero_testBit, Bool.false_or]
  exact any_range (Bt v) zs

set_option maxRecDepth 100000 in
theorem memK8_fin : ∀ t : Fin 64, (memK 8 t.val).length = (List.range 6).countP fun v => t.val.testBit v := by decide +kernel

theorem mb_tog {m : Nat} (hm : m ≤ 6) {zs : List Int} (hz : Sets m zs) : (memK 8 (togK zs (2 ^ zs.length - 1))).length = mbN zs := by
  refine (memK8_fin ⟨_, tog_lt (fun z h => p64 hm (hz z h).2) (2 ^ zs.length - 1)⟩).trans ?_
  unfold mbN
  refine List.countP_congr fun v _ => ?_
  have h := tog_bits6 zs v
  exact ⟨fun e => h ▸ e, fun e => h ▸ e⟩

theorem below_next {w1 W w4 : World} (h4 : Below W.heap.size W w4) (h : Below w1.heap.size w1 W) : Below w1.heap.size w1 w4 := h.trans (h4.mono h.size)
set_option maxRecDepth 100000 in
set_option maxHeartbeats 1600000 in
theorem counted_any (k : Nat) (hk6 : k ≤ 6) (a : Option Addr) (c : Nat) (zs : List Int) (w : World) (ha : Ints w w.heap.size a zs) (h8 : zs.length ≤ 8) (hz : Sets k zs) (hT : Tab w) :
    Calls Tryd.prog 66 #[.agg #[.int .i64 (k : Int), .slice a zs.length c]] w fun e w' => e = .returned (.int .i64 ((mbN zs + zs.length : Nat) : Int)) ∧ Below w.heap.size w w' := by
  have HB0 := Lib.hid (below1 w (.cells #[.int .i64 (k : Int), .slice a zs.length c] 25))
  have hMB := mb_tog hk6 hz
  have hm6 := mbN_le zs
  have ht64 : togK zs (2 ^ zs.length - 1) < 64 := tog_lt (fun z h => p64 hk6 (hz z h).2) _
  obtain ⟨W1, hW1, q0, hs1, hb1⟩ : ∃ W1, w.alloc (.cells #[.int .i64 (k : Int), .slice a zs.length c] 25) = W1 ∧ HasBlk W1 w.heap.size #[.int .i64 (k : Int), .slice a zs.length c] 25 ∧ W1.heap.size = w.heap.size + 1 ∧ Below w.heap.size w W1 :=
    ⟨_, rfl, alloc_new w _, by simp, below1 w _⟩
  have x0 := (blk_cell q0 0).trans (cell2_0 _ _)
  have x1 := (blk_cell q0 1).trans (cell2_1 _ _)
  have HI1 := Lib.hid ((ha.below hb1).mono (show w.heap.size ≤ W1.heap.size by omega))
  have HT1 := Lib.hid (hT.below hb1 hT.lt)
  have HB := Lib.hid hb1
  obtain ⟨T, hT'⟩ : ∃ T, T = togK zs (2 ^ zs.length - 1) := ⟨_, rfl⟩
  obtain ⟨PL, hPL⟩ : ∃ PL, PL = 2 ^ zs.length - 1 := ⟨_, rfl⟩
  have HPL : PL < 2 ^ zs.length := by have := Nat.two_pow_pos zs.length; omega
  obtain ⟨n, hn⟩ : ∃ n, n = zs.length := ⟨_, rfl⟩
  have HPA : Hid (∀ W, Calls Tryd.prog 68 #[.agg #[.int .i64 (k : Int), .slice a n c]] W fun e w' => e = .returned (.int .i64 ((PL : Nat) : Int)) ∧ Below W.heap.size W w') :=
    Lib.hid fun W => by rw [hPL, ← hn]; exact placesB_any (k : Int) a n c W (by omega)
  have HTO : Hid (∀ W, Below W1.heap.size W1 W → Calls Tryd.prog 67 #[.agg #[.int .i64 (k : Int), .slice a n c], .int .i64 ((PL : Nat) : Int)] W fun e w' => e = .returned (.int .i64 ((T : Nat) : Int)) ∧ Below W.heap.size W w') :=
    Lib.hid fun W hW => by rw [hT', ← hPL, hn]; exact together_any k hk6 a c zs PL W (HI1.out.step hW) h8 hz HPL (HT1.out.step hW)
  have HSZ : Hid (∀ W, Calls Tryd.prog 61 #[.int .i64 ((T : Nat) : Int)] W fun e w' => e = .returned (.int .i64 ((mbN zs : Nat) : Int)) ∧ W = w') :=
    Lib.hid fun W => by rw [← hMB, ← hT']; exact sizeW_any T W (by rw [hT']; omega)
  obtain ⟨M, hM⟩ : ∃ M, M = mbN zs := ⟨_, rfl⟩
  rw [← hM] at HSZ hm6 ⊢
  rw [← hn] at x1 h8 ⊢
  have hwr : IntKind.i64.wrap ((M : Int) + (n : Int)) = (M : Int) + (n : Int) := IntWalk.i64_in _ (by omega)
  have HKEEP : Hid (∀ W, Below W1.heap.size W1 W → W.cell? ⟨w.heap.size, 0, none⟩ = some (.int .i64 (k : Int)) ∧ W.cell? ⟨w.heap.size, 1, none⟩ = some (.slice a n c)) :=
    Lib.hid fun W hW => ⟨(hW.cell (p := ⟨w.heap.size, 0, none⟩) (by show w.heap.size < W1.heap.size; omega)).trans x0, (hW.cell (p := ⟨w.heap.size, 1, none⟩) (by show w.heap.size < W1.heap.size; omega)).trans x1⟩
  have HW1 := Lib.hid hW1
  have HN := Lib.hid hn
  clear ha hT hz hMB ht64 q0 hs1 hb1 hT' hPL HPL hM hW1
  rw [hn] at HKEEP x1 HPA HTO hwr ⊢
  clear hn
  go_enter Tryd.func66, Tryd.ntmps66
  go_wp2_with fail
  rw [HW1.out]
  have hbz : Below W1.heap.size W1 W1.drew := (Below.refl _ _).drew
  go_region_held3 (fun w' => w'.cell? ⟨w.heap.size, 0, none⟩ = some (.int .i64 (k : Int)) ∧ w'.cell? ⟨w.heap.size, 1, none⟩ = some (.slice a zs.length c))
    (first | exact ⟨x0, x1⟩ | exact HKEEP.out _ (by assumption))
    (first
      | (go_at_call 68; refine (HPA.out _).mono ?_; rintro e w2 ⟨rfl, hb2⟩; have hbx := below_next hb2 (by assumption : Below W1.heap.size W1 _); clear hb2)
      | (go_at_call 67; refine (HTO.out _ (by assumption)).mono ?_; rintro e w4 ⟨rfl, hb4⟩; have hby := below_next hb4 (by assumption : Below W1.heap.size W1 _); clear hb4)
      | (go_at_call 61; refine (HSZ.out _).mono ?_; rintro e w' ⟨rfl, rfl⟩))
  have HR := Lib.hid (HB.out.trans (hby.mono HB.out.size))
  rename_i hHeldX
  clear hHeldX hbx hby hbz
  go_wp2
  go_ret
  exact ⟨by simp, HR.out⟩

theorem red_fits {k : Nat} (hk6 : k ≤ 6) {zs : List Int} (h8 : zs.length ≤ 8) : (redZ k zs).length ≤ 8 := Nat.le_trans (redZ_len _ _) h8
set_option maxRecDepth 100000 in
set_option maxHeartbeats 3200000 in
theorem implEarSteps_any (m : Int) (a : Option Addr) (c : Nat) (zs : List Int) (w : World) (ha : Ints w w.heap.size a zs) (hT : Tab w) (hx : zs.length ≤ 1048576) :
    Calls Tryd.prog 34 #[.agg #[.int .i64 m, .slice a zs.length c]] w (RetIB w (stepsI m zs) (famIn m zs)) := by
  unfold stepsI
  have HB0 := Lib.hid (below1 w (.cells #[.int .i64 m, .slice a zs.length c] 25))
  have HA := Lib.hid (ha.below HB0.out)
  have HT := Lib.hid hT
  clear ha hT
  cases hf : famIn m zs
  · have HF := Lib.hid hf
    clear hf
    go_enter Tryd.func34, Tryd.ntmps34
    go_wp2_with fail
    refine (implFamilyIn_any _ _ _ zs _ (HA.out.mono (by simp)) hx).mono ?_
    rintro e w1 ⟨rfl, hb⟩
    rw [HF.out]
    have HB := Lib.hid (HB0.out.trans (hb.mono (by simp)))
    clear hb
    go_wp2
    go_ret2
    exact ⟨rfl, HB.out⟩
  · have HF := Lib.hid hf
    obtain ⟨k, rfl, hk1, hk6, hset, hl8⟩ := fam_nat2 hf
    simp only [Int.toNat_natCast, if_true]
    have hm6 := mbN_le zs
    have hm7 := mbN_le (redZ k zs)
    have hr8 := red_fits hk6 hl8 (k := k)
    have hRS := redZ_sets hk6 hset
    have HRD : Hid (∀ W, Ints W W.heap.size a zs → Tab W → Calls Tryd.prog 39 #[.agg #[.int .i64 (k : Int), .slice a zs.length c]] W (RetFam W (k : Int) (redZ k zs))) := Lib.hid fun W h h' => reduced_any k hk1 hk6 a c zs W h h' hl8 hset
    have HC1 : Hid (∀ W, Ints W W.heap.size a zs → Tab W → Calls Tryd.prog 66 #[.agg #[.int .i64 (k : Int), .slice a zs.length c]] W fun e w' => e = .returned (.int .i64 ((mbN zs + zs.length : Nat) : Int)) ∧ Below W.heap.size W w') := Lib.hid fun W h h' => counted_any k hk6 a c zs W h hl8 hset h'
    have HC2 : Hid (∀ b d W, Ints W W.heap.size b (redZ k zs) → Tab W → Calls Tryd.prog 66 #[.agg #[.int .i64 (k : Int), .slice b (redZ k zs).length d]] W fun e w' => e = .returned (.int .i64 ((mbN (redZ k zs) + (redZ k zs).length : Nat) : Int)) ∧ Below W.heap.size W w') := Lib.hid fun b d W h h' => counted_any k hk6 b d _ W h hr8 hRS h'
    obtain ⟨N, hN⟩ : ∃ N, N = redZ k zs := ⟨_, rfl⟩
    rw [← hN] at HRD HC2 hm7 hr8 ⊢
    obtain ⟨A, hA⟩ : ∃ A, A = mbN zs + zs.length := ⟨_, rfl⟩
    obtain ⟨B, hB⟩ : ∃ B, B = mbN N + N.length := ⟨_, rfl⟩
    rw [← hA] at HC1
    rw [← hB] at HC2
    rw [← hA, ← hB]
    have hA14 : A ≤ 14 := by omega
    have hB14 : B ≤ 14 := by omega
    have hwr : IntKind.i64.wrap ((A : Int) - (B : Int)) = (A : Int) - (B : Int) := IntWalk.i64_in _ (by omega)
    clear hf hset hl8 hN hA hB hm6 hm7 hr8 hRS
    go_enter Tryd.func34, Tryd.ntmps34
    go_wp2_with fail
    refine (implFamilyIn_any _ _ _ zs _ (HA.out.mono (by simp)) hx).mono ?_
    rintro e w1 ⟨rfl, hb⟩
    rw [HF.out]
    have b0 : w1.heap[w.heap.size]? = some (.cells #[.int .i64 (k : Int), .slice a zs.length c] 25 (0, 0)) := (hb.block _ (by simp)).trans (alloc_new w _)
    have x0 := (blk_cell b0 0).trans (cell2_0 _ _)
    have x1 := (blk_cell b0 1).trans (cell2_1 _ _)
    have hz1 : w.heap.size < w1.heap.size := lt_of_some b0
    have HB := Lib.hid (HB0.out.trans (hb.mono (by simp)))
    have HI1 := Lib.hid ((HA.out.below (hb.mono (by simp))).mono (show w.heap.size ≤ w1.heap.size by omega))
    have HT1 := Lib.hid (HT.out.below HB.out HT.out.lt)
    have HKEEP : Hid (∀ W, Below w1.heap.size w1 W → W.cell? ⟨w.heap.size, 0, none⟩ = some (.int .i64 (k : Int)) ∧ W.cell? ⟨w.heap.size, 1, none⟩ = some (.slice a zs.length c)) :=
      Lib.hid fun W hW => ⟨(hW.cell (p := ⟨w.heap.size, 0, none⟩) hz1).trans x0, (hW.cell (p := ⟨w.heap.size, 1, none⟩) hz1).trans x1⟩
    clear hb b0
    go_wp2_with fail
    have hbz : Below w1.heap.size w1 w1.drew := (Below.refl _ _).drew
    go_region_held3 (fun w' => w'.cell? ⟨w.heap.size, 0, none⟩ = some (.int .i64 (k : Int)) ∧ w'.cell? ⟨w.heap.size, 1, none⟩ = some (.slice a zs.length c))
      (first | exact ⟨x0, x1⟩ | exact HKEEP.out _ (by assumption))
      (first
        | (go_at_call 66; (with_reducible refine (HC1.out _ (HI1.out.step (by assumption)) (HT1.out.step (by assumption))).mono ?_); rintro e w2 ⟨rfl, hb2⟩; have hbx := below_next hb2 (by assumption : Below w1.heap.size w1 _); try (have hbn := below_next hb2 (by assumption : Below w5.heap.size w5 _)))
        | (go_at_call 39; refine (HRD.out _ (HI1.out.step (by assumption)) (HT1.out.step (by assumption))).mono ?_; rintro e w5 ⟨a5, c5, rfl, ho5, hb5⟩; have hby := below_next hb5 (by assumption : Below w1.heap.size w1 _); have HI5 := Lib.hid (own_ints ho5); have hb55 := Below.refl w5.heap.size w5)
        | (go_at_call 66; refine (HC2.out _ _ _ (HI5.out.step (by assumption)) (HT1.out.step (by assumption))).mono ?_; rintro e w6 ⟨rfl, hb6⟩; have hbq := below_next hb6 (by assumption : Below w1.heap.size w1 _)))
    all_goals
      have HR := Lib.hid (HB.out.trans ((by assumption : Below w1.heap.size w1 _).mono HB.out.size))
      go_wp2
      go_ret2
      exact ⟨by simp, HR.out⟩

end Go.Proofs.YtemolmkkiagiiaaDoor
