/- It is proved what the reference model's pairs are; conditions: those of each statement. -/
import Derived.StillTailTactics
import Derived.RowKit
import Derived.Laws.CopyRow
import Derived.Lib.SlBuf
import Derived.Deep.QuietTactic
import Derived.RangeFuncNested
import Derived.RangeFuncBound
import Derived.RangeFuncCalls
import Derived.RangeFuncLeaves
import Derived.RangeFuncBox
import Derived.RangeFuncWrites
import Derived.Maps.OwnIn
import Derived.Maps.Ext
import Derived.DeepKeys4
import Derived.MapKept
import Derived.Test.YtnpfdgbbcapnkaaDoorRows
import Derived.WalkKit
import Derived.WalkSpells
import Derived.ProofKit
import Derived.OpenShut
import Derived.ShutString
import Derived.ChangeOld
import Derived.Below
import Derived.Deep.RegionHeld3
import Derived.BigQuiet
import Derived.Lib.Hide
import Derived.Lib.SmallJoins
import Derived.Outline
import Derived.Laws.MakeOwn
import Derived.Laws.OwnMore
import Derived.IntWalk
import Derived.Lib.AppendZeros
import Derived.Maps.AppendAt
import Derived.Deep.AppendLies
import Derived.OwnWalk
import Derived.Lib.SlicesCompact
import Derived.Lib.OwnBridge
import Derived.OrdersIn
import Derived.TacticsIn
import Derived.Shelf.Sort.Plain
import Derived.Shelf.Slices.In.SortNone
import Derived.Shelf.Slices.CompactI
import Derived.Ground.Names2Prog
import Derived.Lib.SliceRun
import Derived.Shelf.Abstract
import Derived.Shelf.RegionOpen
import Derived.OwnWalkIn
import Derived.TacticsInMore
import Derived.LoopNIn
import Derived.LoopIn
import Derived.StillTail
import Derived.StillTactics
import Derived.Shelf.Spec.TrailingZeros
import Derived.Deep.LoopGhost
import Derived.Test.YtnpfdgbbcapnkaaDoorRbab
import Derived.Test.YtnpfdgbbcapnkaaDoorRbap
import Derived.Test.YtnpfdgbbcapnkaaDoorRbaa
import Derived.Test.YtnpfdgbbcapnkaaDoorRbaf
import Derived.Test.YtnpfdgbbcapnkaaDoorRbag
import Derived.Test.YtnpfdgbbcapnkaaDoorRbaj
import Derived.Test.YtnpfdgbbcapnkaaDoorKk
import Derived.Test.YtnpfdgbbcapnkaaDoorRbal
import Derived.Test.YtnpfdgbbcapnkaaDoorMa
import Derived.Test.YtnpfdgbbcapnkaaDoorRbah
import Derived.Test.YtnpfdgbbcapnkaaDoorYf
import Derived.Test.YtnpfdgbbcapnkaaDoorRbau
namespace Go.Proofs.YtnpfdgbbcapnkaaDoor
open Go.RowKit

/-- The other members of the clubs with a member. -/
def prU (zs : List Int) (v : Nat) : Nat := zs.foldl (fun t z => if Bt v z then t ||| woP z.toNat v else t) 0

theorem prU_snoc (zs : List Int) (z : Int) (v : Nat) : prU (zs ++ [z]) v = if Bt v z then prU zs v ||| woP z.toNat v else prU zs v := by simp [prU]
theorem prU_bit {v w : Nat} (hv : v < 6) : ∀ (zs : List Int), (∀ z ∈ zs, z.toNat < 64) → prU zs v < 64 ∧ ((prU zs v).testBit w = (decide (w ≠ v) && zs.any fun z => Bt v z && Bt w z)) := by
  have H : ∀ r : List Int, ∀ zs, zs = r.reverse → (∀ z ∈ zs, z.toNat < 64) → prU zs v < 64 ∧ ((prU zs v).testBit w = (decide (w ≠ v) && zs.any fun z => Bt v z && Bt w z)) := by
    intro r
    induction r with
    | nil => rintro zs rfl _; simp [prU]
    | cons z r ih =>
      rintro zs rfl h
      rw [List.reverse_cons] at h ⊢
      obtain ⟨h1, h2⟩ := ih _ rfl (fun y hy => h y (by simp only [List.mem_append]; exact .inl hy))
      have hz := h z (by simp)
      rw [prU_snoc, List.any_append]
      cases hb : Bt v z
      · simp only [Bool.false_eq_true, if_false]
        refine ⟨h1, ?_⟩
        rw [h2]; simp [hb]
      · simp only [if_true]
        refine ⟨Nat.or_lt_two_pow (n := 6) h1 (Nat.lt_of_le_of_lt (wo_le _ _) hz), ?_⟩
        rw [Nat.testBit_or, h2, woP_bit hz hv]
        simp only [List.any_cons, List.any_nil, hb, Bool.true_and, Bool.or_false]
        show _ = _
        unfold Bt
        cases (z.toNat).testBit w <;> cases (decide (w ≠ v)) <;> simp
  exact fun zs h => H zs.reverse zs (by simp) h

set_option maxRecDepth 100000 in
set_option maxHeartbeats 4000000 in
theorem l6ePairs_any (m : Nat) (hm1 : 1 ≤ m) (hm : m ≤ 6) (a : Option Addr) (c : Nat) (zs : List Int) (w : World) (ha : Ints w w.heap.size a zs) (hx : zs.length ≤ 1048576) (hz : Sets m zs) :
    Calls Tryd.prog 84 #[.agg #[.int .i64 (m : Int), .slice a zs.length c]] w fun e w' => ∃ g, e = .returned (.slice (some ⟨g, 0, none⟩) m m) ∧ w.heap.size ≤ g ∧ Nums w' g 3 (rowL (prU zs) m) ∧ Below w.heap.size w w' := by
  obtain ⟨n, hn⟩ : ∃ n, n = zs.length := ⟨_, rfl⟩
  have HN := Lib.hid hn
  obtain ⟨W1, hW1, b0, hs1, hb1⟩ : ∃ W1, w.alloc (.cells #[.int .i64 (m : Int), .slice a zs.length c] 25) = W1 ∧ HasBlk W1 w.heap.size #[.int .i64 (m : Int), .slice a zs.length c] 25 ∧ W1.heap.size = w.heap.size + 1 ∧ Below w.heap.size w W1 := ⟨_, rfl, alloc_new w _, by simp, below1 w _⟩
  have hmk := run_makeP m (by omega) W1
  obtain ⟨W2, hW2, q1, hb2⟩ : ∃ W2, W1.alloc (.cells (Array.replicate m (.int .i64 0)) 3) = W2 ∧ Nums W2 W1.heap.size 3 (rowL (prU []) m) ∧ Below W1.heap.size W1 W2 :=
    ⟨_, rfl, by
      have := alloc_new W1 (.cells (Array.replicate m (.int .i64 0)) 3)
      have e : rowL (prU []) m = List.replicate m 0 := by
        apply List.ext_getElem <;> simp [rowL, prU]
      rw [e]
      unfold Nums HasBlk iv
      simpa using this, below1 W1 _⟩
  rw [hW2] at hmk
  have x0 := (blk_cell b0 0).trans (cell2_0 _ _)
  have hz64 : ∀ z ∈ zs, 0 ≤ z ∧ z.toNat < 64 := fun z h => ⟨(hz z h).1, p64 hm (hz z h).2⟩
  have HKEEP : Hid (∀ W, Below W1.heap.size W1 W → W.cell? ⟨w.heap.size, 0, none⟩ = some (.int .i64 (m : Int)) ∧ W.cell? ⟨w.heap.size, 1, none⟩ = some (.slice a zs.length c)) := Lib.hid fun W hW =>
    ⟨(hW.cell (p := ⟨w.heap.size, 0, none⟩) (show w.heap.size < W1.heap.size by omega)).trans ((blk_cell b0 0).trans (cell2_0 _ _)), (hW.cell (p := ⟨w.heap.size, 1, none⟩) (show w.heap.size < W1.heap.size by omega)).trans ((blk_cell b0 1).trans (cell2_1 _ _))⟩
  have HI1 : Hid (Ints W1 w.heap.size a zs) := Lib.hid (ha.below hb1)
  have HB1 := Lib.hid hb1
  have HS1 := Lib.hid hs1
  have HZ64 := Lib.hid hz64
  have H0 : Hid (Nums W2 W1.heap.size 3 (rowL (prU (zs.take 0)) m) ∧ Below W1.heap.size W1 W2) := Lib.hid ⟨by simpa using q1, hb2⟩
  have hm1I : (1 : Int) ≤ (m : Int) := by omega
  have hm6I : (m : Int) ≤ 6 := by omega
  rw [← hn] at HKEEP hW1 ⊢
  rw [← hn] at hx
  clear ha hz hz64 b0 hb1 hs1 q1 hb2 hW2 hn
  go_enter Tryd.func84, Tryd.ntmps84
  go_wp2
  clear hmk hW1 x0
  go_loopw [4, 5] (fun s4 _ wr => ∃ i : Nat, i ≤ n ∧ s4 = .int .i64 (i : Int) ∧ Hid (Nums wr W1.heap.size 3 (rowL (prU (zs.take i)) m) ∧ Below W1.heap.size W1 wr)) (fun s4 _ _ => n - (intOf s4).toNat)
  case atStart => exact ⟨0, Nat.zero_le _, rfl, H0⟩
  case round =>
    obtain ⟨i, hi, rfl, HS⟩ := hrel
    obtain ⟨wo, rfl⟩ : ∃ wo, wo = wr := ⟨wr, rfl⟩
    clear H0
    obtain ⟨x0, x1⟩ := HKEEP.out _ HS.out.2
    by_cases hlt : i < n
    · have hiI : (i : Int) < (n : Int) := by omega
      have hi0 : (0 : Int) ≤ (i : Int) := by omega
      obtain ⟨z, hzz⟩ : ∃ z, z = zs[i]?.getD 0 := ⟨_, rfl⟩
      have hzm : z ∈ zs := by rw [hzz]; exact at_in (by rw [← HN.out]; exact hlt)
      obtain ⟨hz0, hz64⟩ := HZ64.out z hzm
      have htk : zs.take (i + 1) = zs.take i ++ [z] := by
        rw [List.take_succ_eq_append_getElem (by rw [← HN.out]; exact hlt), hzz, List.getElem?_eq_getElem (by rw [← HN.out]; exact hlt), Option.getD_some]
      obtain ⟨L, hL⟩ : ∃ L, L = prU (zs.take i) := ⟨_, rfl⟩
      obtain ⟨L', hL'⟩ : ∃ L', L' = prU (zs.take (i + 1)) := ⟨_, rfl⟩
      have HL' := Lib.hid hL'
      have HST : Hid (∀ v, L' v = if Bt v z then L v ||| woP z.toNat v else L v) := Lib.hid fun v => by rw [hL', hL, htk]; exact prU_snoc _ _ _
      have HLT : Hid (∀ v, v < 6 → L v < 64) := Lib.hid fun v hv => by
        rw [hL]
        exact (prU_bit (w := 0) hv (zs.take i) (fun y hy => (HZ64.out y (List.mem_of_mem_take hy)).2)).1
      have HV0 : Hid (Nums wo W1.heap.size 3 (halfL L L' m 0) ∧ Below W1.heap.size W1 wo) := Lib.hid ⟨by rw [half_zero, hL]; exact HS.out.1, HS.out.2⟩
      have HZZ := Lib.hid hzz
      clear hL hL' hzz hzm htk
      go_wp2
      go_loopw [5] (fun s5 wv => ∃ v : Nat, v ≤ m ∧ s5 = .int .i64 (v : Int) ∧ Hid (Nums wv W1.heap.size 3 (halfL L L' m v) ∧ Below W1.heap.size W1 wv)) (fun s5 _ => m - (intOf s5).toNat)
      case atStart => exact ⟨0, Nat.zero_le _, rfl, HV0⟩
      case round =>
        obtain ⟨v, hv, rfl, HV⟩ := hrel
        clear HV0 x0 x1
        obtain ⟨x0, x1⟩ := HKEEP.out _ HV.out.2
        by_cases hvm : v < m
        · have hvI : (v : Int) < (m : Int) := by omega
          have hv0 : (0 : Int) ≤ (v : Int) := by omega
          obtain ⟨ba, oa, rfl, hba, hca⟩ := (HI1.out.below (HV.out.2.mono (by have := HS1.out; omega))).at_ (k := i) (by rw [← HN.out]; exact hlt)
          rw [← HZZ.out] at hca
          have hbt := bt_int hz0 hz64 (show v < 6 by omega)
          cases hb : Bt v z
          · rw [hb] at hbt
            simp only [Bool.false_eq_true, if_false] at hbt
            have HV2 : Hid (Nums wr W1.heap.size 3 (halfL L L' m (v + 1)) ∧ Below W1.heap.size W1 wr) := Lib.hid (by rw [half_keep (by rw [HST.out, hb]; rfl)]; exact HV.out)
            clear hb
            go_wp2
            go_roundw
            case rel => exact ⟨v + 1, by omega, by go_num, HV2⟩
            case measure => simp [intOf]; omega
          · rw [hb] at hbt
            simp only [if_true] at hbt
            obtain ⟨y, rfl⟩ : ∃ y : Nat, z = (y : Int) := ⟨z.toNat, by omega⟩
            rw [Int.toNat_natCast] at hz64
            have hLv := HLT.out v (by omega)
            have hE : L' v = L v ||| woP y v := by rw [HST.out, hb, Int.toNat_natCast]; rfl
            have hwo := wow_at y v hz64 (by omega)
            have hwl : woP y v < 64 := Nat.lt_of_le_of_lt (wo_le _ _) hz64
            have hor := or6_at (L v) (woP y v) hLv hwl
            rw [← hE] at hor
            have c1 := HV.out.1.cell v (by unfold halfL; rw [rowL_len]; exact hvm)
            rw [half_at hvm] at c1
            have f1 := HV.out.1.frozen v
            obtain ⟨u, hu⟩ : ∃ u, u = woP y v := ⟨_, rfl⟩
            obtain ⟨p, hp⟩ : ∃ p, p = L v := ⟨_, rfl⟩
            obtain ⟨p', hp'⟩ : ∃ p', p' = L' v := ⟨_, rfl⟩
            rw [← hu] at hwo hor
            rw [← hp] at hor c1
            rw [← hp'] at hor
            have hp2 := p2_small v (by omega)
            have HR : Hid (Nums (wr.drew.setCell ⟨W1.heap.size, v, none⟩ (.int .i64 (p' : Int))) W1.heap.size 3 (halfL L L' m (v + 1)) ∧ Below W1.heap.size W1 (wr.drew.setCell ⟨W1.heap.size, v, none⟩ (.int .i64 (p' : Int)))) := Lib.hid ⟨by rw [half_set, hp']; exact Nums.set (W := wr.drew) HV.out.1 v _, (HV.out.2.drew).setCell (p := ⟨W1.heap.size, v, none⟩) (Nat.le_refl _) _⟩
            clear hb hE hu hp hp' hLv hwl
            go_wp2
            go_still_tail 16, (by kernel_rfl)
            repeat still_step
            try rw [hwo]
            repeat still_step
            try rw [hor]
            repeat still_step
            try refine wpStill_nil ?_
            change wpList _ _ _ _ _ wr.drew
            go_wp2
            go_roundw
            case rel => exact ⟨v + 1, by omega, by go_num, HR⟩
            case measure => simp [intOf]; omega
        · obtain rfl : v = m := by omega
          have HR : Hid (Nums wr W1.heap.size 3 (rowL (prU (zs.take (i + 1))) v) ∧ Below W1.heap.size W1 wr) := Lib.hid (by have := HV.out; rw [half_all, HL'.out] at this; exact this)
          go_wp2
          go_roundw
          case rel => exact ⟨i + 1, by omega, by go_num, HR⟩
          case measure => simp [intOf]; omega
    · obtain rfl : i = n := by omega
      have HR : Hid (Nums wo W1.heap.size 3 (rowL (prU zs) m) ∧ Below w.heap.size w wo) := Lib.hid ⟨by have := HS.out.1; rwa [HN.out, List.take_length] at this, HB1.out.trans (HS.out.2.mono (by have := HS1.out; omega))⟩
      go_wp2
      go_ret
      exact ⟨W1.heap.size, rfl, by have := HS1.out; omega, HR.out⟩

end Go.Proofs.YtnpfdgbbcapnkaaDoor
