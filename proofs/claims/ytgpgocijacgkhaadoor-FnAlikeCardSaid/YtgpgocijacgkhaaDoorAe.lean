/- It is proved what the method and of a naming returns; conditions: those of each statement. -/
import Derived.Deep.QuietTactic
import Derived.Laws.CopyRow
import Derived.Lib.SlBuf
import Derived.Test.YtgpgocijacgkhaaDoorRows
import Derived.WalkKit
import Derived.WalkSpells
import Derived.ProofKit
import Derived.OpenShut
import Derived.ShutString
import Derived.ChangeOld
import Derived.Below
import Derived.Deep.RegionHeld3
import Derived.BigQuiet
import Derived.Lib.Hide
import Derived.Lib.SmallJoins
import Derived.Outline
import Derived.Laws.MakeOwn
import Derived.Laws.OwnMore
import Derived.IntWalk
import Derived.Lib.AppendZeros
import Derived.Maps.AppendAt
import Derived.Deep.AppendLies
import Derived.OwnWalk
import Derived.RangeFuncNested
import Derived.RangeFuncBound
import Derived.RangeFuncCalls
import Derived.RangeFuncLeaves
import Derived.RangeFuncBox
import Derived.Shelf.Abstract
import Derived.Shelf.RegionOpen
import Derived.OwnWalkIn
import Derived.TacticsInMore
import Derived.LoopNIn
import Derived.LoopIn
import Derived.Shelf.Spec.TrailingZeros
import Derived.Test.YtgpgocijacgkhaaDoorRabdxFnAlik
import Derived.Test.YtgpgocijacgkhaaDoorRabjxFnAlik
import Derived.Test.YtgpgocijacgkhaaDoorRaaa
import Derived.Test.YtgpgocijacgkhaaDoorRaab
import Derived.Test.YtgpgocijacgkhaaDoorRaah
import Derived.Test.YtgpgocijacgkhaaDoorRaac
import Derived.Test.YtgpgocijacgkhaaDoorRaae
namespace Go.Proofs.YtgpgocijacgkhaaDoor
open Go.RowKit Go.Shelf

set_option maxRecDepth 100000 in
set_option maxHeartbeats 2000000 in
theorem and_any (xs : List Int) (hl : xs.length = 13) (hm0 : (0 : Int) ≤ xs[6]?.getD 0) (hm1 : xs[6]?.getD 0 ≤ 1000000) (hc : ∀ i, 7 ≤ i → i < 13 → ∃ q : Nat, q < 64 ∧ xs[i]?.getD 0 = (q : Int))
    (a : Option Addr) (c : Nat) (ps : List Int) (hp : ps.length ≤ 6) (hp0 : 1 ≤ ps.length) (hpv : ∀ v, v < ps.length → ∃ q : Nat, q < 6 ∧ ps[v]?.getD 0 = (q : Int)) (w : World) (ha : Ints w w.heap.size a ps) :
    Calls Tryd.prog 100 #[.agg (iv xs), .slice a ps.length c] w fun e w' => e = .returned (.agg (iv (andL xs ps))) ∧ Below w.heap.size w w' := by
  obtain ⟨m, hm⟩ : ∃ m, m = xs[6]?.getD 0 := ⟨_, rfl⟩
  have h6 : (iv xs)[6]? = some (.int .i64 m) := by rw [hm]; exact iv_at xs 6 (by omega)
  obtain ⟨W3, hcp, hN3, hZ3, hB3⟩ := copy_first xs ps hl hp hp0 a c w ha
  have q0 := alloc2_0 w (.cells (iv xs) 102) (.cells z13 102)
  have q1 := alloc2_1 w (.cells (iv xs) 102) (.cells z13 102)
  have b2 := below2 w (.cells (iv xs) 102) (.cells z13 102)
  unfold z13 at hcp q0 q1 b2
  obtain ⟨n, hn⟩ : ∃ n, n = ps.length := ⟨_, rfl⟩
  have HN := Lib.hid hn
  have HA := Lib.hid ha
  have HC := Lib.hid hc
  have HPV := Lib.hid hpv
  have HL := Lib.hid hl
  have HM := Lib.hid hm
  rw [← hn] at hcp hp hp0 ⊢
  rw [← hm] at hm0 hm1
  have hm3 : m < 9223372036854775807 := by omega
  have HMM : Hid (IntKind.i64.wrap (m + 1) = m + 1) := Lib.hid (IntWalk.i64_in _ (by omega))
  by_cases hz : m = 0
  · have hF : Nums W3 w.heap.size 102 (andF xs ps) := by rw [andF, if_pos (by rw [← HM.out]; exact hz)]; exact hN3
    have hlf : (andF xs ps).length = 13 := by rw [andF_len (by omega), hl]
    have c6 := hF.cell 6 (by omega)
    have h6' : (andF xs ps)[6]?.getD 0 = 0 := by
      rw [andF, if_pos (by rw [← HM.out]; exact hz), List.getElem?_append_right (by omega), List.getElem?_drop, show ps.length + (6 - ps.length) = 6 from by omega, ← HM.out]; exact hz
    rw [h6'] at c6
    have f6 := hF.frozen 6
    have HG : Hid (Nums (W3.setCell ⟨w.heap.size, 6, none⟩ (.int .i64 1)) w.heap.size 102 (andC (andM xs ps) ps 0)) := Lib.hid (by
      have := hF.set 6 1
      rw [show andC (andM xs ps) ps 0 = (andF xs ps).set 6 1 from by rw [andC, andM, ← HM.out, hz]; rfl]
      exact this)
    have HZ1 : Hid (HasBlk (W3.setCell ⟨w.heap.size, 6, none⟩ (.int .i64 1)) (w.heap.size + 1) z13 102) := Lib.hid (HasBlk.far hZ3 (show w.heap.size + 1 ≠ w.heap.size by omega) _)
    have HB1 : Hid (Below w.heap.size w (W3.setCell ⟨w.heap.size, 6, none⟩ (.int .i64 1))) := Lib.hid (hB3.setCell (p := ⟨w.heap.size, 6, none⟩) (Nat.le_refl _) _)
    subst hz
    clear ha hc hpv hl hm hn q0 q1 b2 hN3 hZ3 hB3 hF hlf h6'
    go_enter Tryd.func100, Tryd.ntmps100
    go_wp2_with (at_builtin; refine Lib.wpList_copy_run _ rfl _ _ 23 23 rfl _ _ rfl rfl (hcp _) ?_)
    go_loopw [20] (fun i wr => ∃ k : Nat, k ≤ n ∧ i = .int .i64 (k : Int) ∧ Nums wr w.heap.size 102 (andC (andM xs ps) ps k) ∧ HasBlk wr (w.heap.size + 1) z13 102 ∧ Below w.heap.size w wr) (fun i _ => n - (intOf i).toNat)
    case atStart => exact ⟨0, Nat.zero_le _, rfl, HG.out, HZ1.out, HB1.out⟩
    case round =>
      obtain ⟨k, hk, rfl, hG, hZ, hB⟩ := hrel
      by_cases hlt : k < n
      · obtain ⟨b, off, rfl, hbb, hcc⟩ := HA.out.at_ (k := k) (by have := HN.out; omega)
        obtain ⟨q, hq6, hq⟩ := HPV.out k (by have := HN.out; omega)
        obtain ⟨x, hx64, hx⟩ := HC.out (7 + k) (by omega) (by omega)
        have c1 := (hB.cell (p := ⟨b, off + k, none⟩) hbb).trans hcc
        rw [hq] at c1
        have hl13 : (andC (andM xs ps) ps k).length = 13 := by rw [andC_len, andM_len (by have := HN.out; have := HL.out; omega), HL.out]
        have c2 := hG.cell (7 + k) (by omega)
        rw [andC_here (by have := HN.out; omega), hx] at c2
        have f2 := hG.frozen (7 + k)
        have HG2 : Hid (andC (andM xs ps) ps (k + 1) = (andC (andM xs ps) ps k).set (7 + k) (((x ||| 2 ^ q : Nat) : Int))) := Lib.hid (by rw [andC, andC_here (by have := HN.out; omega), hx, hq]; simp [orI])
        have hk0 : (0 : Int) ≤ (k : Int) := by omega
        have hk1 : (k : Int) < (n : Int) := by omega
        have hk6 : (k : Int) < 6 := by omega
        have HG0 := Lib.hid hG
        have HZ0 := Lib.hid hZ
        have HB0 := Lib.hid hB
        clear hG hZ hB hcc hq hx hl13
        go_wp2_with (go_at_call 62; refine (with_any x q (by omega) (by omega) _).mono ?_; rintro e w' ⟨rfl, rfl⟩)
        go_roundw
        case rel => exact ⟨k + 1, by omega, by go_num, by rw [HG2.out]; exact HG0.out.set _ _, HasBlk.far HZ0.out (show w.heap.size + 1 ≠ w.heap.size by omega) _, HB0.out.setCell (p := ⟨w.heap.size, 7 + k, none⟩) (Nat.le_refl _) _⟩
        case measure => simp [intOf]; omega
      · obtain rfl : k = n := by omega
        have HE : Hid (andC (andM xs ps) ps k = andL xs ps) := Lib.hid (by rw [andL, ← HN.out])
        rw [HE.out] at hG
        have hl13 : (andL xs ps).length = 13 := by rw [andL, andC_len, andM_len (by have := HN.out; have := HL.out; omega), HL.out]
        have HI := Lib.hid (iv13 hl13)
        have d0 := hG.cell 0 (by omega)
        have d1 := hG.cell 1 (by omega)
        have d2 := hG.cell 2 (by omega)
        have d3 := hG.cell 3 (by omega)
        have d4 := hG.cell 4 (by omega)
        have d5 := hG.cell 5 (by omega)
        have d6 := hG.cell 6 (by omega)
        have d7 := hG.cell 7 (by omega)
        have d8 := hG.cell 8 (by omega)
        have d9 := hG.cell 9 (by omega)
        have d10 := hG.cell 10 (by omega)
        have d11 := hG.cell 11 (by omega)
        have d12 := hG.cell 12 (by omega)
        have e0 : wr.cell? ⟨w.heap.size + 1, 0, none⟩ = some (.int .i64 0) := blk_cell hZ 0
        have g0 : wr.frozen? ⟨w.heap.size + 1, 0, none⟩ = false := blk_frozen hZ 0
        have e1 : wr.cell? ⟨w.heap.size + 1, 1, none⟩ = some (.int .i64 0) := blk_cell hZ 1
        have g1 : wr.frozen? ⟨w.heap.size + 1, 1, none⟩ = false := blk_frozen hZ 1
        have e2 : wr.cell? ⟨w.heap.size + 1, 2, none⟩ = some (.int .i64 0) := blk_cell hZ 2
        have g2 : wr.frozen? ⟨w.heap.size + 1, 2, none⟩ = false := blk_frozen hZ 2
        have e3 : wr.cell? ⟨w.heap.size + 1, 3, none⟩ = some (.int .i64 0) := blk_cell hZ 3
        have g3 : wr.frozen? ⟨w.heap.size + 1, 3, none⟩ = false := blk_frozen hZ 3
        have e4 : wr.cell? ⟨w.heap.size + 1, 4, none⟩ = some (.int .i64 0) := blk_cell hZ 4
        have g4 : wr.frozen? ⟨w.heap.size + 1, 4, none⟩ = false := blk_frozen hZ 4
        have e5 : wr.cell? ⟨w.heap.size + 1, 5, none⟩ = some (.int .i64 0) := blk_cell hZ 5
        have g5 : wr.frozen? ⟨w.heap.size + 1, 5, none⟩ = false := blk_frozen hZ 5
        have e6 : wr.cell? ⟨w.heap.size + 1, 6, none⟩ = some (.int .i64 0) := blk_cell hZ 6
        have g6 : wr.frozen? ⟨w.heap.size + 1, 6, none⟩ = false := blk_frozen hZ 6
        have e7 : wr.cell? ⟨w.heap.size + 1, 7, none⟩ = some (.int .i64 0) := blk_cell hZ 7
        have g7 : wr.frozen? ⟨w.heap.size + 1, 7, none⟩ = false := blk_frozen hZ 7
        have e8 : wr.cell? ⟨w.heap.size + 1, 8, none⟩ = some (.int .i64 0) := blk_cell hZ 8
        have g8 : wr.frozen? ⟨w.heap.size + 1, 8, none⟩ = false := blk_frozen hZ 8
        have e9 : wr.cell? ⟨w.heap.size + 1, 9, none⟩ = some (.int .i64 0) := blk_cell hZ 9
        have g9 : wr.frozen? ⟨w.heap.size + 1, 9, none⟩ = false := blk_frozen hZ 9
        have e10 : wr.cell? ⟨w.heap.size + 1, 10, none⟩ = some (.int .i64 0) := blk_cell hZ 10
        have g10 : wr.frozen? ⟨w.heap.size + 1, 10, none⟩ = false := blk_frozen hZ 10
        have e11 : wr.cell? ⟨w.heap.size + 1, 11, none⟩ = some (.int .i64 0) := blk_cell hZ 11
        have g11 : wr.frozen? ⟨w.heap.size + 1, 11, none⟩ = false := blk_frozen hZ 11
        have e12 : wr.cell? ⟨w.heap.size + 1, 12, none⟩ = some (.int .i64 0) := blk_cell hZ 12
        have g12 : wr.frozen? ⟨w.heap.size + 1, 12, none⟩ = false := blk_frozen hZ 12
        have HZ0 := Lib.hid hZ
        have HB0 := Lib.hid hB
        clear hG hZ hB hl13
        go_wp2
        refine bodyPost_ret (v := .agg (iv (andL xs ps))) ?_ rfl ?_
        · rw [← HI.out]
          simp [results, Tryd.results100, go_sem, e0, e1, e2, e3, e4, e5, e6, e7, e8, e9, e10, e11, e12]
        · have st : ∀ (W : World) (i : Nat) (v : Value), Below w.heap.size w W → Below w.heap.size w (W.setCell ⟨w.heap.size + 1, i, none⟩ v) := fun W i v h => h.setCell (p := ⟨w.heap.size + 1, i, none⟩) (Nat.le_succ _) v
          exact ⟨rfl, (st _ _ _ (st _ _ _ (st _ _ _ (st _ _ _ (st _ _ _ (st _ _ _ (st _ _ _ (st _ _ _ (st _ _ _ (st _ _ _ (st _ _ _ (st _ _ _ (st _ _ _ HB0.out)))))))))))))⟩
  · have hF : andF xs ps = xs := by rw [andF, if_neg (by rw [← HM.out]; exact hz)]
    have HG : Hid (Nums ((w.alloc (.cells ((iv xs).setIfInBounds 6 (.int .i64 (m + 1))) 102)).alloc (.cells #[Value.int IntKind.i64 0, Value.int IntKind.i64 0, Value.int IntKind.i64 0, Value.int IntKind.i64 0, Value.int IntKind.i64 0, Value.int IntKind.i64 0, Value.int IntKind.i64 0, Value.int IntKind.i64 0, Value.int IntKind.i64 0, Value.int IntKind.i64 0, Value.int IntKind.i64 0, Value.int IntKind.i64 0, Value.int IntKind.i64 0] 102)) w.heap.size 102 (andC (andM xs ps) ps 0)) := Lib.hid (by
      have := alloc2_0 w (.cells ((iv xs).setIfInBounds 6 (.int .i64 (m + 1))) 102) (.cells #[Value.int IntKind.i64 0, Value.int IntKind.i64 0, Value.int IntKind.i64 0, Value.int IntKind.i64 0, Value.int IntKind.i64 0, Value.int IntKind.i64 0, Value.int IntKind.i64 0, Value.int IntKind.i64 0, Value.int IntKind.i64 0, Value.int IntKind.i64 0, Value.int IntKind.i64 0, Value.int IntKind.i64 0, Value.int IntKind.i64 0] 102)
      rw [show andC (andM xs ps) ps 0 = xs.set 6 (m + 1) from by rw [andC, andM, ← HM.out, hF]]
      unfold Nums HasBlk
      rw [this]
      simp [iv, List.map_set])
    have HZ1 : Hid (HasBlk ((w.alloc (.cells ((iv xs).setIfInBounds 6 (.int .i64 (m + 1))) 102)).alloc (.cells #[Value.int IntKind.i64 0, Value.int IntKind.i64 0, Value.int IntKind.i64 0, Value.int IntKind.i64 0, Value.int IntKind.i64 0, Value.int IntKind.i64 0, Value.int IntKind.i64 0, Value.int IntKind.i64 0, Value.int IntKind.i64 0, Value.int IntKind.i64 0, Value.int IntKind.i64 0, Value.int IntKind.i64 0, Value.int IntKind.i64 0] 102)) (w.heap.size + 1) z13 102) := Lib.hid (alloc2_1 w (.cells ((iv xs).setIfInBounds 6 (.int .i64 (m + 1))) 102) (.cells #[Value.int IntKind.i64 0, Value.int IntKind.i64 0, Value.int IntKind.i64 0, Value.int IntKind.i64 0, Value.int IntKind.i64 0, Value.int IntKind.i64 0, Value.int IntKind.i64 0, Value.int IntKind.i64 0, Value.int IntKind.i64 0, Value.int IntKind.i64 0, Value.int IntKind.i64 0, Value.int IntKind.i64 0, Value.int IntKind.i64 0] 102))
    have HB1 := Lib.hid (below2 w (.cells ((iv xs).setIfInBounds 6 (.int .i64 (m + 1))) 102) (.cells #[Value.int IntKind.i64 0, Value.int IntKind.i64 0, Value.int IntKind.i64 0, Value.int IntKind.i64 0, Value.int IntKind.i64 0, Value.int IntKind.i64 0, Value.int IntKind.i64 0, Value.int IntKind.i64 0, Value.int IntKind.i64 0, Value.int IntKind.i64 0, Value.int IntKind.i64 0, Value.int IntKind.i64 0, Value.int IntKind.i64 0] 102))
    have hz' : (m == 0) = false := by simp [hz]
    clear ha hc hpv hl hm hn q0 q1 b2 hN3 hZ3 hB3 hF hcp
    go_enter Tryd.func100, Tryd.ntmps100
    go_wp2
    go_loopw [20] (fun i wr => ∃ k : Nat, k ≤ n ∧ i = .int .i64 (k : Int) ∧ Nums wr w.heap.size 102 (andC (andM xs ps) ps k) ∧ HasBlk wr (w.heap.size + 1) z13 102 ∧ Below w.heap.size w wr) (fun i _ => n - (intOf i).toNat)
    case atStart => exact ⟨0, Nat.zero_le _, rfl, HG.out, HZ1.out, HB1.out⟩
    case round =>
      obtain ⟨k, hk, rfl, hG, hZ, hB⟩ := hrel
      by_cases hlt : k < n
      · obtain ⟨b, off, rfl, hbb, hcc⟩ := HA.out.at_ (k := k) (by have := HN.out; omega)
        obtain ⟨q, hq6, hq⟩ := HPV.out k (by have := HN.out; omega)
        obtain ⟨x, hx64, hx⟩ := HC.out (7 + k) (by omega) (by omega)
        have c1 := (hB.cell (p := ⟨b, off + k, none⟩) hbb).trans hcc
        rw [hq] at c1
        have hl13 : (andC (andM xs ps) ps k).length = 13 := by rw [andC_len, andM_len (by have := HN.out; have := HL.out; omega), HL.out]
        have c2 := hG.cell (7 + k) (by omega)
        rw [andC_here (by have := HN.out; omega), hx] at c2
        have f2 := hG.frozen (7 + k)
        have HG2 : Hid (andC (andM xs ps) ps (k + 1) = (andC (andM xs ps) ps k).set (7 + k) (((x ||| 2 ^ q : Nat) : Int))) := Lib.hid (by rw [andC, andC_here (by have := HN.out; omega), hx, hq]; simp [orI])
        have hk0 : (0 : Int) ≤ (k : Int) := by omega
        have hk1 : (k : Int) < (n : Int) := by omega
        have hk6 : (k : Int) < 6 := by omega
        have HG0 := Lib.hid hG
        have HZ0 := Lib.hid hZ
        have HB0 := Lib.hid hB
        clear hG hZ hB hcc hq hx hl13
        go_wp2_with (go_at_call 62; refine (with_any x q (by omega) (by omega) _).mono ?_; rintro e w' ⟨rfl, rfl⟩)
        go_roundw
        case rel => exact ⟨k + 1, by omega, by go_num, by rw [HG2.out]; exact HG0.out.set _ _, HasBlk.far HZ0.out (show w.heap.size + 1 ≠ w.heap.size by omega) _, HB0.out.setCell (p := ⟨w.heap.size, 7 + k, none⟩) (Nat.le_refl _) _⟩
        case measure => simp [intOf]; omega
      · obtain rfl : k = n := by omega
        have HE : Hid (andC (andM xs ps) ps k = andL xs ps) := Lib.hid (by rw [andL, ← HN.out])
        rw [HE.out] at hG
        have hl13 : (andL xs ps).length = 13 := by rw [andL, andC_len, andM_len (by have := HN.out; have := HL.out; omega), HL.out]
        have HI := Lib.hid (iv13 hl13)
        have d0 := hG.cell 0 (by omega)
        have d1 := hG.cell 1 (by omega)
        have d2 := hG.cell 2 (by omega)
        have d3 := hG.cell 3 (by omega)
        have d4 := hG.cell 4 (by omega)
        have d5 := hG.cell 5 (by omega)
        have d6 := hG.cell 6 (by omega)
        have d7 := hG.cell 7 (by omega)
        have d8 := hG.cell 8 (by omega)
        have d9 := hG.cell 9 (by omega)
        have d10 := hG.cell 10 (by omega)
        have d11 := hG.cell 11 (by omega)
        have d12 := hG.cell 12 (by omega)
        have e0 : wr.cell? ⟨w.heap.size + 1, 0, none⟩ = some (.int .i64 0) := blk_cell hZ 0
        have g0 : wr.frozen? ⟨w.heap.size + 1, 0, none⟩ = false := blk_frozen hZ 0
        have e1 : wr.cell? ⟨w.heap.size + 1, 1, none⟩ = some (.int .i64 0) := blk_cell hZ 1
        have g1 : wr.frozen? ⟨w.heap.size + 1, 1, none⟩ = false := blk_frozen hZ 1
        have e2 : wr.cell? ⟨w.heap.size + 1, 2, none⟩ = some (.int .i64 0) := blk_cell hZ 2
        have g2 : wr.frozen? ⟨w.heap.size + 1, 2, none⟩ = false := blk_frozen hZ 2
        have e3 : wr.cell? ⟨w.heap.size + 1, 3, none⟩ = some (.int .i64 0) := blk_cell hZ 3
        have g3 : wr.frozen? ⟨w.heap.size + 1, 3, none⟩ = false := blk_frozen hZ 3
        have e4 : wr.cell? ⟨w.heap.size + 1, 4, none⟩ = some (.int .i64 0) := blk_cell hZ 4
        have g4 : wr.frozen? ⟨w.heap.size + 1, 4, none⟩ = false := blk_frozen hZ 4
        have e5 : wr.cell? ⟨w.heap.size + 1, 5, none⟩ = some (.int .i64 0) := blk_cell hZ 5
        have g5 : wr.frozen? ⟨w.heap.size + 1, 5, none⟩ = false := blk_frozen hZ 5
        have e6 : wr.cell? ⟨w.heap.size + 1, 6, none⟩ = some (.int .i64 0) := blk_cell hZ 6
        have g6 : wr.frozen? ⟨w.heap.size + 1, 6, none⟩ = false := blk_frozen hZ 6
        have e7 : wr.cell? ⟨w.heap.size + 1, 7, none⟩ = some (.int .i64 0) := blk_cell hZ 7
        have g7 : wr.frozen? ⟨w.heap.size + 1, 7, none⟩ = false := blk_frozen hZ 7
        have e8 : wr.cell? ⟨w.heap.size + 1, 8, none⟩ = some (.int .i64 0) := blk_cell hZ 8
        have g8 : wr.frozen? ⟨w.heap.size + 1, 8, none⟩ = false := blk_frozen hZ 8
        have e9 : wr.cell? ⟨w.heap.size + 1, 9, none⟩ = some (.int .i64 0) := blk_cell hZ 9
        have g9 : wr.frozen? ⟨w.heap.size + 1, 9, none⟩ = false := blk_frozen hZ 9
        have e10 : wr.cell? ⟨w.heap.size + 1, 10, none⟩ = some (.int .i64 0) := blk_cell hZ 10
        have g10 : wr.frozen? ⟨w.heap.size + 1, 10, none⟩ = false := blk_frozen hZ 10
        have e11 : wr.cell? ⟨w.heap.size + 1, 11, none⟩ = some (.int .i64 0) := blk_cell hZ 11
        have g11 : wr.frozen? ⟨w.heap.size + 1, 11, none⟩ = false := blk_frozen hZ 11
        have e12 : wr.cell? ⟨w.heap.size + 1, 12, none⟩ = some (.int .i64 0) := blk_cell hZ 12
        have g12 : wr.frozen? ⟨w.heap.size + 1, 12, none⟩ = false := blk_frozen hZ 12
        have HZ0 := Lib.hid hZ
        have HB0 := Lib.hid hB
        clear hG hZ hB hl13
        go_wp2
        refine bodyPost_ret (v := .agg (iv (andL xs ps))) ?_ rfl ?_
        · rw [← HI.out]
          simp [results, Tryd.results100, go_sem, e0, e1, e2, e3, e4, e5, e6, e7, e8, e9, e10, e11, e12]
        · have st : ∀ (W : World) (i : Nat) (v : Value), Below w.heap.size w W → Below w.heap.size w (W.setCell ⟨w.heap.size + 1, i, none⟩ v) := fun W i v h => h.setCell (p := ⟨w.heap.size + 1, i, none⟩) (Nat.le_succ _) v
          exact ⟨rfl, (st _ _ _ (st _ _ _ (st _ _ _ (st _ _ _ (st _ _ _ (st _ _ _ (st _ _ _ (st _ _ _ (st _ _ _ (st _ _ _ (st _ _ _ (st _ _ _ (st _ _ _ HB0.out)))))))))))))⟩

end Go.Proofs.YtgpgocijacgkhaaDoor
