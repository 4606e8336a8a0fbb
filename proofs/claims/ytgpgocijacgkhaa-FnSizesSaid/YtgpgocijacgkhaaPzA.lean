/- It is proved that the sizes of a set and of its others are all members; conditions: those of each statement. -/
import Derived.Test.YtgpgocijacgkhaaRows
import Derived.WalkKit
import Derived.WalkSpells
import Derived.ProofKit
import Derived.OpenShut
import Derived.ShutString
import Derived.ChangeOld
import Derived.Below
import Derived.Deep.RegionHeld3
import Derived.Deep.QuietTactic
import Derived.BigQuiet
import Derived.Lib.Hide
import Derived.Lib.SmallJoins
import Derived.Outline
import Derived.Laws.MakeOwn
import Derived.Laws.OwnMore
import Derived.IntWalk
import Derived.Deep.RegionLaw
import Derived.Deep.AppendLies
import Derived.RangeFuncNested
import Derived.RangeFuncBound
import Derived.RangeFuncCalls
import Derived.RangeFuncLeaves
import Derived.RangeFuncBox
import Derived.Shelf.Abstract
import Derived.Shelf.RegionOpen
import Derived.OwnWalkIn
import Derived.TacticsInMore
import Derived.LoopNIn
import Derived.LoopIn
import Derived.Maps.AppendAt
import Derived.OwnWalk
import Derived.Shelf.Spec.TrailingZeros
import Derived.Test.YtgpgocijacgkhaaD
import Derived.Test.YtgpgocijacgkhaaDa
import Derived.Test.YtgpgocijacgkhaaDb
import Derived.Test.YtgpgocijacgkhaaDd
import Derived.Test.YtgpgocijacgkhaaDe
import Derived.Test.YtgpgocijacgkhaaE
import Derived.Test.YtgpgocijacgkhaaF
import Derived.Test.YtgpgocijacgkhaaFb
import Derived.Test.YtgpgocijacgkhaaH
import Derived.Test.YtgpgocijacgkhaaSa
import Derived.Test.YtgpgocijacgkhaaY
import Derived.Test.YtgpgocijacgkhaaZa
import Derived.Test.YtgpgocijacgkhaaZb
import Derived.Test.YtgpgocijacgkhaaZc
namespace Go.Proofs.Ytgpgocijacgkhaa
open Go.RowKit

set_option maxRecDepth 100000 in
theorem pop_other_fin : ∀ k : Fin 6, ∀ z : Fin 64, (z.val : Int) ≤ fullI ((k.val : Int) + 1) → pop (z.val : Int) + pop (bits .andNot .i64 (fullI ((k.val : Int) + 1)) (z.val : Int)) = (k.val : Int) + 1 := by decide +kernel

theorem pop_other {m z : Int} (h1 : 1 ≤ m) (h2 : m ≤ 6) (h3 : 0 ≤ z) (h4 : z ≤ fullI m) : pop z + pop (bits .andNot .i64 (fullI m) z) = m := by
  have h5 := fullI_63 h1 h2
  have := pop_other_fin ⟨(m - 1).toNat, by omega⟩ ⟨z.toNat, by omega⟩
  simp only [Int.toNat_of_nonneg (show 0 ≤ m - 1 by omega), Int.toNat_of_nonneg h3, show m - 1 + 1 = m by omega] at this
  exact this h4

set_option maxRecDepth 100000 in
theorem other_in_fin : ∀ k : Fin 6, ∀ z : Fin 64, (z.val : Int) ≤ fullI ((k.val : Int) + 1) → 0 ≤ bits .andNot .i64 (fullI ((k.val : Int) + 1)) (z.val : Int) ∧ bits .andNot .i64 (fullI ((k.val : Int) + 1)) (z.val : Int) ≤ fullI ((k.val : Int) + 1) := by decide +kernel

theorem other_in {m z : Int} (h1 : 1 ≤ m) (h2 : m ≤ 6) (h3 : 0 ≤ z) (h4 : z ≤ fullI m) : 0 ≤ bits .andNot .i64 (fullI m) z ∧ bits .andNot .i64 (fullI m) z ≤ fullI m := by
  have h5 := fullI_63 h1 h2
  have := other_in_fin ⟨(m - 1).toNat, by omega⟩ ⟨z.toNat, by omega⟩
  simp only [Int.toNat_of_nonneg (show 0 ≤ m - 1 by omega), Int.toNat_of_nonneg h3, show m - 1 + 1 = m by omega] at this
  exact this h4

theorem other_fam {m : Int} {zs : List Int} (h : famIn m zs = true) : famIn m (zs.map fun z => bits .andNot .i64 (fullI m) z) = true := by
  obtain ⟨h1, h2, h3, h4⟩ := famIn_out h
  simp only [famIn, Bool.and_eq_true, decide_eq_true_eq, List.all_eq_true, List.mem_map, List.length_map]
  refine ⟨inB_true h1 h2, h3, ?_⟩
  rintro _ ⟨z, hz, rfl⟩
  obtain ⟨h5, h6⟩ := other_in h1 h2 (h4 z hz).1 (h4 z hz).2
  exact inB_true h5 h6

set_option maxRecDepth 100000 in
set_option maxHeartbeats 4000000 in
theorem walkFnSizes (a : Option Addr) (n cap : Nat) (w : World) (hb : Bys w w.heap.size a n) (hn : n ≤ 1048576) (hc : n ≤ cap) (hc2 : cap ≤ 9223372036854775807) :
    Calls Try.prog 3 #[.slice a n cap] w fun e w' => e = .returned (.bool true) ∧ Below w.heap.size w w' := by
  have HBy := Lib.hid hb
  clear hb
  go_enter Try.func3, Try.ntmps3
  go_wp2_with fail
  refine (drawSizes_any a n cap w HBy.out hn hc hc2).mono ?_
  rintro e w1 ⟨m, a1, zs, c1, rfl, hl, ho1, hb1⟩
  have F1 := FB.start (m := m) (c := c1) (own_ints ho1)
  have B1 := Lib.hid (hb1.trans ((below1 w1 (.cells #[.int .i64 m, .slice a1 zs.length c1] 25)).mono hb1.size))
  have x0 := F1.x0
  have x1 := F1.x1
  have hln : zs.length ≤ 1048576 := by omega
  have HF1 := Lib.hid F1
  have HI := Lib.hid (fun W hz => implSizes_any m a1 c1 zs W hz hln)
  have HSp := Lib.hid (fun W hz => specSizes_any m a1 c1 zs W hz hln)
  obtain ⟨ys, hys⟩ : ∃ ys, ys = sizesZ m zs := ⟨_, rfl⟩
  have hyl : ys.length ≤ 1048576 := by rw [hys]; unfold sizesZ; split <;> simp; omega
  rw [← hys] at HI HSp
  have HYS := Lib.hid hys
  clear F1 ho1 hb1 hys
  go_wp2_with fail
  refine (HI.out _ HF1.out.ints).mono ?_
  rintro e w2 ⟨a2, c2, rfl, ho2, hb2⟩
  have L2 := Lib.hid (own_ints ho2)
  have B2 := Lib.hid (B1.out.trans (hb2.mono B1.out.size))
  have HF2 := Lib.hid (HF1.out.step hb2)
  have x0 := HF2.out.x0
  have x1 := HF2.out.x1
  clear ho2 hb2 HF1 B1
  go_wp2_with fail
  refine (HSp.out _ HF2.out.ints).mono ?_
  rintro e w3 ⟨a3, c3, rfl, ho3, hb3⟩
  have L3 := Lib.hid (own_ints ho3)
  have L23 := Lib.hid (L2.out.step hb3)
  have B3 := Lib.hid (B2.out.trans (hb3.mono B2.out.size))
  have HF3 := Lib.hid (HF2.out.step hb3)
  have x0 := HF3.out.x0
  have x1 := HF3.out.x1
  clear ho3 hb3 HF2 B2 L2
  cases hd : famIn m zs
  · clear hd HYS
    go_wp2_with fail
    refine (sameInts_any _ _ _ _ _ _ _ L23.out L3.out hyl hyl).mono ?_
    rintro e w4 ⟨rfl, hb4⟩
    rw [sameB_refl]
    have B4 := Lib.hid (B3.out.trans (hb4.mono B3.out.size))
    have L24 := Lib.hid (L23.out.step hb4)
    have L34 := Lib.hid (L3.out.step hb4)
    clear hb4
    go_wp2_with fail
    refine (sameInts_any _ _ _ _ _ _ _ L24.out L34.out hyl hyl).mono ?_
    rintro e w5 ⟨rfl, hb5⟩
    rw [sameB_refl]
    have B5 := Lib.hid (B4.out.trans (hb5.mono B4.out.size))
    clear hb5
    go_wp2
    go_ret
    exact ⟨rfl, B5.out⟩
  · have HD := Lib.hid hd
    clear hd
    go_wp2_with fail
    refine (sameInts_any _ _ _ _ _ _ _ L23.out L3.out hyl hyl).mono ?_
    rintro e w4 ⟨rfl, hb4⟩
    rw [sameB_refl]
    have B4 := Lib.hid (B3.out.trans (hb4.mono B3.out.size))
    have L24 := Lib.hid (L23.out.step hb4)
    have HF4 := Lib.hid (HF3.out.step hb4)
    have x0 := HF4.out.x0
    have x1 := HF4.out.x1
    clear hb4 B3 L23 L3 HF3
    go_wp2_with fail
    refine (implOther_any m a1 c1 zs _ HF4.out.ints hln).mono ?_
    rw [HD.out]
    obtain ⟨os, hos⟩ : ∃ os, os = otherZ m zs := ⟨_, rfl⟩
    obtain ⟨M, hM⟩ : ∃ M, M = otherM m zs := ⟨_, rfl⟩
    rw [← hos, ← hM]
    have HOS := Lib.hid hos
    have HM := Lib.hid hM
    have hol : os.length ≤ 1048576 := by rw [hos]; exact otherZ_len m zs hln
    clear hos hM
    rintro e w5 ⟨a5, c5, rfl, ho5, hb5⟩
    have F5 := FB.start (m := M) (c := c5) (own_ints ho5)
    have hb5' := hb5.trans ((below1 w5 (.cells #[.int .i64 M, .slice a5 os.length c5] 25)).mono hb5.size)
    have B5 := Lib.hid (B4.out.trans (hb5'.mono B4.out.size))
    have L25 := Lib.hid (L24.out.step hb5')
    have HF15 := Lib.hid (HF4.out.step hb5')
    have HF5 := Lib.hid F5
    have y0 := HF5.out.x0
    have y1 := HF5.out.x1
    clear F5 ho5 hb5 hb5' B4 L24 HF4 x0 x1
    go_wp2_with fail
    refine (implSizes_any M a5 c5 os _ HF5.out.ints hol).mono ?_
    have hx1 : famIn M os = true := by
      rw [HM.out, HOS.out]; unfold otherM otherZ; rw [HD.out]; exact other_fam HD.out
    rw [hx1]
    obtain ⟨xs, hxs⟩ : ∃ xs, xs = sizesZ M os := ⟨_, rfl⟩
    rw [← hxs]
    have HXS : Hid (xs.length = ys.length ∧ ∀ k, k < ys.length → ys[k]?.getD 0 + xs[k]?.getD 0 = m) := Lib.hid (by
      obtain ⟨h1, h2, h3, h4⟩ := famIn_out HD.out
      have e1 : ys = zs.map pop := by rw [HYS.out, sizesZ, if_pos HD.out]
      have e2 : os = zs.map fun z => bits .andNot .i64 (fullI m) z := by rw [HOS.out, otherZ, if_pos HD.out]
      have e3 : xs = os.map pop := by rw [hxs, sizesZ, if_pos hx1]
      rw [e3, e2, e1]
      refine ⟨by simp, fun k hk => ?_⟩
      have hk' : k < zs.length := by simpa using hk
      simp only [List.getElem?_map, List.getElem?_eq_getElem hk', Option.map_some, Option.getD_some]
      exact pop_other h1 h2 (h4 _ (List.getElem_mem _)).1 (h4 _ (List.getElem_mem _)).2)
    clear hxs hx1
    rintro e w6 ⟨a6, c6, rfl, ho6, hb6⟩
    have hm6 : m ≤ 6 := (famIn_out HD.out).2.1
    have hm1 : 1 ≤ m := (famIn_out HD.out).1
    have L6 := Lib.hid (own_ints ho6)
    have B6 := Lib.hid (B5.out.trans (hb6.mono B5.out.size))
    have L26 := Lib.hid (L25.out.step hb6)
    have HF6 := Lib.hid (HF15.out.step hb6)
    have x0 := HF6.out.x0
    have hxl : xs.length = ys.length := HXS.out.1
    have HXL := Lib.hid hxl
    obtain ⟨Z, hZ⟩ : ∃ Z, Z = ys.length := ⟨_, rfl⟩
    have HZ := Lib.hid hZ
    have hz6 : Z ≤ 1048576 := by rw [hZ]; exact hyl
    rw [hxl, ← hZ]
    clear ho6 hb6 L25 B5 HF15 HF5 y0 y1 HOS HM hol hxl hZ hyl hl hln HYS HI HSp
    go_wp2
    go_loopw [12] (fun i wr => ∃ k : Nat, k ≤ Z ∧ i = .int .i64 (k : Int) ∧ Below w6.heap.size w6 wr) (fun i _ => Z - (intOf i).toNat)
    case atStart => exact ⟨0, Nat.zero_le _, rfl, Below.refl _ _⟩
    case round =>
      obtain ⟨k, hk, rfl, hB⟩ := hrel
      have x0 := (hB.cell (p := ⟨w1.heap.size, 0, none⟩) (lt_of_some HF6.out.blk)).trans HF6.out.x0
      by_cases hlt : k < Z
      · obtain ⟨b1, o1, rfl, hb1, hc1⟩ := L26.out.at_ (k := k) (by rw [← HZ.out]; exact hlt)
        obtain ⟨b2, o2, rfl, hb2, hc2⟩ := L6.out.at_ (k := k) (by rw [HXL.out, ← HZ.out]; exact hlt)
        have v1 := (hB.cell (p := ⟨b1, o1 + k, none⟩) hb1).trans hc1
        have v2 := (hB.cell (p := ⟨b2, o2 + k, none⟩) hb2).trans hc2
        have hW := wrap_add (HXS.out.2 k (by rw [← HZ.out]; exact hlt)) (by omega) (by omega)
        obtain ⟨p, hp⟩ : ∃ p, p = ys[k]?.getD 0 := ⟨_, rfl⟩
        obtain ⟨q, hq⟩ : ∃ q, q = xs[k]?.getD 0 := ⟨_, rfl⟩
        rw [← hp] at v1 hW
        rw [← hq] at v2 hW
        have hj0 : (0 : Int) ≤ (k : Int) := by omega
        have hj1 : (k : Int) < (Z : Int) := by omega
        have HB := Lib.hid hB
        clear hB hc1 hc2 hp hq
        go_wp2
        go_quiet (fail)
        go_wp2
        go_roundw
        case rel => exact ⟨k + 1, by omega, by go_num, below_drewN HB.out _⟩
        case measure => simp [intOf]; omega
      · have HD := Lib.hid (B6.out.trans (hB.mono B6.out.size))
        clear hB
        go_wp2
        go_ret
        exact ⟨rfl, HD.out⟩

end Go.Proofs.Ytgpgocijacgkhaa
