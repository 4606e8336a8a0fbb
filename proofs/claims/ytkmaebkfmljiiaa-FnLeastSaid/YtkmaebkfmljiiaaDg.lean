/- It is proved that the call of the law FnLeast returns true; conditions: those of each statement. -/
import Derived.Test.YtkmaebkfmljiiaaRows
import Derived.WalkKit
import Derived.WalkSpells
import Derived.ProofKit
import Derived.OpenShut
import Derived.ShutString
import Derived.ChangeOld
import Derived.Below
import Derived.Deep.RegionHeld3
import Derived.Deep.QuietTactic
import Derived.BigQuiet
import Derived.Lib.Hide
import Derived.Lib.SmallJoins
import Derived.Outline
import Derived.Laws.MakeOwn
import Derived.Laws.OwnMore
import Derived.IntWalk
import Derived.Deep.RegionLaw
import Derived.Deep.AppendLies
import Derived.RangeFuncNested
import Derived.RangeFuncBound
import Derived.RangeFuncCalls
import Derived.RangeFuncLeaves
import Derived.RangeFuncBox
import Derived.Shelf.Abstract
import Derived.Shelf.RegionOpen
import Derived.OwnWalkIn
import Derived.TacticsInMore
import Derived.LoopNIn
import Derived.LoopIn
import Derived.Maps.AppendAt
import Derived.Shelf.Spec.TrailingZeros
import Derived.OwnWalk
import Derived.Test.YtkmaebkfmljiiaaB
import Derived.Test.YtkmaebkfmljiiaaD
import Derived.Test.YtkmaebkfmljiiaaDa
import Derived.Test.YtkmaebkfmljiiaaDb
import Derived.Test.YtkmaebkfmljiiaaDd
import Derived.Test.YtkmaebkfmljiiaaDe
import Derived.Test.YtkmaebkfmljiiaaE
import Derived.Test.YtkmaebkfmljiiaaF
import Derived.Test.YtkmaebkfmljiiaaFb
import Derived.Test.YtkmaebkfmljiiaaH
import Derived.Test.YtkmaebkfmljiiaaL
import Derived.Test.YtkmaebkfmljiiaaSa
namespace Go.Proofs.Ytkmaebkfmljiiaa
open Go.RowKit

/-- One set is a part of another one, as the walk has it. -/
def partB (x y : Int) : Bool := bits .andNot .i64 x y == 0

set_option maxRecDepth 100000 in
set_option maxHeartbeats 8000000 in
theorem walkFnLeast (FM : Int → List Int → Int) (FY : Int → List Int → List Int) (hY : ∀ m zs, zs.length ≤ 1048576 → (FY m zs).length ≤ 1048576)
    (hI : ∀ m zs, zs.length ≤ 1048576 → ∀ a c W, Ints W W.heap.size a zs → Calls Try.prog 14 #[.agg #[.int .i64 m, .slice a zs.length c]] W (RetFB W (FM m zs) (FY m zs) (famIn m zs)))
    (hS : ∀ m zs, zs.length ≤ 1048576 → ∀ a c W, Ints W W.heap.size a zs → Calls Try.prog 15 #[.agg #[.int .i64 m, .slice a zs.length c]] W (RetFB W (FM m zs) (FY m zs) (famIn m zs)))
    (hA : ∀ m zs, famIn m zs = true → ∀ i k : Nat, i < (FY m zs).length → k < (FY m zs).length → i ≠ k → partB ((FY m zs)[i]?.getD 0) ((FY m zs)[k]?.getD 0) = false)
    (hU : ∀ m zs, famIn m zs = true → ∀ i : Nat, i < zs.length → ∃ k, k < (FY m zs).length ∧ partB ((FY m zs)[k]?.getD 0) (zs[i]?.getD 0) = true)
    (a : Option Addr) (n cap : Nat) (w : World) (hb : Bys w w.heap.size a n) (hn : n ≤ 1048576) (hc : n ≤ cap) (hc2 : cap ≤ 9223372036854775807) :
    Calls Try.prog 4 #[.slice a n cap] w fun e w' => e = .returned (.bool true) ∧ Below w.heap.size w w' := by
  have HBy := Lib.hid hb
  have HI0 := Lib.hid hI
  have HS0 := Lib.hid hS
  have HA0 := Lib.hid hA
  have HU0 := Lib.hid hU
  have HY0 := Lib.hid hY
  clear hb hI hS hA hU hY
  go_enter Try.func4, Try.ntmps4
  go_wp2_with fail
  refine (drawLeast_any a n cap w HBy.out hn hc hc2).mono ?_
  rintro e w1 ⟨m, a1, zs, c1, rfl, hl, ho1, hb1⟩
  have F1 := FB.start (m := m) (c := c1) (own_ints ho1)
  have B1 := Lib.hid (hb1.trans ((below1 w1 (.cells #[.int .i64 m, .slice a1 zs.length c1] 25)).mono hb1.size))
  have x0 := F1.x0
  have x1 := F1.x1
  have hln : zs.length ≤ 1048576 := by omega
  have HF1 := Lib.hid F1
  obtain ⟨M, hM⟩ : ∃ M, M = FM m zs := ⟨_, rfl⟩
  obtain ⟨ys, hys⟩ : ∃ ys, ys = FY m zs := ⟨_, rfl⟩
  have hzl : ys.length ≤ 1048576 := by rw [hys]; exact HY0.out m zs hln
  have HI := Lib.hid (HI0.out m zs hln)
  have HSp := Lib.hid (HS0.out m zs hln)
  have HA1 := Lib.hid (HA0.out m zs)
  have HU1 := Lib.hid (HU0.out m zs)
  rw [← hM, ← hys] at HI HSp
  rw [← hys] at HA1 HU1
  clear F1 ho1 hb1 hM hys HI0 HS0 HA0 HU0 HY0
  go_wp2_with fail
  refine (HI.out _ _ _ HF1.out.ints).mono ?_
  rintro e w2 ⟨a2, c2, rfl, ho2, hb2⟩
  have F2 := FB.start (m := M) (c := c2) (own_ints ho2)
  have B2 := Lib.hid (B1.out.trans ((hb2.trans ((below1 w2 (.cells #[.int .i64 M, .slice a2 ys.length c2] 25)).mono hb2.size)).mono B1.out.size))
  have HF12 := Lib.hid ((HF1.out.step hb2).step (below1 w2 (.cells #[.int .i64 M, .slice a2 ys.length c2] 25)))
  have HF2 := Lib.hid F2
  have x0 := HF12.out.x0
  have x1 := HF12.out.x1
  clear F2 ho2 hb2 HF1 B1
  go_wp2_with fail
  refine (HSp.out _ _ _ HF12.out.ints).mono ?_
  rintro e w3 ⟨a3, c3, rfl, ho3, hb3⟩
  have F3 := FB.start (m := M) (c := c3) (own_ints ho3)
  have B3 := Lib.hid (B2.out.trans ((hb3.trans ((below1 w3 (.cells #[.int .i64 M, .slice a3 ys.length c3] 25)).mono hb3.size)).mono B2.out.size))
  have HF13 := Lib.hid ((HF12.out.step hb3).step (below1 w3 (.cells #[.int .i64 M, .slice a3 ys.length c3] 25)))
  have HF23 := Lib.hid ((HF2.out.step hb3).step (below1 w3 (.cells #[.int .i64 M, .slice a3 ys.length c3] 25)))
  have HF3 := Lib.hid F3
  have y0 := HF23.out.x0
  have y1 := HF23.out.x1
  have z0 := HF3.out.x0
  have z1 := HF3.out.x1
  clear F3 ho3 hb3 HF12 HF2 B2 HI HSp
  cases hd : famIn m zs
  · clear hd
    go_wp2_with fail
    refine (sameFamily_any _ _ _ _ _ _ _ _ _ HF23.out.ints HF3.out.ints hzl hzl).mono ?_
    rintro e w4 ⟨rfl, hb4⟩
    rw [sameF_self]
    have B4 := Lib.hid (B3.out.trans (hb4.mono B3.out.size))
    have HF24 := Lib.hid (HF23.out.step hb4)
    have HF34 := Lib.hid (HF3.out.step hb4)
    have y0 := HF24.out.x0
    have y1 := HF24.out.x1
    have z0 := HF34.out.x0
    have z1 := HF34.out.x1
    clear hb4
    go_wp2_with fail
    refine (sameFamily_any _ _ _ _ _ _ _ _ _ HF24.out.ints HF34.out.ints hzl hzl).mono ?_
    rintro e w5 ⟨rfl, hb5⟩
    rw [sameF_self]
    have B5 := Lib.hid (B4.out.trans (hb5.mono B4.out.size))
    clear hb5
    go_wp2
    go_ret
    exact ⟨rfl, B5.out⟩
  · have HA := Lib.hid (HA1.out hd)
    have HU := Lib.hid (HU1.out hd)
    obtain ⟨L, hL⟩ : ∃ L, L = ys.length := ⟨_, rfl⟩
    have HL := Lib.hid hL
    clear hd hL HA1 HU1
    go_wp2_with fail
    refine (sameFamily_any _ _ _ _ _ _ _ _ _ HF23.out.ints HF3.out.ints hzl hzl).mono ?_
    rintro e w4 ⟨rfl, hb4⟩
    rw [sameF_self]
    have B4 := Lib.hid (B3.out.trans (hb4.mono B3.out.size))
    have HF24 := Lib.hid (HF23.out.step hb4)
    have HF14 := Lib.hid (HF13.out.step hb4)
    have hL1 : L ≤ 1048576 := by rw [HL.out]; exact hzl
    clear hb4 HF23 HF13 HF3 B3 y0 y1 z0 z1 x0 x1
    have y1 : w4.cell? ⟨w2.heap.size, 1, none⟩ = some (.slice a2 L c2) := by rw [HL.out]; exact HF24.out.x1
    obtain ⟨Z, hZ⟩ : ∃ Z, Z = zs.length := ⟨_, rfl⟩
    have HZ := Lib.hid hZ
    have hZ9 : Z ≤ 9 := by rw [hZ]; exact hl
    have x1 : w4.cell? ⟨w1.heap.size, 1, none⟩ = some (.slice a1 Z c1) := by rw [hZ]; exact HF14.out.x1
    have hs2 : w2.heap.size < w4.heap.size := lt_of_some HF24.out.blk
    have hs1 : w1.heap.size < w4.heap.size := lt_of_some HF14.out.blk
    have X1 := Lib.hid x1
    have Y1 := Lib.hid y1
    clear hZ hl hln hzl x1 y1
    go_wp2
    go_loopw [8] (fun i wr => ∃ j : Nat, j ≤ L ∧ i = .int .i64 (j : Int) ∧ Below w4.heap.size w4 wr) (fun i _ => L - (intOf i).toNat)
    case atStart => exact ⟨0, Nat.zero_le _, rfl, Below.refl _ _⟩
    case round =>
      obtain ⟨j, hj, rfl, hB⟩ := hrel
      obtain ⟨wo, hwo⟩ : ∃ wo, wo = wr := ⟨wr, rfl⟩
      subst hwo
      have y1 := (hB.cell (p := ⟨w2.heap.size, 1, none⟩) hs2).trans Y1.out
      have HB := Lib.hid hB
      clear hB
      by_cases hlt : j < L
      · go_wp2
        go_loopw [9] (fun i wr => ∃ k : Nat, k ≤ L ∧ i = .int .i64 (k : Int) ∧ Below w4.heap.size w4 wr) (fun i _ => L - (intOf i).toNat)
        case atStart => exact ⟨0, Nat.zero_le _, rfl, HB.out⟩
        case round =>
          obtain ⟨k, hk, rfl, hB⟩ := hrel
          obtain ⟨wi, hwi⟩ : ∃ wi, wi = wr := ⟨wr, rfl⟩
          subst hwi
          have y1 := (hB.cell (p := ⟨w2.heap.size, 1, none⟩) hs2).trans Y1.out
          by_cases hlk : k < L
          · by_cases hjk : j = k
            · have HB2 := Lib.hid hB
              have hjk2 : ((j : Int) != (k : Int)) = false := by rw [hjk]; simp
              clear hB
              go_wp2
              go_quiet (fail)
              go_wp2
              go_roundw
              case rel => exact ⟨k + 1, by omega, by go_num, below_drewN HB2.out _⟩
              case measure => simp [intOf]; omega
            · obtain ⟨b1, o1, rfl, hb1, hc1⟩ := HF24.out.ints.at_ (k := j) (by rw [← HL.out]; exact hlt)
              obtain ⟨b2, o2, he, hb2, hc2⟩ := HF24.out.ints.at_ (k := k) (by rw [← HL.out]; exact hlk)
              injection he with he
              injection he with he1 he2
              subst he1; subst he2
              have v1 := (hB.cell (p := ⟨b1, o1 + j, none⟩) hb1).trans hc1
              have v2 := (hB.cell (p := ⟨b1, o1 + k, none⟩) hb1).trans hc2
              have hjk2 : ((j : Int) != (k : Int)) = true := by rw [bne_iff_ne]; omega
              have hpart : (bits .andNot .i64 (ys[j]?.getD 0) (ys[k]?.getD 0) == 0) = false := HA.out j k (by rw [← HL.out]; exact hlt) (by rw [← HL.out]; exact hlk) hjk
              obtain ⟨yj, hyj⟩ : ∃ yj, yj = ys[j]?.getD 0 := ⟨_, rfl⟩
              obtain ⟨yk, hyk⟩ : ∃ yk, yk = ys[k]?.getD 0 := ⟨_, rfl⟩
              rw [← hyj] at v1 hpart
              rw [← hyk] at v2 hpart
              have HB2 := Lib.hid hB
              have hj0 : (0 : Int) ≤ (j : Int) := by omega
              have hj1 : (j : Int) < (L : Int) := by omega
              have hk0 : (0 : Int) ≤ (k : Int) := by omega
              have hk1 : (k : Int) < (L : Int) := by omega
              clear hB hc1 hc2 hyj hyk
              go_wp2
              go_quiet (fail)
              go_wp2
              go_roundw
              case rel => exact ⟨k + 1, by omega, by go_num, below_drewN HB2.out _⟩
              case measure => simp [intOf]; omega
          · have HB2 := Lib.hid hB
            clear hB
            go_wp2
            go_roundw
            case rel => exact ⟨j + 1, by omega, by go_num, HB2.out⟩
            case measure => simp [intOf]; omega
      · go_wp2
        clear y1
        go_loopw [10] (fun i wr => ∃ i' : Nat, i' ≤ Z ∧ i = .int .i64 (i' : Int) ∧ Below w4.heap.size w4 wr) (fun i _ => Z - (intOf i).toNat)
        case atStart => exact ⟨0, Nat.zero_le _, rfl, HB.out⟩
        case round =>
          obtain ⟨i, hi, rfl, hB⟩ := hrel
          obtain ⟨wp, hwp⟩ : ∃ wp, wp = wr := ⟨wr, rfl⟩
          subst hwp
          have x1 := (hB.cell (p := ⟨w1.heap.size, 1, none⟩) hs1).trans X1.out
          have HB3 := Lib.hid hB
          clear hB
          by_cases hli : i < Z
          · go_wp2
            go_loopw [11, 12] (fun v k wr => ∃ (k' : Nat) (b' : Bool), k' ≤ L ∧ k = .int .i64 (k' : Int) ∧ v = .bool b' ∧ (b' = false → ∀ q, q < k' → partB (ys[q]?.getD 0) (zs[i]?.getD 0) = false) ∧ Below w4.heap.size w4 wr) (fun _ k _ => L - (intOf k).toNat)
            case atStart => exact ⟨0, false, Nat.zero_le _, rfl, rfl, fun _ q hq => by omega, HB3.out⟩
            case round =>
              obtain ⟨k, bb, hk, rfl, rfl, hbb, hB⟩ := hrel
              obtain ⟨wi, hwi⟩ : ∃ wi, wi = wr := ⟨wr, rfl⟩
              subst hwi
              have y1 := (hB.cell (p := ⟨w2.heap.size, 1, none⟩) hs2).trans Y1.out
              have x1 := (hB.cell (p := ⟨w1.heap.size, 1, none⟩) hs1).trans X1.out
              have HB4 := Lib.hid hB
              have HBB := Lib.hid hbb
              by_cases hlk : k < L
              · cases bb
                · obtain ⟨b1, o1, rfl, hb1, hc1⟩ := HF24.out.ints.at_ (k := k) (by rw [← HL.out]; exact hlk)
                  obtain ⟨b2, o2, rfl, hb2, hc2⟩ := HF14.out.ints.at_ (k := i) (by rw [← HZ.out]; exact hli)
                  have v1 := (hB.cell (p := ⟨b1, o1 + k, none⟩) hb1).trans hc1
                  have v2 := (hB.cell (p := ⟨b2, o2 + i, none⟩) hb2).trans hc2
                  obtain ⟨yk, hyk⟩ : ∃ yk, yk = ys[k]?.getD 0 := ⟨_, rfl⟩
                  obtain ⟨zi, hzi⟩ : ∃ zi, zi = zs[i]?.getD 0 := ⟨_, rfl⟩
                  rw [← hyk] at v1
                  rw [← hzi] at v2
                  have HYK := Lib.hid hyk
                  have HZI := Lib.hid hzi
                  have hi0 : (0 : Int) ≤ (i : Int) := by omega
                  have hi1 : (i : Int) < (Z : Int) := by omega
                  have hk0 : (0 : Int) ≤ (k : Int) := by omega
                  have hk1 : (k : Int) < (L : Int) := by omega
                  clear hB hbb hc1 hc2 hyk hzi
                  cases hp : (bits .andNot .i64 yk zi == 0)
                  · have HP : Hid (partB yk zi = false) := Lib.hid hp
                    go_wp2
                    go_quiet (fail)
                    go_wp2
                    go_roundw
                    case rel => exact ⟨k + 1, false, by omega, by go_num, rfl, fun h q hq => by
                      rcases Nat.lt_succ_iff_lt_or_eq.1 hq with h2 | rfl
                      · exact HBB.out (by trivial) q h2
                      · rw [← HYK.out, ← HZI.out]; exact HP.out, below_drewN HB4.out _⟩
                    case measure => simp [intOf]; omega
                  · go_wp2
                    go_quiet (fail)
                    go_wp2
                    go_roundw
                    case rel => exact ⟨k + 1, true, by omega, by go_num, rfl, fun h => (by cases h), below_drewN HB4.out _⟩
                    case measure => simp [intOf]; omega
                · clear hB hbb
                  go_wp2
                  go_quiet (fail)
                  go_wp2
                  go_roundw
                  case rel => exact ⟨k + 1, true, by omega, by go_num, rfl, fun h => (by cases h), below_drewN HB4.out _⟩
                  case measure => simp [intOf]; omega
              · obtain rfl : k = L := by omega
                have hbt : bb = true := by
                  cases bb
                  · obtain ⟨q, hq, hp⟩ := HU.out i (by rw [← HZ.out]; exact hli)
                    rw [hbb rfl q (by rw [HL.out]; exact hq)] at hp
                    cases hp
                  · rfl
                subst hbt
                clear hB hbb
                go_wp2
                go_roundw
                case rel => exact ⟨i + 1, by omega, by go_num, HB4.out⟩
                case measure => simp [intOf]; omega
          · have HD := Lib.hid (B4.out.trans (HB3.out.mono B4.out.size))
            go_wp2
            go_ret
            exact ⟨rfl, HD.out⟩

end Go.Proofs.Ytkmaebkfmljiiaa
