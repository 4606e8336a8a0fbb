/- It is proved that the call of the law FnAll returns true; conditions: those of each statement. -/
import Derived.Test.YtkmaebkfmljiiaaDoorRows
import Derived.WalkKit
import Derived.WalkSpells
import Derived.ProofKit
import Derived.OpenShut
import Derived.ShutString
import Derived.ChangeOld
import Derived.Below
import Derived.Deep.RegionHeld3
import Derived.Deep.QuietTactic
import Derived.BigQuiet
import Derived.Lib.Hide
import Derived.Lib.SmallJoins
import Derived.Outline
import Derived.Laws.MakeOwn
import Derived.Laws.OwnMore
import Derived.IntWalk
import Derived.Deep.RegionLaw
import Derived.Deep.AppendLies
import Derived.RangeFuncNested
import Derived.RangeFuncBound
import Derived.RangeFuncCalls
import Derived.RangeFuncLeaves
import Derived.RangeFuncBox
import Derived.Shelf.Abstract
import Derived.Shelf.RegionOpen
import Derived.OwnWalkIn
import Derived.TacticsInMore
import Derived.LoopNIn
import Derived.LoopIn
import Derived.Maps.AppendAt
import Derived.OwnWalk
import Derived.StillTail
import Derived.StillTactics
import Derived.OrdersIn
import Derived.TacticsIn
import Derived.Shelf.Spec.TrailingZeros
import Derived.StillTailTactics
import Derived.Test.YtkmaebkfmljiiaaDoorD
import Derived.Test.YtkmaebkfmljiiaaDoorMrbmxFnAll
import Derived.Test.YtkmaebkfmljiiaaDoorMrbnxFnAll
import Derived.Test.YtkmaebkfmljiiaaDoorE
import Derived.Test.YtkmaebkfmljiiaaDoorF
import Derived.Test.YtkmaebkfmljiiaaDoorH
import Derived.Test.YtkmaebkfmljiiaaDoorMz
import Derived.Test.YtkmaebkfmljiiaaDoorSa
import Derived.Test.YtkmaebkfmljiiaaDoorT
import Derived.Test.YtkmaebkfmljiiaaDoorTO
import Derived.Test.YtkmaebkfmljiiaaDoorTb
namespace Go.Proofs.YtkmaebkfmljiiaaDoor
open Go.RowKit

set_option maxRecDepth 100000 in
set_option maxHeartbeats 8000000 in
theorem walkFnAll (a : Option Addr) (n cap : Nat) (w : World) (hb : Bys w w.heap.size a n) (hT : Tab w) (hn : n ≤ 1048576) (hc : n ≤ cap) (hc2 : cap ≤ 9223372036854775807) :
    Calls Tryd.prog 4 #[.slice a n cap] w fun e w' => e = .returned (.bool true) ∧ Below w.heap.size w w' := by
  have HBy := Lib.hid hb
  have HT := Lib.hid hT
  clear hb hT
  go_enter Tryd.func4, Tryd.ntmps4
  go_wp2_with fail
  refine (drawAll_any a n cap w HBy.out hn hc hc2).mono ?_
  rintro e w1 ⟨m, a1, zs, c1, rfl, hl, ho1, hb1⟩
  have F1 := FB.start (m := m) (c := c1) (own_ints ho1)
  have B1 := Lib.hid (hb1.trans ((below1 w1 (.cells #[.int .i64 m, .slice a1 zs.length c1] 25)).mono hb1.size))
  have hln : zs.length ≤ 1048576 := by omega
  have f_f_1 := Lib.hid F1
  clear F1 ho1 hb1
  have f_0 := f_f_1.out.x0
  have f_1 := f_f_1.out.x1
  obtain ⟨A, hA⟩ : ∃ A, A = famAll m zs := ⟨_, rfl⟩
  have HA := Lib.hid hA
  clear hA
  go_wp2_with fail
  refine (implAllF_any m a1 c1 zs _ f_f_1.out.ints (HT.out.below B1.out HT.out.lt) hln).mono ?_
  rw [← HA.out]
  rintro e w2 ⟨rfl, hb2⟩
  have B2 := Lib.hid (B1.out.trans (hb2.mono B1.out.size))
  have f_f_2 := Lib.hid (f_f_1.out.step hb2)
  clear hb2 B1 f_f_1
  clear f_0 f_1
  have f_0 := f_f_2.out.x0
  have f_1 := f_f_2.out.x1
  go_wp2_with fail
  refine (specAll_any m a1 c1 zs _ f_f_2.out.ints hln).mono ?_
  rw [← HA.out]
  rintro e w3 ⟨rfl, hb3⟩
  have B3 := Lib.hid (B2.out.trans (hb3.mono B2.out.size))
  have f_f_3 := Lib.hid (f_f_2.out.step hb3)
  clear hb3 B2 f_f_2
  clear f_0 f_1
  have f_0 := f_f_3.out.x0
  have f_1 := f_f_3.out.x1
  cases hd : famIn m zs
  · clear hd HA
    go_wp2
    go_ret
    exact ⟨rfl, B3.out⟩
  · have HD := Lib.hid hd
    clear hd
    have hm1 : 1 ≤ m := (famIn_out HD.out).1
    have hm6 : m ≤ 6 := (famIn_out HD.out).2.1
    obtain ⟨k0, hk0⟩ : ∃ k0 : Nat, m = (k0 : Int) := ⟨m.toNat, by omega⟩
    subst hk0
    obtain ⟨S, hSA, hS64, hbit⟩ := all_facts HD.out
    have HBIT := Lib.hid hbit
    have HSA : Hid (A = (S : Int)) := Lib.hid (HA.out.trans hSA)
    clear hbit hSA
    obtain ⟨ds, hds⟩ : ∃ ds, ds = famDeg (k0 : Int) zs := ⟨_, rfl⟩
    have HDL : Hid (ds = degL k0 (allMem zs)) := Lib.hid (by rw [hds, famDeg, if_pos HD.out]; rfl)
    have HDS := Lib.hid hds
    clear hds
    rw [HSA.out]
    go_wp2_with fail
    refine (implDegrees_any (k0 : Int) a1 c1 zs _ f_f_3.out.ints (HT.out.below B3.out HT.out.lt) hln).mono ?_
    rw [HD.out]
    rw [← HDS.out]
    rintro e w4 ⟨a4, c4, rfl, ho4, hb4⟩
    have G4 := Lib.hid (own_ints ho4)
    have B4 := Lib.hid (B3.out.trans (hb4.mono B3.out.size))
    have f_f_4 := Lib.hid (f_f_3.out.step hb4)
    clear ho4 hb4 B3 f_f_3
    clear f_0 f_1
    have HLen : Hid (ds.length = k0) := Lib.hid (by rw [HDL.out, degL_length])
    obtain ⟨Y, hY⟩ : ∃ Y, Y = zs.length := ⟨_, rfl⟩
    have HY := Lib.hid hY
    have hY1 : Y ≤ 9 := by rw [hY]; exact hl
    have X1 : Hid (w4.cell? ⟨w1.heap.size, 1, none⟩ = some (.slice a1 Y c1)) := Lib.hid (by rw [hY]; exact f_f_4.out.x1)
    have hs1 : w1.heap.size < w4.heap.size := lt_of_some f_f_4.out.blk
    have hk06 : k0 ≤ 6 := by omega
    rw [HLen.out]
    clear hY hl hln hm1 hm6
    go_wp2
    go_loopw [10] (fun i wr => ∃ v : Nat, v ≤ k0 ∧ i = .int .i64 (v : Int) ∧ Below w4.heap.size w4 wr) (fun i _ => k0 - (intOf i).toNat)
    case atStart => exact ⟨0, Nat.zero_le _, rfl, Below.refl _ _⟩
    case round =>
      obtain ⟨v, hv, rfl, hB⟩ := hrel
      have f1 := (hB.cell (p := ⟨w1.heap.size, 1, none⟩) hs1).trans X1.out
      by_cases hlt : v < k0
      · obtain ⟨b1, o1, ha1, hb1, hc1⟩ := G4.out.at_ (k := v) (by rw [HLen.out]; exact hlt)
        subst ha1
        have v1 := (hB.cell (p := ⟨b1, o1 + v, none⟩) hb1).trans hc1
        obtain ⟨d, hd⟩ : ∃ d, d = ds[v]?.getD 0 := ⟨_, rfl⟩
        rw [← hd] at v1
        have hj0 : (0 : Int) ≤ (v : Int) := by omega
        have hj1 : (v : Int) < (k0 : Int) := by omega
        have hj2 : (v : Int) < 64 := by omega
        have hbv := bit_val (S := S) (v := v) hS64 (by omega)
        have hdb := HBIT.out v hlt
        rw [← HDL.out, ← hd] at hdb
        have HB := Lib.hid hB
        clear hB hc1 hd
        cases ht : S.testBit v
        · rw [ht] at hbv hdb
          have hbv2 : bits BinOp.and IntKind.i64 ((S : Int) / 2 ^ v) 1 = 0 := hbv
          have hdt : decide (0 < d) = false := by simpa using hdb
          clear hbv hdb ht
          go_wp2
          go_quiet (fail)
          go_wp2
          go_roundw
          case rel => exact ⟨v + 1, by omega, by go_num, below_drewN HB.out _⟩
          case measure => simp [intOf]; omega
        · rw [ht] at hbv hdb
          have hbv2 : bits BinOp.and IntKind.i64 ((S : Int) / 2 ^ v) 1 = 1 := hbv
          have hdt : decide (0 < d) = true := by simpa using hdb
          clear hbv hdb ht
          go_wp2
          go_quiet (fail)
          go_wp2
          go_roundw
          case rel => exact ⟨v + 1, by omega, by go_num, below_drewN HB.out _⟩
          case measure => simp [intOf]; omega
      · have HR := Lib.hid (B4.out.trans (hB.mono B4.out.size))
        clear hB
        go_wp2
        go_ret
        exact ⟨rfl, HR.out⟩

end Go.Proofs.YtkmaebkfmljiiaaDoor
