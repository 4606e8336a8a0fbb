/- It is proved that the calls of FnStars return true; conditions: those of each statement. -/
import Derived.RowKit
import Derived.Laws.CopyRow
import Derived.Lib.SlBuf
import Derived.Deep.QuietTactic
import Derived.RangeFuncNested
import Derived.RangeFuncBound
import Derived.RangeFuncCalls
import Derived.RangeFuncLeaves
import Derived.RangeFuncBox
import Derived.RangeFuncWrites
import Derived.StillTailTactics
import Derived.Maps.OwnIn
import Derived.Maps.Ext
import Derived.DeepKeys4
import Derived.MapKept
import Derived.Test.YtgpgocijacgkhaaDoorRows
import Derived.WalkKit
import Derived.WalkSpells
import Derived.ProofKit
import Derived.OpenShut
import Derived.ShutString
import Derived.ChangeOld
import Derived.Below
import Derived.Deep.RegionHeld3
import Derived.BigQuiet
import Derived.Lib.Hide
import Derived.Lib.SmallJoins
import Derived.Outline
import Derived.Laws.MakeOwn
import Derived.Laws.OwnMore
import Derived.IntWalk
import Derived.Maps.AppendAt
import Derived.Sort.MapsRangeIn
import Derived.Deep.RegionLaw
import Derived.Deep.AppendLies
import Derived.Deep.RegionWith
import Derived.Lib.AppendZeros
import Derived.OwnWalk
import Derived.Lib.SlicesCompact
import Derived.Lib.OwnBridge
import Derived.OrdersIn
import Derived.TacticsIn
import Derived.Shelf.Sort.Plain
import Derived.Shelf.Slices.In.SortNone
import Derived.Shelf.Slices.CompactI
import Derived.Ground.Names2Prog
import Derived.Lib.SliceRun
import Derived.Laws.BitsAllLaws
import Derived.Shelf.RegionOpen
import Derived.Shelf.Abstract
import Derived.OwnWalkIn
import Derived.TacticsInMore
import Derived.LoopNIn
import Derived.LoopIn
import Derived.StillTail
import Derived.StillTactics
import Derived.Shelf.Spec.TrailingZeros
import Derived.Deep.LoopGhost
import Derived.Test.YtgpgocijacgkhaaDoorRaaa
import Derived.Test.YtgpgocijacgkhaaDoorRaab
import Derived.Test.YtgpgocijacgkhaaDoorDb
import Derived.Test.YtgpgocijacgkhaaDoorRaag
import Derived.Test.YtgpgocijacgkhaaDoorRaah
import Derived.Test.YtgpgocijacgkhaaDoorRaal
import Derived.Test.YtgpgocijacgkhaaDoorRabb
import Derived.Test.YtgpgocijacgkhaaDoorRaai
import Derived.Test.YtgpgocijacgkhaaDoorRaas
import Derived.Test.YtgpgocijacgkhaaDoorRaau
import Derived.Test.YtgpgocijacgkhaaDoorRaay
import Derived.Test.YtgpgocijacgkhaaDoorPzH
import Derived.Test.YtgpgocijacgkhaaDoorRaac
import Derived.Test.YtgpgocijacgkhaaDoorTc
import Derived.Test.YtgpgocijacgkhaaDoorTd
import Derived.Test.YtgpgocijacgkhaaDoorRaaz
import Derived.Lib.LaidTab
import Derived.LaidMore
import Derived.Stop.Joined
namespace Go.Proofs.YtgpgocijacgkhaaDoor
open Go.RowKit

theorem star_8 {m : Int} {zs : List Int} (hf : famIn m zs = true) : starZ m zs ≤ 8 := by
  obtain ⟨k, rfl, hk1, hk6, hS, hl⟩ := fam_nat2 hf
  exact star_is hf (N := 8) (fun v hv => by rw [deg_cnt hk6 hS hl (by omega)]; exact memK_len _ _)

set_option maxRecDepth 100000 in
set_option maxHeartbeats 8000000 in
theorem walkFnStars (a : Option Addr) (n cap : Nat) (w : World) (hb : Bys w w.heap.size a n) (hT : Tab w) (hn : n ≤ 1048576) (hc : n ≤ cap) (hc2 : cap ≤ 9223372036854775807) :
    Calls Tryd.prog 9 #[.slice a n cap] w fun e w' => e = .returned (.bool true) ∧ Below w.heap.size w w' := by
  have HBy := Lib.hid hb
  have HT := Lib.hid hT
  clear hb hT
  go_enter Tryd.func9, Tryd.ntmps9
  go_wp2_with fail
  refine (drawMeetStars_any a n cap w HBy.out hn hc hc2).mono ?_
  rintro e w1 ⟨m, a1, zs, c1, rfl, hl, ho1, hb1⟩
  have F1 := FB.start (m := m) (c := c1) (own_ints ho1)
  have B1 := Lib.hid (hb1.trans ((below1 w1 (.cells #[.int .i64 m, .slice a1 zs.length c1] 25)).mono hb1.size))
  have hln : zs.length ≤ 1048576 := by omega
  have f_f_1 := Lib.hid F1
  clear F1 ho1 hb1
  have f_0 := f_f_1.out.x0
  have f_1 := f_f_1.out.x1
  obtain ⟨A, hA⟩ : ∃ A, A = starZ m zs := ⟨_, rfl⟩
  have HA := Lib.hid hA
  clear hA
  go_wp2_with fail
  refine (implStars_any m a1 c1 zs _ f_f_1.out.ints (HT.out.below B1.out HT.out.lt) hln).mono ?_
  rw [← HA.out]
  rintro e w2 ⟨rfl, hb2⟩
  have B2 := Lib.hid (B1.out.trans (hb2.mono B1.out.size))
  have f_f_2 := Lib.hid (f_f_1.out.step hb2)
  clear hb2 B1 f_f_1
  clear f_0 f_1
  have f_0 := f_f_2.out.x0
  have f_1 := f_f_2.out.x1
  go_wp2_with fail
  refine (specStars_any m a1 c1 zs _ f_f_2.out.ints hln).mono ?_
  rw [← HA.out]
  rintro e w3 ⟨rfl, hb3⟩
  have B3 := Lib.hid (B2.out.trans (hb3.mono B2.out.size))
  have f_f_3 := Lib.hid (f_f_2.out.step hb3)
  clear hb3 B2 f_f_2
  clear f_0 f_1
  have f_0 := f_f_3.out.x0
  have f_1 := f_f_3.out.x1
  cases hd : famIn m zs
  · clear hd HA
    go_wp2
    go_ret
    exact ⟨rfl, B3.out⟩
  · have HD := Lib.hid hd
    have HFF := Lib.hid (family_facts hd)
    have hss := star_sum hd
    have hs8 := star_8 hd
    have hs0 := star_nn m zs
    have HMI : Hid (A = mostI (famDeg m zs) (famDeg m zs).length) := Lib.hid (by rw [HA.out]; rfl)
    rw [← HA.out] at hss hs8 hs0
    obtain ⟨k, rfl, hk1, hk6, -, hl8⟩ := fam_nat2 hd
    obtain ⟨ds, hds⟩ : ∃ ds, ds = famDeg (k : Int) zs := ⟨_, rfl⟩
    obtain ⟨ss, hss2⟩ : ∃ ss, ss = sizesZ (k : Int) zs := ⟨_, rfl⟩
    have HDS := Lib.hid hds
    have HSS := Lib.hid hss2
    rw [← hds, ← hss2] at HFF
    rw [← hds] at HMI
    rw [← hss2] at hss
    have hsl : ss.length ≤ 1000 := by have := HFF.out.2.2.1; omega
    have HDL : Hid (ds.length = k) := Lib.hid (by have := HFF.out.2.1; omega)
    clear hd HA hds hss2
    go_wp2_with fail
    refine (implDegrees_any (k : Int) a1 c1 zs _ f_f_3.out.ints (HT.out.below B3.out HT.out.lt) hln).mono ?_
    rw [HD.out]
    rw [← HDS.out]
    rintro e w4 ⟨a4, c4, rfl, ho4, hb4⟩
    have G4 := Lib.hid (own_ints ho4)
    have B4 := Lib.hid (B3.out.trans (hb4.mono B3.out.size))
    have f_f_4 := Lib.hid (f_f_3.out.step hb4)
    clear ho4 hb4 B3 f_f_3
    clear f_0 f_1
    have f_0 := f_f_4.out.x0
    have f_1 := f_f_4.out.x1
    go_wp2_with fail
    refine (implSizes_any (k : Int) a1 c1 zs _ f_f_4.out.ints hln).mono ?_
    rw [HD.out]
    rw [← HSS.out]
    rintro e w5 ⟨a5, c5, rfl, ho5, hb5⟩
    have G5 := Lib.hid (own_ints ho5)
    have B5 := Lib.hid (B4.out.trans (hb5.mono B4.out.size))
    have f_f_5 := Lib.hid (f_f_4.out.step hb5)
    have l_ld_5 := Lib.hid (G4.out.step hb5)
    clear ho5 hb5 B4 f_f_4 G4
    clear f_0 f_1
    obtain ⟨SU, hSU⟩ : ∃ SU, SU = ss.sum := ⟨_, rfl⟩
    have HSU := Lib.hid hSU
    rw [← hSU] at hss
    have hmul : IntKind.i64.wrap (A * (k : Int)) = A * (k : Int) := by
      have h1 : 0 ≤ A * (k : Int) := Int.mul_nonneg hs0 (by omega)
      have h2 : A * (k : Int) ≤ 8 * 6 := Int.mul_le_mul hs8 (by omega) (by omega) (by omega)
      rw [IntKind.wrap_i64]; omega
    have hge : decide (SU ≤ A * (k : Int)) = true := decide_eq_true hss
    rw [HDL.out]
    clear hSU hl hss
    go_wp2
    go_loop [12, 13] (fun s i => ∃ j : Nat, j ≤ k ∧ i = .int .i64 (j : Int) ∧ s = .int .i64 (mostI ds j)) (fun _ i => k - (intOf i).toNat)
    case atStart => exact ⟨0, Nat.zero_le _, rfl, rfl⟩
    case round =>
      obtain ⟨j, hj, rfl, rfl⟩ := hrel
      by_cases hlt : j < k
      · have hji : (j : Int) < (k : Int) := by omega
        have hj0 : (0 : Int) ≤ (j : Int) := by omega
        obtain ⟨b, off, ha9, hbb, hcc⟩ := l_ld_5.out.at_ (k := j) (by rw [HDL.out]; exact hlt)
        subst ha9
        have HSN := Lib.hid (mostI_succ (ys := ds) (i := j) (by rw [HDL.out]; exact hlt))
        obtain ⟨z, hz⟩ : ∃ z, z = ds[j]?.getD 0 := ⟨_, rfl⟩
        rw [← hz] at hcc HSN
        obtain ⟨M, hM⟩ : ∃ M, M = mostI ds j := ⟨_, rfl⟩
        rw [← hM] at HSN ⊢
        clear hz hM
        go_wp2
        go_round
        case rel => exact ⟨j + 1, by omega, by go_num, by rw [HSN.out]⟩
        case measure => simp [intOf]; omega
      · obtain rfl : j = k := by omega
        have HMJ : Hid (mostI ds j = A) := Lib.hid (by rw [HMI.out, HDL.out])
        rw [HMJ.out]
        have hbe : (A == A) = true := by simp
        have x0 := f_f_5.out.x0
        have hX : w1.heap.size < w5.drew.heap.size := lt_of_some f_f_5.out.blk
        have HLS : Hid (Ints w5.drew w5.drew.heap.size a5 ss) := Lib.hid G5.out
        have HBD : Hid (Below w.heap.size w w5.drew) := Lib.hid B5.out.drew
        go_wp2
        go_region_held3 (fun w' => w'.cell? ⟨w1.heap.size, 0, none⟩ = some (.int .i64 (j : Int)))
          (first
            | exact x0
            | exact (hb9.cell (p := ⟨w1.heap.size, 0, none⟩) hX).trans x0)
          (first
            | (go_at_call 15; refine (total_any _ _ ss _ HLS.out hsl HFF.out.2.2.2.2).mono ?_; rintro e w9 ⟨rfl, hb9⟩; rw [← HSU.out]))
        go_wp2
        go_ret
        exact ⟨rfl, HBD.out.trans (hb9.mono HBD.out.size)⟩

end Go.Proofs.YtgpgocijacgkhaaDoor

/- It is proved that what a row lists of the library's tables is what the walks ask of them; conditions: none but the row's. -/
namespace Go.Proofs.YtgpgocijacgkhaaDoor
open Go.ChangeShapes Go.WideShapes Go.ChangeAt Go.RowKit Go.Joins

def laidL : List (String × DataW Unit) := [("math/bits.deBruijn32tab", Rows.laid_math_bits_deBruijn32tab), ("math/bits.deBruijn64tab", Rows.laid_math_bits_deBruijn64tab)]
theorem Tryd.g0 : Tryd.prog.globalNamed "math/bits.deBruijn32tab" = some 0 := by kernel_rfl
theorem Tryd.g1 : Tryd.prog.globalNamed "math/bits.deBruijn64tab" = some 1 := by kernel_rfl
theorem Tryd.tg0 : (Tryd.prog.globals[0]?).map (·.type) = some 119 := by kernel_rfl
theorem Tryd.tg1 : (Tryd.prog.globals[1]?).map (·.type) = some 120 := by kernel_rfl
theorem tab_is : (Rows.laid_math_bits_deBruijn64tab : DataW Unit) = Lib.tabData .u8 (Lib.deBruijn64tab.map fun (n : Nat) => (n : Int)) := rfl
/-- The door's own heap meets the condition: closed facts. -/
theorem door_met (os : Os) (args : Array Value) : laidMetH Tryd.prog laidL ((World.doorLaid Tryd.prog 40 os).forCall (fun _ _ => 0) ⟨#[], args, []⟩).memory :=
  laidMetH_of_parts3 (fuel := 8) (laidMet_of_run' 8 (by kernel_rfl) (by kernel_rfl)) (by kernel_rfl) (by kernel_rfl)

set_option maxRecDepth 100000 in
theorem tab_of_laid {W : World} (h : laidMetH Tryd.prog laidL W) : Tab W := by
  rw [MakeChecks.laidMetH_plain _ _ _ (by kernel_rfl)] at h
  obtain ⟨ps, ⟨g0, t0, cs0, f0, p0, q0, hg0, ht0, hv0, hd0, ⟨g1, t1, cs1, f1, p1, q1, hg1, ht1, hv1, hd1, _, _⟩, _⟩, _, _⟩ := h
  obtain rfl := Option.some.inj (Tryd.g1.symm.trans hg1)
  obtain rfl := Option.some.inj (Tryd.tg1.symm.trans ht1)
  rw [tab_is] at hd1
  have hcs := Lib.cells_of_tab (n := 64) (e := 5) Tryd.underlying120 Tryd.underlying5 (by kernel_rfl) (by kernel_rfl) hd1
  intro j hj
  have h1 := World.var?_cell hg1 hv1 j
  rw [h1, ← Array.getElem?_toList, hcs]
  simp [List.getD, hj]

end Go.Proofs.YtgpgocijacgkhaaDoor
