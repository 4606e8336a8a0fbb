/- It is proved that the call of the law FnEarSteps returns true; conditions: those of each statement. -/
import Derived.StillTailTactics
import Derived.RowKit
import Derived.Laws.CopyRow
import Derived.Lib.SlBuf
import Derived.Deep.QuietTactic
import Derived.RangeFuncNested
import Derived.RangeFuncBound
import Derived.RangeFuncCalls
import Derived.RangeFuncLeaves
import Derived.RangeFuncBox
import Derived.RangeFuncWrites
import Derived.Maps.OwnIn
import Derived.Maps.Ext
import Derived.DeepKeys4
import Derived.MapKept
import Derived.Test.YtemolmkkiagiiaaDoorRows
import Derived.WalkKit
import Derived.WalkSpells
import Derived.ProofKit
import Derived.OpenShut
import Derived.ShutString
import Derived.ChangeOld
import Derived.Below
import Derived.Deep.RegionHeld3
import Derived.BigQuiet
import Derived.Lib.Hide
import Derived.Lib.SmallJoins
import Derived.Outline
import Derived.Laws.MakeOwn
import Derived.Laws.OwnMore
import Derived.IntWalk
import Derived.Maps.AppendAt
import Derived.Sort.MapsRangeIn
import Derived.Deep.RegionLaw
import Derived.Deep.AppendLies
import Derived.Lib.AppendZeros
import Derived.OwnWalk
import Derived.Lib.SlicesCompact
import Derived.Lib.OwnBridge
import Derived.OrdersIn
import Derived.TacticsIn
import Derived.Shelf.Sort.Plain
import Derived.Shelf.Slices.In.SortNone
import Derived.Shelf.Slices.CompactI
import Derived.Ground.Names2Prog
import Derived.Lib.SliceRun
import Derived.Shelf.RegionOpen
import Derived.Shelf.Abstract
import Derived.OwnWalkIn
import Derived.TacticsInMore
import Derived.LoopNIn
import Derived.LoopIn
import Derived.StillTail
import Derived.StillTactics
import Derived.Shelf.Spec.TrailingZeros
import Derived.Deep.LoopGhost
import Derived.Test.YtemolmkkiagiiaaDoorPaaa
import Derived.Test.YtemolmkkiagiiaaDoorPaac
import Derived.Test.YtemolmkkiagiiaaDoorPaab
import Derived.Test.YtemolmkkiagiiaaDoorPaaq
import Derived.Test.YtemolmkkiagiiaaDoorPaar
import Derived.Test.YtemolmkkiagiiaaDoorPaad
import Derived.Test.YtemolmkkiagiiaaDoorPaah
import Derived.Test.YtemolmkkiagiiaaDoorKa
import Derived.Test.YtemolmkkiagiiaaDoorPaao
import Derived.Test.YtemolmkkiagiiaaDoorPaau
import Derived.Test.YtemolmkkiagiiaaDoorPaav
import Derived.Test.YtemolmkkiagiiaaDoorPaae
import Derived.Test.YtemolmkkiagiiaaDoorPaaw
import Derived.Test.YtemolmkkiagiiaaDoorPaba
import Derived.Test.YtemolmkkiagiiaaDoorPabb
import Derived.Test.YtemolmkkiagiiaaDoorPabd
import Derived.Test.YtemolmkkiagiiaaDoorYj
import Derived.Test.YtemolmkkiagiiaaDoorYm
import Derived.Lib.LaidTab
import Derived.LaidMore
import Derived.Stop.Joined
namespace Go.Proofs.YtemolmkkiagiiaaDoor
open Go.RowKit

theorem togAll_lt {k : Nat} (hk6 : k ≤ 6) {zs : List Int} (hz : Sets k zs) : togK zs (2 ^ zs.length - 1) < 64 := tog_lt (fun z h => p64 hk6 (hz z h).2) _
theorem cntK_mb {k : Nat} (hk6 : k ≤ 6) {zs : List Int} (hz : Sets k zs) : cntK 8 (togK zs (2 ^ zs.length - 1)) = mbN zs := mb_tog hk6 hz
set_option maxRecDepth 100000 in
set_option maxHeartbeats 8000000 in
theorem walkFnEarSteps (a : Option Addr) (n cap : Nat) (w : World) (hb : Bys w w.heap.size a n) (hT : Tab w) (hn : n ≤ 1048576) (hc : n ≤ cap) (hc2 : cap ≤ 9223372036854775807) :
    Calls Tryd.prog 8 #[.slice a n cap] w fun e w' => e = .returned (.bool true) ∧ Below w.heap.size w w' := by
  have HBy := Lib.hid hb
  have HT := Lib.hid hT
  clear hb hT
  go_enter Tryd.func8, Tryd.ntmps8
  go_wp2_with fail
  refine (drawEarSteps_any a n cap w HBy.out hn hc hc2).mono ?_
  rintro e w1 ⟨m, a1, zs, c1, rfl, hl, ho1, hb1⟩
  have F1 := FB.start (m := m) (c := c1) (own_ints ho1)
  have B1 := Lib.hid (hb1.trans ((below1 w1 (.cells #[.int .i64 m, .slice a1 zs.length c1] 25)).mono hb1.size))
  have hln : zs.length ≤ 1048576 := by omega
  have f_f_1 := Lib.hid F1
  clear F1 ho1 hb1
  have f_0 := f_f_1.out.x0
  have f_1 := f_f_1.out.x1
  obtain ⟨G, hG⟩ : ∃ G, G = stepsI m zs := ⟨_, rfl⟩
  obtain ⟨K, hK⟩ : ∃ K, K = famIn m zs := ⟨_, rfl⟩
  have HI := Lib.hid (fun W hi hT => implEarSteps_any m a1 c1 zs W hi hT hln)
  have HSP := Lib.hid (fun W hi => specEarSteps_any m a1 c1 zs W hi hln)
  have HRE := Lib.hid (fun W hi hT => implReduce_any m a1 c1 zs W hi hT hln)
  have HAL := Lib.hid (fun W hi hT => implAllT_any m a1 c1 zs W hi hT hln)
  rw [← hG, ← hK] at HI HSP
  rw [← hK] at HRE HAL
  have HG := Lib.hid hG
  have HK := Lib.hid hK
  clear hG hK
  go_wp2_with fail
  refine (HI.out _ f_f_1.out.ints (HT.out.below B1.out HT.out.lt)).mono ?_
  rintro e w2 ⟨rfl, hb2⟩
  have B2 := Lib.hid (B1.out.trans (hb2.mono B1.out.size))
  have f_f_2 := Lib.hid (f_f_1.out.step hb2)
  clear hb2 B1 f_f_1
  clear f_0 f_1
  have f_0 := f_f_2.out.x0
  have f_1 := f_f_2.out.x1
  go_wp2_with fail
  refine (HSP.out _ f_f_2.out.ints).mono ?_
  rintro e w3 ⟨rfl, hb3⟩
  have B3 := Lib.hid (B2.out.trans (hb3.mono B2.out.size))
  have f_f_3 := Lib.hid (f_f_2.out.step hb3)
  clear hb3 B2 f_f_2
  clear f_0 f_1
  have f_0 := f_f_3.out.x0
  have f_1 := f_f_3.out.x1
  clear HI HSP
  cases K
  · clear HK HG HRE HAL
    go_wp2
    go_ret
    exact ⟨rfl, B3.out⟩
  · obtain ⟨k, hmk, hk1, hk6, hset, hl8⟩ := fam_nat2 HK.out.symm
    subst hmk
    have hRS := redZ_sets hk6 hset
    have hr8 := red_fits hk6 hl8 (k := k)
    have hfN : famIn (k : Int) (redZ k zs) = true := fam_of hk1 hk6 hr8 hRS
    have HAN : Hid (∀ b d W, Ints W W.heap.size b (redZ k zs) → Tab W → Calls Tryd.prog 36 #[.agg #[.int .i64 (k : Int), .slice b (redZ k zs).length d]] W (RetIB W ((togK (redZ k zs) (2 ^ (redZ k zs).length - 1) : Nat) : Int) true)) := Lib.hid fun b d W h h' => by
      have := implAllT_any (k : Int) b d (redZ k zs) W h h' (by omega)
      rw [hfN, show allZ (k : Int) (redZ k zs) = ((togK (redZ k zs) (2 ^ (redZ k zs).length - 1) : Nat) : Int) by unfold allZ; rw [hfN, if_pos rfl]] at this
      exact this
    have hal : allZ (k : Int) zs = ((togK zs (2 ^ zs.length - 1) : Nat) : Int) := by unfold allZ; rw [← HK.out, if_pos rfl]
    have hA64 := togAll_lt hk6 hset
    have hB64 := togAll_lt hk6 hRS
    have hAc := cntK_mb hk6 hset
    have hBc := cntK_mb hk6 hRS
    have hGe : G = ((mbN zs + zs.length : Nat) : Int) - ((mbN (redZ k zs) + (redZ k zs).length : Nat) : Int) := by rw [HG.out]; unfold stepsI; rw [← HK.out, if_pos rfl, Int.toNat_natCast]
    have hm6 := mbN_le zs
    have hm7 := mbN_le (redZ k zs)
    rw [hal] at HAL
    simp only [famM, famF, if_true, Int.toNat_natCast] at HRE
    obtain ⟨N, hN⟩ : ∃ N, N = redZ k zs := ⟨_, rfl⟩
    rw [← hN] at HAN HRE hB64 hBc hGe hm7 hr8
    obtain ⟨A, hA⟩ : ∃ A, A = togK zs (2 ^ zs.length - 1) := ⟨_, rfl⟩
    obtain ⟨B, hB⟩ : ∃ B, B = togK N (2 ^ N.length - 1) := ⟨_, rfl⟩
    rw [← hA] at HAL hA64 hAc
    rw [← hB] at HAN hB64 hBc
    have HSA := Lib.hid (fun W => lawSizeW_any A W (by omega))
    have HSB := Lib.hid (fun W => lawSizeW_any B W (by omega))
    rw [hAc] at HSA
    rw [hBc] at HSB
    obtain ⟨MA, hMA⟩ : ∃ MA, MA = mbN zs := ⟨_, rfl⟩
    obtain ⟨MB, hMB⟩ : ∃ MB, MB = mbN N := ⟨_, rfl⟩
    rw [← hMA] at HSA hGe hm6
    rw [← hMB] at HSB hGe hm7
    obtain ⟨LZ, hLZ⟩ : ∃ LZ, LZ = zs.length := ⟨_, rfl⟩
    obtain ⟨LN, hLN⟩ : ∃ LN, LN = N.length := ⟨_, rfl⟩
    have HGE := Lib.hid hGe
    have hlz8 : LZ ≤ 8 := by omega
    have hln8 : LN ≤ 8 := by omega
    clear hal hA64 hB64 hAc hBc hGe hfN hRS hset hA hB hMA hMB hN hl HG
    go_wp2_with fail
    refine (HRE.out _ f_f_3.out.ints (HT.out.below B3.out HT.out.lt)).mono ?_
    rintro e w4 ⟨a4, c4, rfl, ho4, hb4⟩
    have F4 := FB.start (m := (k : Int)) (c := c4) (own_ints ho4)
    have hb4x := hb4.trans ((below1 w4 (.cells #[.int .i64 (k : Int), .slice a4 N.length c4] 25)).mono hb4.size)
    have B4 := Lib.hid (B3.out.trans (hb4x.mono B3.out.size))
    have f_f_4 := Lib.hid (f_f_3.out.step hb4x)
    have f_g_4 := Lib.hid F4
    clear F4 ho4 hb4 hb4x B3 f_f_3 HRE
    clear f_0 f_1
    have f_0 := f_f_4.out.x0
    have f_1 := f_f_4.out.x1
    go_wp2_with fail
    refine (HAL.out _ f_f_4.out.ints (HT.out.below B4.out HT.out.lt)).mono ?_
    rintro e w5 ⟨rfl, hb5⟩
    have B5 := Lib.hid (B4.out.trans (hb5.mono B4.out.size))
    have f_f_5 := Lib.hid (f_f_4.out.step hb5)
    have f_g_5 := Lib.hid (f_g_4.out.step hb5)
    clear hb5 B4 f_f_4 f_g_4 HAL
    clear f_0 f_1
    have g_0 := f_g_5.out.x0
    have g_1 := f_g_5.out.x1
    go_wp2_with fail
    refine (HAN.out _ _ _ f_g_5.out.ints (HT.out.below B5.out HT.out.lt)).mono ?_
    rintro e w6 ⟨rfl, hb6⟩
    have B6 := Lib.hid (B5.out.trans (hb6.mono B5.out.size))
    have f_f_6 := Lib.hid (f_f_5.out.step hb6)
    have f_g_6 := Lib.hid (f_g_5.out.step hb6)
    clear hb6 B5 f_f_5 f_g_5 HAN
    clear g_0 g_1
    have f_1 := f_f_6.out.x1
    have g_1 := f_g_6.out.x1
    rw [← hLZ] at f_1 HGE
    rw [← hLN] at g_1 HGE
    clear hLZ hLN
    have hw1 : IntKind.i64.wrap ((MA : Int) - (MB : Int)) = (MA : Int) - (MB : Int) := IntWalk.i64_in _ (by omega)
    have hw2 : IntKind.i64.wrap ((MA : Int) - (MB : Int) + (LZ : Int)) = (MA : Int) - (MB : Int) + (LZ : Int) := IntWalk.i64_in _ (by omega)
    have hw3 : IntKind.i64.wrap ((MA : Int) - (MB : Int) + (LZ : Int) - (LN : Int)) = (MA : Int) - (MB : Int) + (LZ : Int) - (LN : Int) := IntWalk.i64_in _ (by omega)
    have hge : (G == ((MA : Int) - (MB : Int) + (LZ : Int) - (LN : Int))) = true := by rw [beq_iff_eq, HGE.out]; omega
    go_wp2
    go_still_tail 24, (by kernel_rfl)
    repeat still_step
    still_call ((HSA.out _).mono fun _ _ h => ⟨h.1, h.2.symm⟩)
    repeat still_step
    still_call ((HSB.out _).mono fun _ _ h => ⟨h.1, h.2.symm⟩)
    repeat still_step
    try refine wpStill_nil ?_
    change wpList _ _ _ _ _ w6.drew
    go_wp2
    go_ret
    exact ⟨by simp, B6.out.drew⟩

end Go.Proofs.YtemolmkkiagiiaaDoor

/- It is proved that what a row lists of the library's tables is what the walks ask of them; conditions: none but the row's. -/
namespace Go.Proofs.YtemolmkkiagiiaaDoor
open Go.ChangeShapes Go.WideShapes Go.ChangeAt Go.RowKit Go.Joins

def laidL : List (String × DataW Unit) := [("math/bits.deBruijn32tab", Rows.laid_math_bits_deBruijn32tab), ("math/bits.deBruijn64tab", Rows.laid_math_bits_deBruijn64tab)]
theorem Tryd.g0 : Tryd.prog.globalNamed "math/bits.deBruijn32tab" = some 0 := by kernel_rfl
theorem Tryd.g1 : Tryd.prog.globalNamed "math/bits.deBruijn64tab" = some 1 := by kernel_rfl
theorem Tryd.tg0 : (Tryd.prog.globals[0]?).map (·.type) = some 92 := by kernel_rfl
theorem Tryd.tg1 : (Tryd.prog.globals[1]?).map (·.type) = some 93 := by kernel_rfl
theorem tab_is : (Rows.laid_math_bits_deBruijn64tab : DataW Unit) = Lib.tabData .u8 (Lib.deBruijn64tab.map fun (n : Nat) => (n : Int)) := rfl
/-- The door's own heap meets the condition: closed facts. -/
theorem door_met (os : Os) (args : Array Value) : laidMetH Tryd.prog laidL ((World.doorLaid Tryd.prog 40 os).forCall (fun _ _ => 0) ⟨#[], args, []⟩).memory :=
  laidMetH_of_parts3 (fuel := 8) (laidMet_of_run' 8 (by kernel_rfl) (by kernel_rfl)) (by kernel_rfl) (by kernel_rfl)

set_option maxRecDepth 100000 in
theorem tab_of_laid {W : World} (h : laidMetH Tryd.prog laidL W) : Tab W := by
  rw [MakeChecks.laidMetH_plain _ _ _ (by kernel_rfl)] at h
  obtain ⟨ps, ⟨g0, t0, cs0, f0, p0, q0, hg0, ht0, hv0, hd0, ⟨g1, t1, cs1, f1, p1, q1, hg1, ht1, hv1, hd1, _, _⟩, _⟩, _, _⟩ := h
  obtain rfl := Option.some.inj (Tryd.g1.symm.trans hg1)
  obtain rfl := Option.some.inj (Tryd.tg1.symm.trans ht1)
  rw [tab_is] at hd1
  have hcs := Lib.cells_of_tab (n := 64) (e := 5) Tryd.underlying93 Tryd.underlying5 (by kernel_rfl) (by kernel_rfl) hd1
  intro j hj
  have h1 := World.var?_cell hg1 hv1 j
  rw [h1, ← Array.getElem?_toList, hcs]
  simp [List.getD, hj]

end Go.Proofs.YtemolmkkiagiiaaDoor
