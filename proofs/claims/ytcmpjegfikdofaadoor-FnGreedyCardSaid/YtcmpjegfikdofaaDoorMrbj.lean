/- It is proved what leastCovers by clubs, and CoverClubs of the program, return; conditions: those of each statement. -/
import Derived.RowKit
import Derived.Laws.CopyRow
import Derived.Lib.SlBuf
import Derived.Deep.QuietTactic
import Derived.RangeFuncNested
import Derived.RangeFuncBound
import Derived.RangeFuncCalls
import Derived.RangeFuncLeaves
import Derived.RangeFuncBox
import Derived.RangeFuncWrites
import Derived.StillTailTactics
import Derived.Maps.OwnIn
import Derived.Maps.Ext
import Derived.DeepKeys4
import Derived.MapKept
import Derived.Test.YtcmpjegfikdofaaDoorRows
import Derived.WalkKit
import Derived.WalkSpells
import Derived.ProofKit
import Derived.OpenShut
import Derived.ShutString
import Derived.ChangeOld
import Derived.Below
import Derived.Deep.RegionHeld3
import Derived.BigQuiet
import Derived.Lib.Hide
import Derived.Lib.SmallJoins
import Derived.Outline
import Derived.Laws.MakeOwn
import Derived.Laws.OwnMore
import Derived.IntWalk
import Derived.Maps.AppendAt
import Derived.Lib.AppendZeros
import Derived.Deep.AppendLies
import Derived.OwnWalk
import Derived.Lib.SlicesCompact
import Derived.Lib.OwnBridge
import Derived.OrdersIn
import Derived.TacticsIn
import Derived.Shelf.Sort.Plain
import Derived.Shelf.Slices.In.SortNone
import Derived.Shelf.Slices.CompactI
import Derived.Ground.Names2Prog
import Derived.Lib.SliceRun
import Derived.Shelf.Abstract
import Derived.Shelf.RegionOpen
import Derived.OwnWalkIn
import Derived.TacticsInMore
import Derived.LoopNIn
import Derived.LoopIn
import Derived.StillTail
import Derived.StillTactics
import Derived.Shelf.Spec.TrailingZeros
import Derived.Test.YtcmpjegfikdofaaDoorMraa
import Derived.Test.YtcmpjegfikdofaaDoorMrar
import Derived.Test.YtcmpjegfikdofaaDoorMrae
import Derived.Test.YtcmpjegfikdofaaDoorMraf
import Derived.Test.YtcmpjegfikdofaaDoorMrag
import Derived.Test.YtcmpjegfikdofaaDoorKc
import Derived.Test.YtcmpjegfikdofaaDoorKh
import Derived.Test.YtcmpjegfikdofaaDoorMraz
import Derived.Test.YtcmpjegfikdofaaDoorLk
import Derived.Test.YtcmpjegfikdofaaDoorMrab
import Derived.Test.YtcmpjegfikdofaaDoorMrao
import Derived.Test.YtcmpjegfikdofaaDoorMrac
import Derived.Test.YtcmpjegfikdofaaDoorMrat
import Derived.Deep.RegionLaw
import Derived.Deep.RegionWith
import Derived.Test.YtcmpjegfikdofaaDoorDb
import Derived.Test.YtcmpjegfikdofaaDoorKa
import Derived.Test.YtcmpjegfikdofaaDoorKk
import Derived.Test.YtcmpjegfikdofaaDoorMrbc
import Derived.Lib.LaidTab
import Derived.LaidMore
import Derived.Stop.Joined
namespace Go.Proofs.YtcmpjegfikdofaaDoor
open Go.RowKit Go.Shelf

set_option maxRecDepth 100000 in
set_option maxHeartbeats 2000000 in
theorem leastC_any (m : Int) (a : Option Addr) (c : Nat) (zs : List Int) (w : World) (ha : Ints w w.heap.size a zs) (hT : Tab w) (hx : zs.length ≤ 1048576) :
    Calls Tryd.prog 45 #[.int .i64 1, .agg #[.int .i64 m, .slice a zs.length c]] w (RetSB w (lcZ m zs) (famIn m zs)) := by
  unfold lcZ
  have HB0 := Lib.hid (below1 w (.cells #[.int .i64 m, .slice a zs.length c] 25))
  have HA := Lib.hid (ha.below HB0.out)
  clear ha
  cases hf : famIn m zs
  · have HF := Lib.hid hf
    clear hf
    go_enter Tryd.func45, Tryd.ntmps45
    go_wp2_with fail
    refine (implFamilyIn_any _ _ _ zs _ (HA.out.mono (by simp)) hx).mono ?_
    rintro e w1 ⟨rfl, hb⟩
    rw [HF.out]
    have HB := Lib.hid (HB0.out.trans (hb.mono (by simp)))
    clear hb
    go_wp2
    go_ret2
    exact ⟨none, 0, rfl, own_nil _ _, HB.out⟩
  · have HF := Lib.hid hf
    obtain ⟨k, rfl, hk1, hk6, hset, hl8⟩ := fam_nat hf
    clear hf
    go_enter Tryd.func45, Tryd.ntmps45
    go_wp2_with fail
    refine (implFamilyIn_any _ _ _ zs _ (HA.out.mono (by simp)) hx).mono ?_
    rintro e w1 ⟨rfl, hb⟩
    rw [HF.out]
    have b0 : w1.heap[w.heap.size]? = some (.cells #[.int .i64 (k : Int), .slice a zs.length c] 25 (0, 0)) := (hb.block _ (by simp)).trans (alloc_new w _)
    have x0 := (blk_cell b0 0).trans (cell2_0 _ _)
    have x1 := (blk_cell b0 1).trans (cell2_1 _ _)
    have z1 : w.heap.size < w1.heap.size := lt_of_some b0
    obtain ⟨W2, hW2, c0, hs2, hb2⟩ : ∃ W2, w1.drew.alloc (.cells #[.func (.func 92) #[] #[], .func (.func 93) #[] #[], .func (.func 94) #[] #[]] 69) = W2 ∧
      HasBlk W2 w1.heap.size #[.func (.func 92) #[] #[], .func (.func 93) #[] #[], .func (.func 94) #[] #[]] 69 ∧ W2.heap.size = w1.heap.size + 1 ∧ Below w1.heap.size w1 W2 :=
      ⟨_, rfl, alloc_new w1.drew _, by simp, (Below.refl _ w1).drew.trans (below1 w1.drew _)⟩
    have y0 := (hb2.cell (p := ⟨w.heap.size, 0, none⟩) z1).trans x0
    have y1 := (hb2.cell (p := ⟨w.heap.size, 1, none⟩) z1).trans x1
    have e0 : W2.cell? ⟨w1.heap.size, 0, none⟩ = some (.func (.func 92) #[] #[]) := (blk_cell c0 0).trans rfl
    have e1 : W2.cell? ⟨w1.heap.size, 1, none⟩ = some (.func (.func 93) #[] #[]) := (blk_cell c0 1).trans rfl
    have e2 : W2.cell? ⟨w1.heap.size, 2, none⟩ = some (.func (.func 94) #[] #[]) := (blk_cell c0 2).trans rfl
    have hI2 : Ints W2 W2.heap.size a zs := ((HA.out.below (hb.mono (by simp))).below (hb2.mono (by omega))).mono (by omega)
    have HC := Lib.hid (grownCovers_any k hk1 hk6 a c zs W2 hI2 (by omega) hset (hT.below ((HB0.out.trans (hb.mono (by simp))).trans (hb2.mono (by omega))) hT.lt))
    have HB2 := Lib.hid ((HB0.out.trans (hb.mono (by simp))).trans (hb2.mono (by omega)))
    have hff := field_fam
    have HS2 := Lib.hid hs2
    have Z1 := Lib.hid z1
    clear hb b0 c0 hb2 hI2 hs2 z1
    go_wp2_with fail
    go_region_with (first
      | (go_at_call 74; refine (roads_any _).mono ?_; rintro e w3 ⟨rfl, rfl⟩)
      | (go_at_call 93; refine HC.out.mono ?_; rintro e w5 ⟨a5, c5, rfl, ho5, hb5⟩))
    all_goals
      have HO5 := Lib.hid (own_mono ho5 (B' := w.heap.size) (by have := HS2.out; have := Z1.out; omega))
      have HB5 := Lib.hid (HB2.out.trans (hb5.mono (by have := HS2.out; have := Z1.out; omega)))
      clear ho5 hb5
      go_wp2
      go_ret2
      exact ⟨a5, c5, rfl, HO5.out, HB5.out⟩

set_option maxRecDepth 100000 in
theorem implCoverClubs_any (m : Int) (a : Option Addr) (c : Nat) (zs : List Int) (w : World) (ha : Ints w w.heap.size a zs) (hT : Tab w) (hx : zs.length ≤ 1048576) :
    Calls Tryd.prog 16 #[.agg #[.int .i64 m, .slice a zs.length c]] w (RetSB w (lcZ m zs) (famIn m zs)) := by
  have HB0 := Lib.hid (below1 w (.cells #[.int .i64 m, .slice a zs.length c] 25))
  have HC := Lib.hid (leastC_any m a c zs _ ((ha.below HB0.out).mono (show w.heap.size ≤ (w.alloc (.cells #[.int .i64 m, .slice a zs.length c] 25)).heap.size by simp)) (hT.below HB0.out hT.lt) hx)
  clear ha
  go_enter Tryd.func16, Tryd.ntmps16
  go_wp2_with fail
  refine HC.out.mono ?_
  rintro e w1 ⟨a1, c1, rfl, ho, hb⟩
  have HO := Lib.hid (own_mono ho (B' := w.heap.size) (by simp))
  have HB := Lib.hid (HB0.out.trans (hb.mono (by simp)))
  clear ho hb
  go_wp2
  go_ret2
  exact ⟨a1, c1, rfl, HO.out, HB.out⟩

end Go.Proofs.YtcmpjegfikdofaaDoor

/- It is proved that the call of the law FnByClubs returns true; conditions: those of each statement. -/
namespace Go.Proofs.YtcmpjegfikdofaaDoor
open Go.RowKit

theorem empty_facts {m : Int} {zs : List Int} (h : famIn m zs = true) : ((((lcZ m zs).length : Nat) : Int) == 0) = zs.any (fun z => z == 0) := by
  have hf := h
  obtain ⟨k, rfl, hk1, hk6, hS, -⟩ := fam_nat h
  have e : lcZ (k : Int) zs = lcL k zs := by unfold lcZ; rw [hf, if_pos rfl, Int.toNat_natCast]
  rw [e]
  cases ha : zs.any (fun z => z == 0)
  · rw [beq_eq_false_iff_ne]
    have hne : ∀ z ∈ zs, z ≠ 0 := fun z hz e0 => by
      have : zs.any (fun z => z == 0) = true := List.any_eq_true.2 ⟨z, hz, by rw [e0]; rfl⟩
      rw [ha] at this
      cases this
    have hp := Nat.two_pow_pos k
    have hc : covB zs (2 ^ k - 1) = true := covB_iff.2 fun z hz => by
      obtain ⟨z0, z1⟩ := hS z hz
      rw [sub_full z1]
      have := hne z hz
      omega
    obtain ⟨t, -, ht2, ht3⟩ := min_below hk6 _ _ (Nat.le_refl _) (show 2 ^ k - 1 < 2 ^ k by omega) hc
    have hm : ((t : Nat) : Int) ∈ lcL k zs := lcL_mem.2 ⟨t, rfl, ht2, ht3⟩
    have := List.length_pos_of_mem hm
    omega
  · obtain ⟨z, hz, e0⟩ := List.any_eq_true.1 ha
    have : (0 : Int) ∈ zs := by rw [← (beq_iff_eq.1 e0)]; exact hz
    rw [lcL_empty this]
    rfl

set_option maxRecDepth 100000 in
set_option maxHeartbeats 8000000 in
theorem walkFnByClubs (a : Option Addr) (n cap : Nat) (w : World) (hb : Bys w w.heap.size a n) (hT : Tab w) (hn : n ≤ 1048576) (hc : n ≤ cap) (hc2 : cap ≤ 9223372036854775807) :
    Calls Tryd.prog 3 #[.slice a n cap] w fun e w' => e = .returned (.bool true) ∧ Below w.heap.size w w' := by
  have HBy := Lib.hid hb
  have HT := Lib.hid hT
  clear hb hT
  go_enter Tryd.func3, Tryd.ntmps3
  go_wp2_with fail
  refine (drawCoverSets_any a n cap w HBy.out hn hc hc2).mono ?_
  rintro e w1 ⟨m, a1, zs, c1, rfl, hl, ho1, hb1⟩
  have F1 := FB.start (m := m) (c := c1) (own_ints ho1)
  have B1 := Lib.hid (hb1.trans ((below1 w1 (.cells #[.int .i64 m, .slice a1 zs.length c1] 25)).mono hb1.size))
  have hln : zs.length ≤ 1048576 := by omega
  have f_f_1 := Lib.hid F1
  clear F1 ho1 hb1
  have f_0 := f_f_1.out.x0
  have f_1 := f_f_1.out.x1
  obtain ⟨qs, hqs⟩ : ∃ qs, qs = lcZ m zs := ⟨_, rfl⟩
  have hql : qs.length ≤ 1048576 := by rw [hqs]; exact lcZ_len m zs
  have HQS := Lib.hid hqs
  clear hqs
  go_wp2_with fail
  refine (implCoverSets_any m a1 c1 zs _ f_f_1.out.ints hln).mono ?_
  rw [← HQS.out]
  rintro e w2 ⟨a2, c2, rfl, ho2, hb2⟩
  have G2 := Lib.hid (own_ints ho2)
  have B2 := Lib.hid (B1.out.trans (hb2.mono B1.out.size))
  have f_f_2 := Lib.hid (f_f_1.out.step hb2)
  clear ho2 hb2 B1 f_f_1
  clear f_0 f_1
  have f_0 := f_f_2.out.x0
  have f_1 := f_f_2.out.x1
  go_wp2_with fail
  refine (specCoverSets_any m a1 c1 zs _ f_f_2.out.ints hln).mono ?_
  rw [← HQS.out]
  rintro e w3 ⟨a3, c3, rfl, ho3, hb3⟩
  have G3 := Lib.hid (own_ints ho3)
  have B3 := Lib.hid (B2.out.trans (hb3.mono B2.out.size))
  have f_f_3 := Lib.hid (f_f_2.out.step hb3)
  have l_lo_3 := Lib.hid (G2.out.step hb3)
  clear ho3 hb3 B2 f_f_2 G2
  clear f_0 f_1
  have f_0 := f_f_3.out.x0
  have f_1 := f_f_3.out.x1
  cases hd : famIn m zs
  · clear hd HQS
    go_wp2_with fail
    refine (sameInts_any _ _ _ _ _ _ _ l_lo_3.out G3.out hql hql).mono ?_
    rintro e w4 ⟨rfl, hb4⟩
    rw [sameB_refl]
    have B4 := Lib.hid (B3.out.trans (hb4.mono B3.out.size))
    have f_f_4 := Lib.hid (f_f_3.out.step hb4)
    have l_lo_4 := Lib.hid (l_lo_3.out.step hb4)
    have l_lw_4 := Lib.hid (G3.out.step hb4)
    clear hb4 B3 f_f_3 l_lo_3 G3
    clear f_0 f_1
    go_wp2_with fail
    refine (sameInts_any _ _ _ _ _ _ _ l_lo_4.out l_lw_4.out hql hql).mono ?_
    rintro e w5 ⟨rfl, hb5⟩
    rw [sameB_refl]
    have B5 := Lib.hid (B4.out.trans (hb5.mono B4.out.size))
    have f_f_5 := Lib.hid (f_f_4.out.step hb5)
    have l_lo_5 := Lib.hid (l_lo_4.out.step hb5)
    have l_lw_5 := Lib.hid (l_lw_4.out.step hb5)
    clear hb5 B4 f_f_4 l_lo_4 l_lw_4
    go_wp2
    go_ret
    exact ⟨rfl, B5.out⟩
  · have e1 := empty_facts hd
    rw [← HQS.out] at e1
    have HF := Lib.hid hd
    have HE := Lib.hid e1
    clear hd e1
    go_wp2_with fail
    refine (sameInts_any _ _ _ _ _ _ _ l_lo_3.out G3.out hql hql).mono ?_
    rintro e w4 ⟨rfl, hb4⟩
    rw [sameB_refl]
    have B4 := Lib.hid (B3.out.trans (hb4.mono B3.out.size))
    have f_f_4 := Lib.hid (f_f_3.out.step hb4)
    have l_lo_4 := Lib.hid (l_lo_3.out.step hb4)
    have l_lw_4 := Lib.hid (G3.out.step hb4)
    clear hb4 B3 f_f_3 l_lo_3 G3
    clear f_0 f_1
    have f_0 := f_f_4.out.x0
    have f_1 := f_f_4.out.x1
    clear l_lw_4
    go_wp2_with fail
    refine (implCoverClubs_any m a1 c1 zs _ f_f_4.out.ints (HT.out.below B4.out HT.out.lt) hln).mono ?_
    rw [HF.out]
    rw [← HQS.out]
    rintro e w5 ⟨a5, c5, rfl, ho5, hb5⟩
    have G5 := Lib.hid (own_ints ho5)
    have B5 := Lib.hid (B4.out.trans (hb5.mono B4.out.size))
    have f_f_5 := Lib.hid (f_f_4.out.step hb5)
    have l_lo_5 := Lib.hid (l_lo_4.out.step hb5)
    clear ho5 hb5 B4 f_f_4 l_lo_4
    clear f_0 f_1
    obtain ⟨Y, hY⟩ : ∃ Y, Y = zs.length := ⟨_, rfl⟩
    have HY := Lib.hid hY
    have hY1 : Y ≤ 1048576 := by rw [hY]; exact hln
    clear hl HQS HF hY
    go_wp2
    go_loopw [10, 11] (fun v i wr => ∃ (k : Nat) (b' : Bool), k ≤ Y ∧ i = .int .i64 (k : Int) ∧ v = .bool b' ∧ b' = (zs.take k).any (fun z => z == 0) ∧ Below w5.heap.size w5 wr) (fun _ i _ => Y - (intOf i).toNat)
    case atStart => exact ⟨0, false, Nat.zero_le _, rfl, rfl, by simp, Below.refl _ _⟩
    case round =>
      obtain ⟨k, bb, hk, rfl, rfl, hbb, hB⟩ := hrel
      have HBI := Lib.hid hbb
      clear hbb
      have FR := Lib.hid (f_f_5.out.step hB)
      have g1 : wr.cell? ⟨w1.heap.size, 1, none⟩ = some (.slice a1 Y c1) := by rw [HY.out]; exact FR.out.x1
      by_cases hlt : k < Y
      · have hkq : k < zs.length := by rw [← HY.out]; exact hlt
        have HNX : Hid ((zs.take (k + 1)).any (fun z => z == 0) = (bb || ((zs[k]?.getD 0) == 0))) := Lib.hid (by rw [List.take_succ_eq_append_getElem hkq, List.any_append, ← HBI.out]; simp [hkq])
        have HB := Lib.hid hB
        cases bb
        · obtain ⟨b1, o1, ha1, hb1, hc1⟩ := FR.out.ints.at_ (k := k) hkq
          subst ha1
          obtain ⟨q, hq⟩ : ∃ q, q = zs[k]?.getD 0 := ⟨_, rfl⟩
          rw [← hq] at hc1 HNX
          clear hB hq hkq hb1 FR
          cases hp : (q == 0)
          · have HP := Lib.hid hp
            go_wp2
            go_roundw
            case rel => exact ⟨k + 1, false, by omega, by go_num, rfl, by rw [HNX.out, HP.out]; rfl, HB.out⟩
            case measure => simp [intOf]; omega
          · have HP := Lib.hid hp
            go_wp2
            go_roundw
            case rel => exact ⟨k + 1, true, by omega, by go_num, rfl, by rw [HNX.out, HP.out]; rfl, HB.out⟩
            case measure => simp [intOf]; omega
        · clear hB hkq FR
          go_wp2
          go_roundw
          case rel => exact ⟨k + 1, true, by omega, by go_num, rfl, by rw [HNX.out]; rfl, HB.out⟩
          case measure => simp [intOf]; omega
      · obtain rfl : k = Y := by omega
        have hE : (((qs.length : Nat) : Int) == 0) = bb := by rw [HE.out, HBI.out, List.take_of_length_le (by have := HY.out; omega)]
        have HEE := Lib.hid hE
        have LA := Lib.hid (l_lo_5.out.step hB)
        have LB := Lib.hid (G5.out.step hB)
        have HR := Lib.hid (B5.out.trans (hB.mono B5.out.size))
        clear hE hB HBI HE FR
        go_wp2_with fail
        refine (sameInts_any _ _ _ _ qs qs _ LB.out LA.out hql hql).mono ?_
        rintro e w9 ⟨rfl, hb9⟩
        rw [sameB_refl]
        have HR9 := Lib.hid (HR.out.trans (hb9.mono HR.out.size))
        have hE := HEE.out
        clear hb9 HR LA LB HEE
        cases bb
        all_goals
          go_wp2
          go_ret
          exact ⟨rfl, HR9.out⟩

end Go.Proofs.YtcmpjegfikdofaaDoor

/- It is proved that what a row lists of the library's tables is what the walks ask of them; conditions: none but the row's. -/
namespace Go.Proofs.YtcmpjegfikdofaaDoor
open Go.ChangeShapes Go.WideShapes Go.ChangeAt Go.RowKit Go.Joins

def laidL : List (String × DataW Unit) := [("math/bits.deBruijn32tab", Rows.laid_math_bits_deBruijn32tab), ("math/bits.deBruijn64tab", Rows.laid_math_bits_deBruijn64tab)]
theorem Tryd.g0 : Tryd.prog.globalNamed "math/bits.deBruijn32tab" = some 0 := by kernel_rfl
theorem Tryd.g1 : Tryd.prog.globalNamed "math/bits.deBruijn64tab" = some 1 := by kernel_rfl
theorem Tryd.tg0 : (Tryd.prog.globals[0]?).map (·.type) = some 96 := by kernel_rfl
theorem Tryd.tg1 : (Tryd.prog.globals[1]?).map (·.type) = some 97 := by kernel_rfl
theorem tab_is : (Rows.laid_math_bits_deBruijn64tab : DataW Unit) = Lib.tabData .u8 (Lib.deBruijn64tab.map fun (n : Nat) => (n : Int)) := rfl
/-- The door's own heap meets the condition: closed facts. -/
theorem door_met (os : Os) (args : Array Value) : laidMetH Tryd.prog laidL ((World.doorLaid Tryd.prog 40 os).forCall (fun _ _ => 0) ⟨#[], args, []⟩).memory :=
  laidMetH_of_parts3 (fuel := 8) (laidMet_of_run' 8 (by kernel_rfl) (by kernel_rfl)) (by kernel_rfl) (by kernel_rfl)

set_option maxRecDepth 100000 in
theorem tab_of_laid {W : World} (h : laidMetH Tryd.prog laidL W) : Tab W := by
  rw [MakeChecks.laidMetH_plain _ _ _ (by kernel_rfl)] at h
  obtain ⟨ps, ⟨g0, t0, cs0, f0, p0, q0, hg0, ht0, hv0, hd0, ⟨g1, t1, cs1, f1, p1, q1, hg1, ht1, hv1, hd1, _, _⟩, _⟩, _, _⟩ := h
  obtain rfl := Option.some.inj (Tryd.g1.symm.trans hg1)
  obtain rfl := Option.some.inj (Tryd.tg1.symm.trans ht1)
  rw [tab_is] at hd1
  have hcs := Lib.cells_of_tab (n := 64) (e := 5) Tryd.underlying97 Tryd.underlying5 (by kernel_rfl) (by kernel_rfl) hd1
  intro j hj
  have h1 := World.var?_cell hg1 hv1 j
  rw [h1, ← Array.getElem?_toList, hcs]
  simp [List.getD, hj]

end Go.Proofs.YtcmpjegfikdofaaDoor
