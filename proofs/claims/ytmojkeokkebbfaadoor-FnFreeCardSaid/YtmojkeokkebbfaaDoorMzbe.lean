/- It is proved that the call of the law FnFree returns true; conditions: those of each statement. -/
import Derived.RowKit
import Derived.Laws.CopyRow
import Derived.Lib.SlBuf
import Derived.Deep.QuietTactic
import Derived.RangeFuncNested
import Derived.RangeFuncBound
import Derived.RangeFuncCalls
import Derived.RangeFuncLeaves
import Derived.RangeFuncBox
import Derived.RangeFuncWrites
import Derived.StillTailTactics
import Derived.Maps.OwnIn
import Derived.Maps.Ext
import Derived.DeepKeys4
import Derived.MapKept
import Derived.Test.YtmojkeokkebbfaaDoorRows
import Derived.WalkKit
import Derived.WalkSpells
import Derived.ProofKit
import Derived.OpenShut
import Derived.ShutString
import Derived.ChangeOld
import Derived.Below
import Derived.Deep.RegionHeld3
import Derived.BigQuiet
import Derived.Lib.Hide
import Derived.Lib.SmallJoins
import Derived.Outline
import Derived.Laws.MakeOwn
import Derived.Laws.OwnMore
import Derived.IntWalk
import Derived.Maps.AppendAt
import Derived.Sort.MapsRangeIn
import Derived.Deep.RegionLaw
import Derived.Deep.AppendLies
import Derived.Deep.RegionWith
import Derived.Shelf.Slices.Reverse
import Derived.Lib.AppendZeros
import Derived.OwnWalk
import Derived.Lib.SlicesCompact
import Derived.Lib.OwnBridge
import Derived.OrdersIn
import Derived.TacticsIn
import Derived.Shelf.Sort.Plain
import Derived.Shelf.Slices.In.SortNone
import Derived.Shelf.Slices.CompactI
import Derived.Ground.Names2Prog
import Derived.Lib.SliceRun
import Derived.Shelf.Abstract
import Derived.Shelf.RegionOpen
import Derived.OwnWalkIn
import Derived.TacticsInMore
import Derived.LoopNIn
import Derived.LoopIn
import Derived.StillTail
import Derived.StillTactics
import Derived.Shelf.Spec.TrailingZeros
import Derived.Test.YtmojkeokkebbfaaDoorMzae
import Derived.Test.YtmojkeokkebbfaaDoorMzad
import Derived.Test.YtmojkeokkebbfaaDoorMzab
import Derived.Test.YtmojkeokkebbfaaDoorDb
import Derived.Test.YtmojkeokkebbfaaDoorMzaf
import Derived.Test.YtmojkeokkebbfaaDoorMzap
import Derived.Test.YtmojkeokkebbfaaDoorMzaw
import Derived.Test.YtmojkeokkebbfaaDoorMzax
import Derived.Test.YtmojkeokkebbfaaDoorMzaz
import Derived.Test.YtmojkeokkebbfaaDoorKq
import Derived.Test.YtmojkeokkebbfaaDoorMzbc
import Derived.Test.YtmojkeokkebbfaaDoorPzB
import Derived.Test.YtmojkeokkebbfaaDoorMzaa
import Derived.Test.YtmojkeokkebbfaaDoorMzan
import Derived.Lib.LaidTab
import Derived.LaidMore
import Derived.Stop.Joined
namespace Go.Proofs.YtmojkeokkebbfaaDoor
open Go.RowKit

set_option maxRecDepth 100000 in
theorem free_fin : ∀ k : Fin 6, ∀ z t : Fin 64, z.val < 2 ^ (k.val + 1) → bits .andNot .i64 (z.val : Int) (bits .andNot .i64 (fullI ((k.val : Int) + 1)) (t.val : Int)) = ((z.val &&& t.val : Nat) : Int) := by decide +kernel

theorem free_and {k : Nat} (h1 : 1 ≤ k) (h6 : k ≤ 6) {z t : Nat} (hz : z < 2 ^ k) (ht : t < 64) : bits .andNot .i64 (z : Int) (bits .andNot .i64 (fullI (k : Int)) (t : Int)) = ((z &&& t : Nat) : Int) := by
  have := free_fin ⟨k - 1, by omega⟩ ⟨z, p64 h6 hz⟩ ⟨t, ht⟩
  simp only [show ((k - 1 : Nat) : Int) + 1 = (k : Int) by omega, show k - 1 + 1 = k by omega] at this
  exact this hz

theorem free_facts {m : Int} {zs : List Int} (h : famIn m zs = true) :
    (∀ j, j < (freeZ m zs).length → (∀ i, i < zs.length → (bits .andNot .i64 (zs[i]?.getD 0) ((freeZ m zs)[j]?.getD 0) == 0) = false) ∧ inCov m zs (bits .andNot .i64 (fullI m) ((freeZ m zs)[j]?.getD 0)) = true) ∧ (lcZ m zs).length = (freeZ m zs).length ∧ 1 ≤ m ∧ m ≤ 6 := by
  have hf := h
  obtain ⟨k, rfl, hk1, hk6, hS, -⟩ := fam_nat h
  refine ⟨fun j hj => ?_, ?_, by omega, by omega⟩
  · rw [List.getElem?_eq_getElem hj, Option.getD_some]
    have hm : (freeZ (k : Int) zs)[j] ∈ freeZ (k : Int) zs := List.getElem_mem hj
    generalize (freeZ (k : Int) zs)[j] = q at hm
    unfold freeZ at hm
    rw [h, if_pos rfl, List.mem_reverse, othL, Int.toNat_natCast, List.mem_map] at hm
    obtain ⟨t', ht', rfl⟩ := hm
    obtain ⟨t, rfl, ht2, ht3⟩ := lcL_mem.1 ht'
    have hcov := ((minB_iff hk6 ht2).1 ht3).1
    have ht64 := p64 hk6 ht2
    refine ⟨fun i hi => ?_, ?_⟩
    · rw [List.getElem?_eq_getElem hi, Option.getD_some]
      have hzm : zs[i] ∈ zs := List.getElem_mem hi
      generalize zs[i] = z at hzm
      obtain ⟨z0, z1⟩ := hS z hzm
      have hne := covB_iff.1 hcov z hzm
      have hzn : z.toNat < 2 ^ k := by omega
      have := free_and hk1 hk6 hzn ht64
      rw [Int.toNat_of_nonneg z0] at this
      rw [this, beq_eq_false_iff_ne]
      omega
    · have hfn := full_nat k
      have hoo := other_other (m := (k : Int)) (z := ((t : Nat) : Int)) (by omega) (by omega) (by omega) (by rw [hfn]; omega)
      rw [hoo]
      unfold inCov
      rw [hf, Int.toNat_natCast, hcov, hfn]
      have : t ≤ 2 ^ k - 1 := by omega
      simp [inB]
      omega
  · unfold lcZ freeZ
    rw [h, if_pos rfl, if_pos rfl, List.length_reverse, othL, List.length_map]

set_option maxRecDepth 100000 in
set_option maxHeartbeats 8000000 in
theorem walkFnFree (a : Option Addr) (n cap : Nat) (w : World) (hb : Bys w w.heap.size a n) (hT : Tab w) (hn : n ≤ 1048576) (hc : n ≤ cap) (hc2 : cap ≤ 9223372036854775807) :
    Calls Tryd.prog 11 #[.slice a n cap] w fun e w' => e = .returned (.bool true) ∧ Below w.heap.size w w' := by
  have HBy := Lib.hid hb
  have HT := Lib.hid hT
  clear hb hT
  go_enter Tryd.func11, Tryd.ntmps11
  go_wp2_with fail
  refine (drawCoverFree_any a n cap w HBy.out hn hc hc2).mono ?_
  rintro e w1 ⟨m, a1, zs, c1, rfl, hl, ho1, hb1⟩
  have F1 := FB.start (m := m) (c := c1) (own_ints ho1)
  have B1 := Lib.hid (hb1.trans ((below1 w1 (.cells #[.int .i64 m, .slice a1 zs.length c1] 25)).mono hb1.size))
  have hln : zs.length ≤ 1048576 := by omega
  have f_f_1 := Lib.hid F1
  clear F1 ho1 hb1
  have f_0 := f_f_1.out.x0
  have f_1 := f_f_1.out.x1
  obtain ⟨qs, hqs⟩ : ∃ qs, qs = freeZ m zs := ⟨_, rfl⟩
  have hql : qs.length ≤ 1048576 := by rw [hqs]; exact freeZ_len m zs
  have HQS := Lib.hid hqs
  clear hqs
  go_wp2_with fail
  refine (implCoverFree_any m a1 c1 zs _ f_f_1.out.ints hln).mono ?_
  rw [← HQS.out]
  rintro e w2 ⟨a2, c2, rfl, ho2, hb2⟩
  have G2 := Lib.hid (own_ints ho2)
  have B2 := Lib.hid (B1.out.trans (hb2.mono B1.out.size))
  have f_f_2 := Lib.hid (f_f_1.out.step hb2)
  clear ho2 hb2 B1 f_f_1
  clear f_0 f_1
  have f_0 := f_f_2.out.x0
  have f_1 := f_f_2.out.x1
  go_wp2_with fail
  refine (specCoverFree_any m a1 c1 zs _ f_f_2.out.ints hln).mono ?_
  rw [← HQS.out]
  rintro e w3 ⟨a3, c3, rfl, ho3, hb3⟩
  have G3 := Lib.hid (own_ints ho3)
  have B3 := Lib.hid (B2.out.trans (hb3.mono B2.out.size))
  have f_f_3 := Lib.hid (f_f_2.out.step hb3)
  have l_lo_3 := Lib.hid (G2.out.step hb3)
  clear ho3 hb3 B2 f_f_2 G2
  clear f_0 f_1
  have f_0 := f_f_3.out.x0
  have f_1 := f_f_3.out.x1
  cases hd : famIn m zs
  · clear hd HQS
    go_wp2_with fail
    refine (sameInts_any _ _ _ _ _ _ _ l_lo_3.out G3.out hql hql).mono ?_
    rintro e w4 ⟨rfl, hb4⟩
    rw [sameB_refl]
    have B4 := Lib.hid (B3.out.trans (hb4.mono B3.out.size))
    have f_f_4 := Lib.hid (f_f_3.out.step hb4)
    have l_lo_4 := Lib.hid (l_lo_3.out.step hb4)
    have l_lw_4 := Lib.hid (G3.out.step hb4)
    clear hb4 B3 f_f_3 l_lo_3 G3
    clear f_0 f_1
    go_wp2_with fail
    refine (sameInts_any _ _ _ _ _ _ _ l_lo_4.out l_lw_4.out hql hql).mono ?_
    rintro e w5 ⟨rfl, hb5⟩
    rw [sameB_refl]
    have B5 := Lib.hid (B4.out.trans (hb5.mono B4.out.size))
    have f_f_5 := Lib.hid (f_f_4.out.step hb5)
    have l_lo_5 := Lib.hid (l_lo_4.out.step hb5)
    have l_lw_5 := Lib.hid (l_lw_4.out.step hb5)
    clear hb5 B4 f_f_4 l_lo_4 l_lw_4
    go_wp2
    go_ret
    exact ⟨rfl, B5.out⟩
  · obtain ⟨e1, e2, hm1, hm6⟩ := free_facts hd
    rw [← HQS.out] at e1 e2
    have HF := Lib.hid hd
    have HE := Lib.hid e1
    have HN := Lib.hid e2
    clear hd e1 e2 HQS
    go_wp2_with fail
    refine (sameInts_any _ _ _ _ _ _ _ l_lo_3.out G3.out hql hql).mono ?_
    rintro e w4 ⟨rfl, hb4⟩
    rw [sameB_refl]
    have B4 := Lib.hid (B3.out.trans (hb4.mono B3.out.size))
    have f_f_4 := Lib.hid (f_f_3.out.step hb4)
    have l_lo_4 := Lib.hid (l_lo_3.out.step hb4)
    have l_lw_4 := Lib.hid (G3.out.step hb4)
    clear hb4 B3 f_f_3 l_lo_3 G3
    clear f_0 f_1
    have f_0 := f_f_4.out.x0
    have f_1 := f_f_4.out.x1
    clear l_lw_4
    obtain ⟨ls, hls⟩ : ∃ ls, ls = lcZ m zs := ⟨_, rfl⟩
    have HLS := Lib.hid hls
    have HNL : Hid (ls.length = qs.length) := Lib.hid (by rw [hls]; exact HN.out)
    have hll : ls.length ≤ 1048576 := by rw [hls]; exact lcZ_len m zs
    clear hls HN
    go_wp2_with fail
    refine (implCoverSets_any m a1 c1 zs _ f_f_4.out.ints hln).mono ?_
    rw [HF.out]
    rw [← HLS.out]
    rintro e w5 ⟨a5, c5, rfl, ho5, hb5⟩
    have G5 := Lib.hid (own_ints ho5)
    have B5 := Lib.hid (B4.out.trans (hb5.mono B4.out.size))
    have f_f_5 := Lib.hid (f_f_4.out.step hb5)
    have l_lo_5 := Lib.hid (l_lo_4.out.step hb5)
    clear ho5 hb5 B4 f_f_4 l_lo_4
    clear f_0 f_1
    rw [HNL.out]
    obtain ⟨Z, hZ⟩ : ∃ Z, Z = qs.length := ⟨_, rfl⟩
    have HZ := Lib.hid hZ
    have hZ1 : Z ≤ 1048576 := by rw [hZ]; exact hql
    rw [← hZ]
    obtain ⟨Y, hY⟩ : ∃ Y, Y = zs.length := ⟨_, rfl⟩
    have HY := Lib.hid hY
    have hY1 : Y ≤ 1048576 := by rw [hY]; exact hln
    have hs1 : w1.heap.size < w5.heap.size := lt_of_some f_f_5.out.blk
    rw [← hZ] at HNL
    clear hZ hql hl HLS HF hY hll
    go_wp2
    go_loopw [10] (fun i wr => ∃ k : Nat, k ≤ Z ∧ i = .int .i64 (k : Int) ∧ Below w5.heap.size w5 wr) (fun i _ => Z - (intOf i).toNat)
    case atStart => exact ⟨0, Nat.zero_le _, rfl, Below.refl _ _⟩
    case round =>
      obtain ⟨k, hk, rfl, hB⟩ := hrel
      obtain ⟨wo, hwo⟩ : ∃ wo, wo = wr := ⟨wr, rfl⟩
      subst hwo
      by_cases hlt : k < Z
      · obtain ⟨E1, E2⟩ := HE.out k (by rw [← HZ.out]; exact hlt)
        obtain ⟨b1, o1, ha1, hb1, hc1⟩ := l_lo_5.out.at_ (k := k) (by rw [← HZ.out]; exact hlt)
        subst ha1
        have v1 := (hB.cell (p := ⟨b1, o1 + k, none⟩) hb1).trans hc1
        obtain ⟨q, hq⟩ : ∃ q, q = qs[k]?.getD 0 := ⟨_, rfl⟩
        rw [← hq] at v1 E1 E2
        have hb1r : b1 < wo.heap.size := Nat.lt_of_lt_of_le hb1 hB.size
        have FR := Lib.hid (f_f_5.out.step hB)
        have HE1 := Lib.hid E1
        have HE2 := Lib.hid E2
        have HBR := Lib.hid hB
        have V1 := Lib.hid v1
        have hX : w1.heap.size < wo.heap.size := lt_of_some FR.out.blk
        clear hB hc1 hq E1 E2 v1 hb1
        go_wp2
        go_loopw [11] (fun i wr => ∃ k2 : Nat, k2 ≤ Y ∧ i = .int .i64 (k2 : Int) ∧ Below wo.heap.size wo wr) (fun i _ => Y - (intOf i).toNat)
        case atStart => exact ⟨0, Nat.zero_le _, rfl, Below.refl _ _⟩
        case round =>
          obtain ⟨k2, hk2, rfl, hBi⟩ := hrel
          have FI := Lib.hid (FR.out.step hBi)
          have g1 : wr.cell? ⟨w1.heap.size, 1, none⟩ = some (.slice a1 Y c1) := by rw [HY.out]; exact FI.out.x1
          by_cases hlt2 : k2 < Y
          · obtain ⟨b2, o2, ha2, hb2, hc2'⟩ := FI.out.ints.at_ (k := k2) (by rw [← HY.out]; exact hlt2)
            have hz := HE1.out k2 (by rw [← HY.out]; exact hlt2)
            obtain ⟨z, hz1⟩ : ∃ z, z = zs[k2]?.getD 0 := ⟨_, rfl⟩
            rw [← hz1] at hc2' hz
            subst ha2
            have v1 := (hBi.cell (p := ⟨b1, o1 + k, none⟩) hb1r).trans V1.out
            have HBI := Lib.hid hBi
            clear hz1 hb2 hBi
            go_wp2
            go_quiet (fail)
            go_wp2
            go_roundw
            case rel => exact ⟨k2 + 1, by omega, by go_num, below_drewN HBI.out _⟩
            case measure => simp [intOf]; omega
          · obtain rfl : k2 = Y := by omega
            have hD : Below wr.heap.size wr wr.drew := ⟨rfl, rfl, rfl, Nat.le_refl _, fun _ _ => rfl⟩
            have FD := Lib.hid (FI.out.step hD)
            have BD := Lib.hid (hBi.trans (hD.mono hBi.size))
            have v1 : wr.drew.cell? ⟨b1, o1 + k, none⟩ = some (.int .i64 q) := (BD.out.cell (p := ⟨b1, o1 + k, none⟩) hb1r).trans V1.out
            have h0 := FD.out.x0
            have h1 := FD.out.x1
            have hX2 : w1.heap.size < wr.drew.heap.size := Nat.lt_of_lt_of_le hX BD.out.size
            have hb2 : b1 < wr.drew.heap.size := Nat.lt_of_lt_of_le hb1r BD.out.size
            clear hBi FI hlt2
            go_wp2
            go_region_held3 (fun w' => w'.cell? ⟨w1.heap.size, 0, none⟩ = some (.int .i64 m) ∧ w'.cell? ⟨w1.heap.size, 1, none⟩ = some (.slice a1 zs.length c1) ∧ w'.cell? ⟨b1, o1 + k, none⟩ = some (.int .i64 q))
              (first
                | exact ⟨h0, h1, v1⟩
                | exact ⟨(hb6.cell (p := ⟨w1.heap.size, 0, none⟩) hX2).trans h0, (hb6.cell (p := ⟨w1.heap.size, 1, none⟩) hX2).trans h1, (hb6.cell (p := ⟨b1, o1 + k, none⟩) hb2).trans v1⟩
                | exact ⟨(hb7.cell (p := ⟨w1.heap.size, 0, none⟩) hX2).trans h0, (hb7.cell (p := ⟨w1.heap.size, 1, none⟩) hX2).trans h1, (hb7.cell (p := ⟨b1, o1 + k, none⟩) hb2).trans v1⟩)
              (first
                | (go_at_call 16; refine (whole_any m a1 zs.length c1 _ hm1 hm6).mono ?_; rintro e w6 ⟨rfl, hb6⟩)
                | (go_at_call 13; refine (implCoverIn_any m a1 c1 zs (bits .andNot .i64 (fullI m) q) _ (FD.out.step hb6).ints hln).mono ?_; rw [HE2.out]; rintro e w7 ⟨rfl, hb7'⟩; have hb7 := hb6.trans (hb7'.mono hb6.size)))
            all_goals
              have HBF := Lib.hid (HBR.out.trans ((BD.out.trans (hb7.mono BD.out.size)).mono HBR.out.size))
              clear hb6 hb7' hb7
              go_wp2
              go_roundw
              case rel => exact ⟨k + 1, by omega, by go_num, HBF.out⟩
              case measure => simp [intOf]; omega
      · obtain rfl : k = Z := by omega
        have HR := Lib.hid (B5.out.trans (hB.mono B5.out.size))
        clear hB
        go_wp2
        go_ret
        exact ⟨rfl, HR.out⟩

end Go.Proofs.YtmojkeokkebbfaaDoor

/- It is proved that what a row lists of the library's tables is what the walks ask of them; conditions: none but the row's. -/
namespace Go.Proofs.YtmojkeokkebbfaaDoor
open Go.ChangeShapes Go.WideShapes Go.ChangeAt Go.RowKit Go.Joins

def laidL : List (String × DataW Unit) := [("math/bits.deBruijn32tab", Rows.laid_math_bits_deBruijn32tab), ("math/bits.deBruijn64tab", Rows.laid_math_bits_deBruijn64tab)]
theorem Tryd.g0 : Tryd.prog.globalNamed "math/bits.deBruijn32tab" = some 0 := by kernel_rfl
theorem Tryd.g1 : Tryd.prog.globalNamed "math/bits.deBruijn64tab" = some 1 := by kernel_rfl
theorem Tryd.tg0 : (Tryd.prog.globals[0]?).map (·.type) = some 96 := by kernel_rfl
theorem Tryd.tg1 : (Tryd.prog.globals[1]?).map (·.type) = some 97 := by kernel_rfl
theorem tab_is : (Rows.laid_math_bits_deBruijn64tab : DataW Unit) = Lib.tabData .u8 (Lib.deBruijn64tab.map fun (n : Nat) => (n : Int)) := rfl
/-- The door's own heap meets the condition: closed facts. -/
theorem door_met (os : Os) (args : Array Value) : laidMetH Tryd.prog laidL ((World.doorLaid Tryd.prog 40 os).forCall (fun _ _ => 0) ⟨#[], args, []⟩).memory :=
  laidMetH_of_parts3 (fuel := 8) (laidMet_of_run' 8 (by kernel_rfl) (by kernel_rfl)) (by kernel_rfl) (by kernel_rfl)

set_option maxRecDepth 100000 in
theorem tab_of_laid {W : World} (h : laidMetH Tryd.prog laidL W) : Tab W := by
  rw [MakeChecks.laidMetH_plain _ _ _ (by kernel_rfl)] at h
  obtain ⟨ps, ⟨g0, t0, cs0, f0, p0, q0, hg0, ht0, hv0, hd0, ⟨g1, t1, cs1, f1, p1, q1, hg1, ht1, hv1, hd1, _, _⟩, _⟩, _, _⟩ := h
  obtain rfl := Option.some.inj (Tryd.g1.symm.trans hg1)
  obtain rfl := Option.some.inj (Tryd.tg1.symm.trans ht1)
  rw [tab_is] at hd1
  have hcs := Lib.cells_of_tab (n := 64) (e := 5) Tryd.underlying97 Tryd.underlying5 (by kernel_rfl) (by kernel_rfl) hd1
  intro j hj
  have h1 := World.var?_cell hg1 hv1 j
  rw [h1, ← Array.getElem?_toList, hcs]
  simp [List.getD, hj]

end Go.Proofs.YtmojkeokkebbfaaDoor
