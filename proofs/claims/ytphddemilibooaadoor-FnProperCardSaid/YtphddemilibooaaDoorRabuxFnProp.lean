/- It is proved what the reference model's ColourProper returns; conditions: those of each statement. -/
import Derived.RowKit
import Derived.Laws.CopyRow
import Derived.Lib.SlBuf
import Derived.Deep.QuietTactic
import Derived.RangeFuncNested
import Derived.RangeFuncBound
import Derived.RangeFuncCalls
import Derived.RangeFuncLeaves
import Derived.RangeFuncBox
import Derived.RangeFuncWrites
import Derived.StillTailTactics
import Derived.Maps.OwnIn
import Derived.Maps.Ext
import Derived.DeepKeys4
import Derived.MapKept
import Derived.Test.YtphddemilibooaaDoorRows
import Derived.WalkKit
import Derived.WalkSpells
import Derived.ProofKit
import Derived.OpenShut
import Derived.ShutString
import Derived.ChangeOld
import Derived.Below
import Derived.Deep.RegionHeld3
import Derived.BigQuiet
import Derived.Lib.Hide
import Derived.Lib.SmallJoins
import Derived.Outline
import Derived.Laws.MakeOwn
import Derived.Laws.OwnMore
import Derived.IntWalk
import Derived.Maps.AppendAt
import Derived.Sort.MapsRangeIn
import Derived.Deep.RegionLaw
import Derived.Deep.AppendLies
import Derived.Lib.AppendZeros
import Derived.OwnWalk
import Derived.Lib.SlicesCompact
import Derived.Lib.OwnBridge
import Derived.OrdersIn
import Derived.TacticsIn
import Derived.Shelf.Sort.Plain
import Derived.Shelf.Slices.In.SortNone
import Derived.Shelf.Slices.CompactI
import Derived.Ground.Names2Prog
import Derived.Lib.SliceRun
import Derived.Shelf.RegionOpen
import Derived.Shelf.Abstract
import Derived.OwnWalkIn
import Derived.TacticsInMore
import Derived.LoopNIn
import Derived.LoopIn
import Derived.StillTail
import Derived.StillTactics
import Derived.Shelf.Spec.TrailingZeros
import Derived.Deep.LoopGhost
import Derived.Test.YtphddemilibooaaDoorRabjxFnProp
import Derived.Test.YtphddemilibooaaDoorRaaa
import Derived.Test.YtphddemilibooaaDoorRaac
import Derived.Test.YtphddemilibooaaDoorRaab
import Derived.Test.YtphddemilibooaaDoorRaad
import Derived.Test.YtphddemilibooaaDoorRaas
import Derived.Test.YtphddemilibooaaDoorRaaw
import Derived.Test.YtphddemilibooaaDoorRabhxFnProp
import Derived.Test.YtphddemilibooaaDoorRabkxFnProp
import Derived.Test.YtphddemilibooaaDoorRabmxFnProp
import Derived.Test.YtphddemilibooaaDoorRabnxFnProp
import Derived.Test.YtphddemilibooaaDoorRaboxFnProp
import Derived.Test.YtphddemilibooaaDoorRabtxFnProp
import Derived.Test.YtphddemilibooaaDoorRaal
import Derived.Test.YtphddemilibooaaDoorKc
import Derived.Test.YtphddemilibooaaDoorRaav
import Derived.Test.YtphddemilibooaaDoorRaaz
import Derived.Test.YtphddemilibooaaDoorRaay
import Derived.Test.YtphddemilibooaaDoorYa
import Derived.Test.YtphddemilibooaaDoorRabrxFnProp
import Derived.Deep.RegionWith
import Derived.Laws.BitsAllLaws
import Derived.Test.YtphddemilibooaaDoorRaaj
import Derived.Test.YtphddemilibooaaDoorRaax
import Derived.Test.YtphddemilibooaaDoorTb
import Derived.Test.YtphddemilibooaaDoorRaau
namespace Go.Proofs.YtphddemilibooaaDoor
open Go.RowKit

/-- The model's question, up to a member, and up to a pair. -/
def proW (zs cs : List Int) (v w : Nat) : Bool := (List.range w).all fun w => !pairB zs v w || (cs[v]?.getD 0 != cs[w]?.getD 0)

def proV (zs cs : List Int) (v : Nat) : Bool := (List.range v).all fun v => proW zs cs v v
theorem proW_succ (zs cs : List Int) (v w : Nat) : proW zs cs v (w + 1) = (proW zs cs v w && (!pairB zs v w || (cs[v]?.getD 0 != cs[w]?.getD 0))) := by simp [proW, List.range_succ, List.all_append]
theorem proV_succ (zs cs : List Int) (v : Nat) : proV zs cs (v + 1) = (proV zs cs v && proW zs cs v v) := by simp [proV, List.range_succ, List.all_append]
def properTo (m : Nat) (zs : List Int) (k j : Nat) : Nat := (List.range j).countP fun c => proB zs (digs k m c)
theorem properTo_succ (m : Nat) (zs : List Int) (k j : Nat) : properTo m zs k (j + 1) = properTo m zs k j + if proB zs (digs k m j) then 1 else 0 := by
  unfold properTo
  rw [List.range_succ, List.countP_append]
  cases h : proB zs (digs k m j) <;> simp [h]

theorem properTo_all (m : Nat) (zs : List Int) (k : Nat) : properTo m zs k (k ^ m) = cntCP m zs k := by
  unfold properTo cntCP
  rw [← digs_words, List.countP_map]
  rfl

theorem properTo_le (m : Nat) (zs : List Int) (k j : Nat) : properTo m zs k j ≤ j := by
  unfold properTo
  exact Nat.le_trans List.countP_le_length (by simp)

set_option maxRecDepth 100000 in
theorem tb_fin : ∀ s : Fin 64, ∀ v : Fin 6, bits .and .i64 ((s.val : Int) / 2 ^ v.val) 1 = if s.val.testBit v.val then 1 else 0 := by decide +kernel

theorem pr_bit {zs : List Int} (hz : ∀ z ∈ zs, 0 ≤ z ∧ z.toNat < 64) {v w : Nat} (hv : v < 6) (hw : w < 6) : bits .and .i64 (((prU zs v : Nat) : Int) / 2 ^ w) 1 = if pairB zs v w then 1 else 0 := by
  obtain ⟨h1, h2⟩ := prU_bit (w := w) hv zs (fun z h => (hz z h).2)
  have := tb_fin ⟨prU zs v, h1⟩ ⟨w, hw⟩
  dsimp only at this
  rw [this, h2]
  have e : (decide (w ≠ v) && zs.any fun z => Bt v z && Bt w z) = pairB zs v w := by
    unfold pairB
    congr 1
    simp only [decide_eq_decide]
    exact ⟨fun h e => h e.symm, fun h e => h e.symm⟩
  rw [e]

set_option maxRecDepth 100000 in
set_option maxHeartbeats 8000000 in
theorem specColourProper_any (m k : Int) (a : Option Addr) (c : Nat) (zs : List Int) (w : World) (ha : Ints w w.heap.size a zs) (hx : zs.length ≤ 1048576) :
    Calls Tryd.prog 22 #[.agg #[.int .i64 m, .slice a zs.length c], .int .i64 k] w (RetIB w (outCP m zs k) (okCP m zs k)) := by
  have HB0 := Lib.hid (below1 w (.cells #[.int .i64 m, .slice a zs.length c] 25))
  have HA := Lib.hid (ha.below HB0.out)
  clear ha
  cases hf : famIn m zs
  · have HF := Lib.hid hf
    have HZ : Hid (outCP m zs k = 0) := Lib.hid (by unfold outCP; rw [hf]; rfl)
    have HO : Hid (okCP m zs k = false) := Lib.hid (by unfold okCP; rw [hf]; rfl)
    clear hf
    go_enter Tryd.func22, Tryd.ntmps22
    go_wp2_with fail
    refine (specFamilyIn_any _ _ _ zs _ (HA.out.mono (by simp)) hx).mono ?_
    rintro e w1 ⟨rfl, hb⟩
    rw [HF.out]
    have HB := Lib.hid (HB0.out.trans (hb.mono (by simp)))
    clear hb
    go_wp2
    go_ret2
    exact ⟨by rw [HZ.out, HO.out]; rfl, HB.out⟩
  · cases hc : colIn k 0
    · have HF := Lib.hid hf
      have HC : Hid (inB k 0 4 = false) := Lib.hid (by rw [in_col]; exact hc)
      have HZ : Hid (outCP m zs k = 0) := Lib.hid (by unfold outCP; rw [hf, hc]; rfl)
      have HO : Hid (okCP m zs k = false) := Lib.hid (by unfold okCP; rw [hf, hc]; rfl)
      clear hf hc
      go_enter Tryd.func22, Tryd.ntmps22
      go_wp2_with fail
      refine (specFamilyIn_any _ _ _ zs _ (HA.out.mono (by simp)) hx).mono ?_
      rintro e w1 ⟨rfl, hb⟩
      rw [HF.out]
      have HB := Lib.hid (HB0.out.trans (hb.mono (by simp)))
      clear hb
      go_wp2_with fail
      refine (l6In_any _ _ _ _).mono ?_
      rintro e w2 ⟨rfl, rfl⟩
      rw [HC.out]
      go_wp2
      go_ret2
      exact ⟨by rw [HZ.out, HO.out]; rfl, HB.out⟩
    · have HF := Lib.hid hf
      have HC : Hid (inB k 0 4 = true) := Lib.hid (by rw [in_col]; exact hc)
      obtain ⟨k, rfl, hk4, -⟩ := colIn_nat (Int.le_refl 0) hc
      obtain ⟨m, rfl, hm1, hm6, hset, hl8⟩ := fam_nat2 hf
      have HZ : Hid (outCP (m : Int) zs (k : Int) = ((cntCP m zs k : Nat) : Int)) := Lib.hid (by unfold outCP; rw [hf, hc]; rfl)
      have HO : Hid (okCP (m : Int) zs (k : Int) = true) := Lib.hid (by unfold okCP; rw [hf, hc]; rfl)
      have hP := pow_le6 (show k ≤ 6 by omega) hm6
      obtain ⟨P, hPP⟩ : ∃ P, P = k ^ m := ⟨_, rfl⟩
      have HP : Hid (∀ W, Calls Tryd.prog 51 #[.int .i64 (k : Int), .int .i64 (m : Int)] W fun e w' => e = .returned (.int .i64 (P : Int)) ∧ W = w') := Lib.hid fun W => by rw [hPP]; exact l7Power_any k m (by omega) hm6 W
      have HPP := Lib.hid hPP
      rw [← hPP] at hP
      have hz64 : ∀ z ∈ zs, 0 ≤ z ∧ z.toNat < 64 := fun z h => ⟨(hset z h).1, p64 hm6 (hset z h).2⟩
      have HPR : Hid (∀ W, Ints W W.heap.size a zs → Calls Tryd.prog 50 #[.agg #[.int .i64 (m : Int), .slice a zs.length c]] W fun e w' => ∃ g, e = .returned (.slice (some ⟨g, 0, none⟩) m m) ∧ W.heap.size ≤ g ∧ Nums w' g 3 (rowL (prU zs) m) ∧ Below W.heap.size W w') := Lib.hid fun W h => l6ePairs_any m hm1 hm6 a c zs W h hx hset
      have HPB : Hid (∀ cs : List Int, cs.length = m → proV zs cs m = proB zs cs) := Lib.hid fun cs h => by
        have := proM_is (zs := zs) (c := cs) (by omega) (by rw [h]; exact hset)
        rw [← this]
        unfold proM
        rw [h]
        rfl
      have HZ64 := Lib.hid hz64
      have hPI : (P : Int) ≤ 46656 := by omega
      clear hf hc hset hz64 hPP
      go_enter Tryd.func22, Tryd.ntmps22
      go_wp2_with fail
      refine (specFamilyIn_any _ _ _ zs _ (HA.out.mono (by simp)) hx).mono ?_
      rintro e w1 ⟨rfl, hb⟩
      rw [HF.out]
      have b0 : HasBlk w1 w.heap.size #[.int .i64 (m : Int), .slice a zs.length c] 25 := (hb.block _ (by simp)).trans (alloc_new w _)
      have hz1 : w.heap.size < w1.heap.size := lt_of_some b0
      have x0 := (blk_cell b0 0).trans (cell2_0 _ _)
      have x1 := (blk_cell b0 1).trans (cell2_1 _ _)
      have HB := Lib.hid (HB0.out.trans (hb.mono (by simp)))
      have HI1 := Lib.hid ((HA.out.below (hb.mono (by simp))).mono (show w.heap.size ≤ w1.heap.size by omega))
      have B0 := Lib.hid b0
      clear hb b0
      go_wp2_with fail
      refine (l6In_any _ _ _ _).mono ?_
      rintro e w2 ⟨rfl, rfl⟩
      rw [HC.out]
      go_wp2_with fail
      refine (HPR.out _ HI1.out).mono ?_
      rintro e w2 ⟨g, rfl, hg, hng, hb2⟩
      have hgl := hng.lt
      have HG : Hid (∀ W, Below w2.heap.size w2 W → W.cell? ⟨w.heap.size, 0, none⟩ = some (.int .i64 (m : Int)) ∧ ∀ v, v < m → W.cell? ⟨g, v, none⟩ = some (.int .i64 ((prU zs v : Nat) : Int))) := Lib.hid fun W hW =>
        ⟨(hW.cell (p := ⟨w.heap.size, 0, none⟩) (show w.heap.size < w2.heap.size by have := hb2.size; omega)).trans ((hb2.cell (p := ⟨w.heap.size, 0, none⟩) hz1).trans ((blk_cell B0.out 0).trans (cell2_0 _ _))), fun v hv => by
          have := (hW.cell (p := ⟨g, v, none⟩) hgl).trans (hng.cell v (by rw [rowL_len]; exact hv))
          rwa [rowL_at hv] at this⟩
      have HB2 : Hid (Below w.heap.size w w2) := Lib.hid (HB.out.trans (hb2.mono HB.out.size))
      have HR0 : Hid (Below w2.heap.size w2 w2) := Lib.hid (Below.refl _ _)
      clear hng hb2 hg hgl x0 x1
      go_wp2
      go_loopw [7, 8, 9, 10, 11, 12] (fun s7 s8 _ _ _ _ wr => ∃ j : Nat, j ≤ P ∧ s8 = .int .i64 (j : Int) ∧ s7 = .int .i64 ((properTo m zs k j : Nat) : Int) ∧ Hid (Below w2.heap.size w2 wr)) (fun _ s8 _ _ _ _ _ => P - (intOf s8).toNat)
      case atStart => exact ⟨0, Nat.zero_le _, rfl, rfl, HR0⟩
      case round =>
        obtain ⟨j, hj, rfl, rfl, HS⟩ := hrel
        clear HR0
        obtain ⟨x0, xg⟩ := HG.out _ HS.out
        have hMl := properTo_le m zs k j
        obtain ⟨M, hM⟩ : ∃ M, M = properTo m zs k j := ⟨_, rfl⟩
        have HM := Lib.hid hM
        rw [← hM] at hMl ⊢
        clear hM xg
        have hjI : (j : Int) ≤ 46656 := by omega
        have hj0 : (0 : Int) ≤ (j : Int) := by omega
        have hMI : (M : Int) ≤ 46656 := by omega
        have hM0 : (0 : Int) ≤ (M : Int) := by omega
        by_cases hlt : j < P
        · have hjP : (j : Int) < (P : Int) := by omega
          have hk1 : 1 ≤ k := kpos hm1 (by rw [← HPP.out]; exact hlt)
          have HCO := Lib.hid (l7Colours_any m k j hm1 hm6 hk1 (by omega) (by omega) wr)
          obtain ⟨cs, hcs⟩ : ∃ cs, cs = digs k m j := ⟨_, rfl⟩
          have HCL : Hid (cs.length = m) := Lib.hid (by rw [hcs]; exact digs_len k m j)
          have HSU := Lib.hid (properTo_succ m zs k j)
          rw [← hcs] at HCO HSU
          clear hcs
          go_wp2_with fail
          refine (HP.out _).mono ?_
          rintro e w3 ⟨rfl, rfl⟩
          go_wp2_with fail
          refine HCO.out.mono ?_
          rintro e w4 ⟨rfl, hn4, hb4⟩
          have hb24 : Below w2.heap.size w2 w4 := HS.out.trans (hb4.mono HS.out.size)
          obtain ⟨y0, -⟩ := HG.out _ hb24
          have HN4 := Lib.hid hn4
          have HB24 := Lib.hid hb24
          have HV0 : Hid (Below w4.heap.size w4 w4) := Lib.hid (Below.refl _ _)
          clear hn4 hb4 hb24 x0 HCO
          go_wp2
          go_loopw [10, 11, 12] (fun s10 s11 _ wv => ∃ v : Nat, v ≤ m ∧ s11 = .int .i64 (v : Int) ∧ s10 = .bool (proV zs cs v) ∧ Hid (Below w4.heap.size w4 wv)) (fun _ s11 _ _ => m - (intOf s11).toNat)
          case atStart => exact ⟨0, Nat.zero_le _, rfl, by simp [proV], HV0⟩
          case round =>
            obtain ⟨v, hv, rfl, rfl, HV⟩ := hrel
            obtain ⟨wv, rfl⟩ : ∃ wv, wv = wr := ⟨wr, rfl⟩
            clear HV0 y0
            obtain ⟨y0, yg⟩ := HG.out _ (HB24.out.trans (HV.out.mono HB24.out.size))
            by_cases hvm : v < m
            · have hvI : (v : Int) < (m : Int) := by omega
              have hv0 : (0 : Int) ≤ (v : Int) := by omega
              have HW0 : Hid (proV zs cs v = (proV zs cs v && proW zs cs v 0)) := Lib.hid (by simp [proW])
              clear yg
              go_wp2
              go_loopw [10, 12] (fun s10 s12 ww => ∃ u : Nat, u ≤ v ∧ s12 = .int .i64 (u : Int) ∧ s10 = .bool (proV zs cs v && proW zs cs v u) ∧ Hid (Below w4.heap.size w4 ww)) (fun _ s12 _ => v - (intOf s12).toNat)
              case atStart => exact ⟨0, Nat.zero_le _, rfl, by rw [← HW0.out], HV⟩
              case round =>
                obtain ⟨u, hu, rfl, rfl, HU⟩ := hrel
                clear HW0 y0
                by_cases huv : u < v
                · have huI : (u : Int) < (v : Int) := by omega
                  have hu0 : (0 : Int) ≤ (u : Int) := by omega
                  have hu6 : (u : Int) < 64 := by omega
                  obtain ⟨y0, yg⟩ := HG.out _ (HB24.out.trans (HU.out.mono HB24.out.size))
                  have cp := yg v hvm
                  have hnr : Nums wr _ 3 cs := (HU.out.block _ HN4.out.lt).trans HN4.out
                  have cv := hnr.cell v (by rw [HCL.out]; exact hvm)
                  have cu := hnr.cell u (by rw [HCL.out]; omega)
                  have hbt := pr_bit HZ64.out (show v < 6 by omega) (show u < 6 by omega)
                  have hpl := (prU_bit (w := u) (show v < 6 by omega) zs (fun z h => (HZ64.out z h).2)).1
                  obtain ⟨p, hp⟩ : ∃ p, p = prU zs v := ⟨_, rfl⟩
                  rw [← hp] at cp hbt hpl
                  obtain ⟨x, hx1⟩ : ∃ x, x = cs[v]?.getD 0 := ⟨_, rfl⟩
                  obtain ⟨y, hy1⟩ : ∃ y, y = cs[u]?.getD 0 := ⟨_, rfl⟩
                  rw [← hx1] at cv
                  rw [← hy1] at cu
                  have HX := Lib.hid hx1
                  have HY := Lib.hid hy1
                  have HSW := Lib.hid (proW_succ zs cs v u)
                  obtain ⟨Q, hQ⟩ : ∃ Q, Q = (proV zs cs v && proW zs cs v u) := ⟨_, rfl⟩
                  have HQ : Hid ((proV zs cs v && proW zs cs v (u + 1)) = (Q && (!pairB zs v u || (x != y)))) := Lib.hid (by rw [HSW.out, hQ, HX.out, HY.out, Bool.and_assoc])
                  rw [← hQ]
                  have hp63 : (p : Int) < 64 := by omega
                  have hp0 : (0 : Int) ≤ (p : Int) := by omega
                  clear hx1 hy1 hQ hp hnr yg HSW
                  cases Q
                  · have HE : Hid (false = (proV zs cs v && proW zs cs v (u + 1))) := Lib.hid (by rw [HQ.out]; simp)
                    clear hbt
                    go_wp2
                    go_quiet (fail)
                    go_wp2
                    go_roundw
                    case rel => exact ⟨u + 1, by omega, by go_num, by rw [← HE.out], Lib.hid (below_drewN HU.out _)⟩
                    case measure => simp [intOf]; omega
                  · cases hpb : pairB zs v u
                    · have HE : Hid (true = (proV zs cs v && proW zs cs v (u + 1))) := Lib.hid (by rw [HQ.out, hpb]; simp)
                      rw [hpb] at hbt
                      simp only [Bool.false_eq_true, if_false] at hbt
                      clear hpb
                      go_wp2
                      go_quiet (fail)
                      go_wp2
                      go_roundw
                      case rel => exact ⟨u + 1, by omega, by go_num, by rw [← HE.out], Lib.hid (below_drewN HU.out _)⟩
                      case measure => simp [intOf]; omega
                    · rw [hpb] at hbt
                      simp only [if_true] at hbt
                      by_cases hxy : x = y
                      · have HE : Hid (false = (proV zs cs v && proW zs cs v (u + 1))) := Lib.hid (by rw [HQ.out, hpb, hxy]; simp)
                        subst hxy
                        clear hpb
                        go_wp2
                        go_quiet (fail)
                        go_wp2
                        go_roundw
                        case rel => exact ⟨u + 1, by omega, by go_num, by rw [← HE.out], Lib.hid (below_drewN HU.out _)⟩
                        case measure => simp [intOf]; omega
                      · have HE : Hid (true = (proV zs cs v && proW zs cs v (u + 1))) := Lib.hid (by rw [HQ.out, hpb]; simp [hxy])
                        clear hpb
                        go_wp2
                        go_quiet (fail)
                        go_wp2
                        go_roundw
                        case rel => exact ⟨u + 1, by omega, by go_num, by rw [← HE.out]; simp [hxy], Lib.hid (below_drewN HU.out _)⟩
                        case measure => simp [intOf]; omega
                · obtain rfl : u = v := by omega
                  have HE : Hid ((proV zs cs u && proW zs cs u u) = proV zs cs (u + 1)) := Lib.hid (proV_succ zs cs u).symm
                  rw [HE.out]
                  go_wp2
                  go_roundw
                  case rel => exact ⟨u + 1, by omega, by go_num, rfl, HU⟩
                  case measure => simp [intOf]; omega
            · obtain rfl : v = m := by omega
              have HE := HPB.out cs HCL.out
              rw [HE]
              have HBW : Hid (Below w2.heap.size w2 wv) := Lib.hid (HB24.out.trans (HV.out.mono HB24.out.size))
              clear HE yg
              cases hpr : proB zs cs
              · have HEE : Hid (properTo v zs k (j + 1) = M) := Lib.hid (by have HE := HSU.out; rw [hpr, ← HM.out] at HE; simpa using HE)
                clear hpr
                go_wp2
                go_roundw
                case rel => exact ⟨j + 1, by omega, by go_num, by rw [HEE.out], HBW⟩
                case measure => simp [intOf]; omega
              · have HEE : Hid (properTo v zs k (j + 1) = M + 1) := Lib.hid (by have HE := HSU.out; rw [hpr, ← HM.out] at HE; simpa using HE)
                clear hpr
                go_wp2
                go_roundw
                case rel => exact ⟨j + 1, by omega, by go_num, by rw [HEE.out]; go_num, HBW⟩
                case measure => simp [intOf]; omega
        · obtain rfl : j = P := by omega
          have HE : Hid (M = cntCP m zs k) := Lib.hid (by rw [HM.out, HPP.out, properTo_all])
          have HR : Hid (Below w.heap.size w wr) := Lib.hid (HB2.out.trans (HS.out.mono HB2.out.size))
          go_wp2_with fail
          refine (HP.out _).mono ?_
          rintro e w3 ⟨rfl, rfl⟩
          go_wp2
          go_ret2
          exact ⟨by rw [HZ.out, HO.out, ← HE.out]; rfl, HR.out⟩

end Go.Proofs.YtphddemilibooaaDoor

/- It is proved how the greatest set of clubs that meet, stars and packs compare, and what the dual of a family with one for all is; conditions: those of each statement. -/
namespace Go.Proofs.YtphddemilibooaaDoor
open Go.RowKit Go.Shelf

theorem count_bit_fin : ∀ s : Fin 64, ∀ v : Fin 6, (mem s.val).count v.val = if s.val.testBit v.val then 1 else 0 := by decide +kernel
end Go.Proofs.YtphddemilibooaaDoor

/- It is proved that the orbits of a family's own names divide its members, have members of one degree, and sizes that divide the number of own names; conditions: those of each statement. -/
namespace Go.Proofs.YtphddemilibooaaDoor
open Go.RowKit

/-! ### orbits as sets -/
/-! ### sizes -/
/-! ### degrees -/
theorem count_bit {s v : Nat} (hs : s < 64) (hv : v < 6) : (mem s).count v = if s.testBit v then 1 else 0 := count_bit_fin ⟨s, hs⟩ ⟨v, hv⟩
theorem deg_countP {v : Nat} (hv : v < 6) : ∀ (zs : List Int), (∀ z ∈ zs, z.toNat < 64) → (allMem zs).count v = zs.countP fun z => z.toNat.testBit v
  | [], _ => by simp [allMem]
  | z :: zs, h => by
    rw [allMem_cons, List.count_append, deg_countP hv zs (fun x hx => h x (by simp [hx])), count_bit (h z (by simp)) hv, List.countP_cons, Nat.add_comm]

/-! ### all at once -/
end Go.Proofs.YtphddemilibooaaDoor

/- It is proved what the method mapped returns, by which closure it may be called; conditions: those of the statement. -/
namespace Go.Proofs.YtphddemilibooaaDoor
open Go.RowKit Go.Shelf

attribute [local go_sem] Oper.semAt_some

/-- The clubs with their places, behind what is known of them. -/
def fstOf {P : Nat × Int → Prop} (ys : List { p // P p }) : List (Nat × Int) := ys.map (·.1)

theorem fstOf_snoc {P : Nat × Int → Prop} (ys : List { p // P p }) (y : { p // P p }) : fstOf (ys ++ [y]) = fstOf ys ++ [y.1] := by simp [fstOf]
theorem fstOf_length {P : Nat × Int → Prop} (ys : List { p // P p }) : (fstOf ys).length = ys.length := by simp [fstOf]
end Go.Proofs.YtphddemilibooaaDoor

/- It is proved what the method mapped returns, called by the closure of pairsWithout; conditions: those of each statement. -/
namespace Go.Proofs.YtphddemilibooaaDoor
open Go.RowKit Go.Shelf

attribute [local go_sem] Oper.semAt_some

set_option maxRecDepth 100000 in
set_option maxHeartbeats 4000000 in
theorem mappedW (P : Nat × Int → Prop) (m : Int) (a : Option Addr) (c : Nat) (zs : List Int) (X : Nat) (f : Int → Int) (w : World) (ha : Ints w w.heap.size a zs) (hx : zs.length ≤ 1048576)
    (hP : ∀ k, k < zs.length → P (k, zs[k]?.getD 0)) (hK : ∀ p W, P p → Below w.heap.size w W → Calls Tryd.prog 100 #[.int .i64 p.2, .pointer (some ⟨X, 0, none⟩)] W fun e W' => e = .returned (.int .i64 (f p.2)) ∧ Below W.heap.size W W') :
    Calls Tryd.prog 99 #[.agg #[.int .i64 m, .slice a zs.length c], .func (.func 100) #[] #[.pointer (some ⟨X, 0, none⟩)]] w (RetFam w m (zs.map f)) := by
  obtain ⟨i0, hi0, hz0, hz1, hz2⟩ := info_parts Tryd.info3
  have HI := Lib.hid ha
  have HK := Lib.hid hK
  clear ha hK
  have bR3 := Lib.hid (below3 w (.cells #[.int .i64 m, .slice a zs.length c] 25) (.cells #[.func (.func 100) #[] #[.pointer (some ⟨X, 0, none⟩)]] 57) (.cells #[.int .i64 0, .slice none 0 0] 25))
  refine (callsIn_wide (n := 6)).1 ?_
  refine callsIn_of_wp_marks Tryd.func99 rfl trivial ?_ rfl
  simp only [Tryd.ntmps99, List.size_toArray, List.length_cons, List.length_nil, Nat.reduceAdd, Nat.reduceSub, Array.replicate_succ, Array.replicate_zero, List.push_toArray, List.append_toArray, List.nil_append, List.cons_append]
  gi_wp2_with (gi_at_make; refine mark_make ?_)
  refine unmark_make ?_
  refine wpListIn_make_own _ rfl _ _ 23 rfl (w.heap.size + 1 + 1 + 1) 3 i0 (.int .i64 0) 1 Tryd.underlying23 hi0 hz0 hz1 .i64 .i64 _ zs.length rfl rfl rfl (by rw [hz2]; omega) (by simp only [maxLen]; omega) (by simp) ?_
  intro w1 hown hg
  have q0 := made_0 hg
  have q1 := made_1 hg
  have q2 := made_2 hg
  have y0 := blk_cell (w := w1.alloc (.cells #[.slice (some ⟨w.heap.size + 1 + 1 + 1, 0, none⟩) 0 zs.length] 23)) ((alloc_old _ _ _ (lt_of_some q0)).trans q0) 0
  have y1 := blk_cell (w := w1.alloc (.cells #[.slice (some ⟨w.heap.size + 1 + 1 + 1, 0, none⟩) 0 zs.length] 23)) ((alloc_old _ _ _ (lt_of_some q0)).trans q0) 1
  have hsz : w.heap.size + 1 + 1 + 1 ≤ w1.heap.size := by have := hg.size; simp at this; omega
  have HQ0 := Lib.hid q0
  have HQ1 := Lib.hid q1
  have HQ2 := Lib.hid q2
  have hGl : w.heap.size + 1 + 1 + 1 < w1.heap.size := by have := (World.ownsRow.lt hown _ rfl).2; simpa using this
  have HO := Lib.hid hown
  have HG := Lib.hid (bR3.out.trans (below_made hg))
  clear q0 q1 q2 hown hg
  simp only [cell2_0, cell2_1] at y0 y1
  gi_wp2_with (refine ⟨trivial, ?_⟩; gi_at_call 37; refine (callsIn_wide.2 (clubs_any _ _ _ _ _)).mono ?_; rintro e w' ⟨rfl, rfl⟩)
  have hle : w.heap.size ≤ w1.heap.size := by omega
  have h16 : 1 ≤ 6 := by omega
  have hmx : Tryd.prog.follows .mixedOrders = true := by kernel_rfl
  have bA := Boxed.new w1 23 (.slice (some ⟨w.heap.size + 1 + 1 + 1, 0, none⟩) 0 zs.length)
  have HBB : Hid (Below w.heap.size w ((w1.alloc (.cells #[.slice (some ⟨w.heap.size + 1 + 1 + 1, 0, none⟩) 0 zs.length] 23)).alloc (.cells #[.int .i64 m, .slice a zs.length c] 25))) := Lib.hid (HG.out.trans ((below2 w1 _ _).mono (by omega)))
  have hst := clubsP_stops P (6 - 1) (by omega) (w1.heap.size + 1) w.heap.size a c zs hx hP ((w1.alloc (.cells #[.slice (some ⟨w.heap.size + 1 + 1 + 1, 0, none⟩) 0 zs.length] 23)).alloc (.cells #[.int .i64 m, .slice a zs.length c] 25)) (by simp) (by simp; omega)
    (by have := blk_cell (alloc_new (w1.alloc (.cells #[.slice (some ⟨w.heap.size + 1 + 1 + 1, 0, none⟩) 0 zs.length] 23)) (.cells #[.int .i64 m, .slice a zs.length c] 25)) 1; simp) (HI.out.below HBB.out)
  refine wpIn_rangeFunc_ownG rfl h16 (gf := 63) (lb := #[.pointer (some ⟨w1.heap.size + 1, 0, none⟩)]) rfl trivial (enters_of Tryd.func63 (by kernel_rfl) rfl)
    hst belowK_t (belowK_b (by simp; omega)) (Below.refl _ _) (fun _ => rfl)
    (fun pre W => ((∃ v, Boxed W w1.heap.size 23 v ∧ W.ownsRow w.heap.size 3 1 v (fstOf pre).length (((fstOf pre).map fun p => f p.2).map (Value.int .i64)) ∧ v = .slice (some ⟨w.heap.size + 1 + 1 + 1, 0, none⟩) (fstOf pre).length zs.length) ∧ (HasBlk W w.heap.size #[.int .i64 m, .slice a zs.length c] 25 ∧ HasBlk W (w.heap.size + 1) #[.func (.func 100) #[] #[.pointer (some ⟨X, 0, none⟩)]] 57 ∧ HasBlk W (w.heap.size + 1 + 1) #[.int .i64 0, .slice none 0 0] 25)) ∧ Below w.heap.size w W)
    (fun _ _ _ => False)
    (OwnFrom.and (OwnFrom.and (Own.from (holdsRow_own w.heap.size w1.heap.size 23 3 1 (fun (pre : List { p // P p }) => (fstOf pre).length) (fun (pre : List { p // P p }) => ((fstOf pre).map fun p => f p.2).map (Value.int .i64)) (fun (pre : List { p // P p }) v => v = .slice (some ⟨w.heap.size + 1 + 1 + 1, 0, none⟩) (fstOf pre).length zs.length)) _) (OwnFrom.and (Own.from (hasBlk_own _ _ _) _) (OwnFrom.and (Own.from (hasBlk_own _ _ _) _) (Own.from (hasBlk_own _ _ _) _)))) (ownFrom_below (Nat.le_refl _) (by simp; omega)))
    (fun _ _ _ _ _ hs _ _ => hs)
    ⟨⟨⟨_, bA.alloc _, by have := ownsRow_base HO.out (B := w.heap.size) (by omega); simpa [fstOf] using (this.alloc _).alloc _, rfl⟩, (HasBlk.alloc HQ0.out _).alloc _, (HasBlk.alloc HQ1.out _).alloc _, (HasBlk.alloc HQ2.out _).alloc _⟩, HBB.out⟩
    (fun x => { tmps := #[.agg #[.int .i64 m, .slice a zs.length c], .func (.func 100) #[] #[.pointer (some ⟨X, 0, none⟩)], .pointer (some ⟨w.heap.size, 0, none⟩), .pointer (some ⟨w.heap.size + 1, 0, none⟩), .pointer (some ⟨w.heap.size + 1 + 1, 0, none⟩), .pointer (some ⟨w1.heap.size, 0, none⟩), undef, .int .i64 x.1.2, .pointer (some ⟨w.heap.size, 1, none⟩), .slice a zs.length c, .int .i64 zs.length, .slice (some ⟨w.heap.size + 1 + 1 + 1, 0, none⟩) 0 zs.length, .agg #[.int .i64 m, .slice a zs.length c], .func (.func 63) #[] #[.pointer (some ⟨w1.heap.size + 1, 0, none⟩)], .int .i64 (x.1.1 : Int), .int .i64 x.1.2, undef, undef, undef, undef, undef, undef, undef, undef, undef, undef], defers := [] }) ?assign ?body ?done ?stop
  case assign =>
    intro l x W K hK
    gi_wp2
    exact hK
  case body =>
    rintro l pre0 x0 W ⟨⟨⟨v, hv, hrow, rfl⟩, q0, q1, q2⟩, hB⟩ hlt0
    have hlt : (fstOf pre0).length < zs.length := by rw [fstOf_length]; exact hlt0
    have hbs := fstOf_snoc pre0 x0
    obtain ⟨x, hx0⟩ := x0
    obtain ⟨pre, hpre⟩ : ∃ pre, pre = fstOf pre0 := ⟨_, rfl⟩
    rw [← hpre] at hv hrow hlt hbs
    have HBS := Lib.hid hbs
    clear hpre hlt0 hbs
    have hc := hv.cell
    have hd := blk_cell q1 0
    simp only [cell1_0] at hd
    have hBd := Lib.hid hB.drew
    have HV := Lib.hid hv
    have HR := Lib.hid hrow
    have hWs : w.heap.size ≤ W.heap.size := hB.size
    have HB := Lib.hid hB
    have HQ0' := Lib.hid q0
    have HQ1' := Lib.hid q1
    have HQ2' := Lib.hid q2
    clear hv hrow hB q0 q1 q2
    have hGlt : w.heap.size + 1 + 1 + 1 < w1.heap.size := hGl
    have hMB : w1.heap.size < W.drew.heap.size := HV.out.lt
    gi_wp2
    gi_region_with_o (refine ⟨trivial, ?_⟩; gi_at_call 100; refine (CallsIn.inRound l (callsIn_wide.2 (HK.out x _ hx0 hBd.out))).mono ?_; rintro e w2 ⟨rfl, hb2⟩; obtain ⟨u, hcu, hfu⟩ := spare_cell (own_after HR.out hb2) pre.length hlt; have hlt2 := lt_of_cell hcu; have hcu' := (World.cell?_alloc_lt w2 (.cells #[.int .i64 (f x.2)] 3) _ hlt2).trans hcu; have hc2 := (hb2.cell (p := ⟨w1.heap.size, 0, none⟩) hMB).trans hc; have hf2 := (hb2.frozen (p := ⟨w1.heap.size, 0, none⟩) hMB).trans HV.out.frozen; have hMB2 := lt_of_cell hc2; have hc3 := after_spare (y := .int .i64 (f x.2)) (k := pre.length) (o := .cells #[.int .i64 (f x.2)] 3) hGlt hMB2 hc2; have hf3 := after_spare_f (y := .int .i64 (f x.2)) (k := pre.length) (o := .cells #[.int .i64 (f x.2)] 3) hGlt hMB2 hf2)
    all_goals (have hend := mapped_end (B := ((w1.alloc (.cells #[.slice (some ⟨w.heap.size + 1 + 1 + 1, 0, none⟩) 0 zs.length] 23)).alloc (.cells #[.int .i64 m, .slice a zs.length c] 25)).heap.size) (x := x) (f := f) hWs hGlt (by omega) hlt hb2 HV.out HR.out HB.out HQ0'.out (by omega) HQ1'.out (by omega) HQ2'.out (by omega); rw [← HBS.out] at hend; exact hend)
  case done =>
    rintro D ys W hD hys ⟨⟨⟨v, hv, hrow, rfl⟩, q0, q1, q2⟩, hB⟩ hK
    rw [show fstOf ys = pairs zs zs.length from hys, pairs_length] at hv hrow
    have hmap : (pairs zs zs.length).map (fun p => f p.2) = zs.map f := by
      rw [show (fun p : Nat × Int => f p.2) = f ∘ (fun p => p.2) from rfl, ← List.map_map, pairs_all]
    rw [hmap] at hrow
    have hc := hv.cell
    have d0 := blk_cell q0 0
    have d2 := blk_cell q2 0
    have d3 := blk_cell q2 1
    have f2 := blk_frozen q2 0
    have f3 := blk_frozen q2 1
    simp only [cell2_0, cell2_1] at d0 d2 d3
    have HR := Lib.hid hrow
    have HB := Lib.hid hB
    have HQ2' := Lib.hid q2
    clear hv hrow hB q0 q1 q2 hmap
    gi_wp2
    have hK' := (KeepsOthers.setCell (W.setCell ⟨w.heap.size + 1 + 1, 0, none⟩ (.int .i64 m)) ⟨w.heap.size + 1 + 1, 1, none⟩ (.slice (some ⟨w.heap.size + 1 + 1 + 1, 0, none⟩) zs.length zs.length)).same D _ ((KeepsOthers.setCell W ⟨w.heap.size + 1 + 1, 0, none⟩ (.int .i64 m)).same D _ hK rfl) rfl
    refine ⟨by simp, .inl ⟨_, _, rfl, run_takeDeferred hK', ?_⟩⟩
    have e0 := cell_kept (World.cell?_setCell_other (W.setCell ⟨w.heap.size + 1 + 1, 0, none⟩ (.int .i64 m)) ⟨w.heap.size + 1 + 1, 1, none⟩ ⟨w.heap.size + 1 + 1, 0, none⟩ (.slice (some ⟨w.heap.size + 1 + 1 + 1, 0, none⟩) zs.length zs.length) (by simp) |>.trans (World.cell?_setCell_same' W ⟨w.heap.size + 1 + 1, 0, none⟩ (.int .i64 m) (by rw [d2]; rfl))) (grownBy_putObj' _ D (.deferred none)) (fun r e => by cases e; exact ⟨_, hK', rfl⟩)
    have e1 := cell_kept (World.cell?_setCell_same' (W.setCell ⟨w.heap.size + 1 + 1, 0, none⟩ (.int .i64 m)) ⟨w.heap.size + 1 + 1, 1, none⟩ (.slice (some ⟨w.heap.size + 1 + 1 + 1, 0, none⟩) zs.length zs.length) (by rw [World.cell?_setCell_other _ _ _ _ (by simp), d3]; rfl)) (grownBy_putObj' _ D (.deferred none)) (fun r e => by cases e; exact ⟨_, hK', rfl⟩)
    refine ⟨.agg #[.int .i64 m, .slice (some ⟨w.heap.size + 1 + 1 + 1, 0, none⟩) zs.length zs.length], by simp [results, Tryd.f99, go_sem, e0, e1], _, _, by rw [List.length_map], ?_, ?_⟩
    · rw [List.length_map]
      have h1 := ownsRow_setCell_ne HR.out (p := ⟨w.heap.size + 1 + 1, 0, none⟩) (by simp [Value.ownBlock]) (.int .i64 m)
      have h2 := ownsRow_setCell_ne h1 (p := ⟨w.heap.size + 1 + 1, 1, none⟩) (by simp [Value.ownBlock]) (.slice (some ⟨w.heap.size + 1 + 1 + 1, 0, none⟩) zs.length zs.length)
      unfold OwnI
      rw [List.length_map]
      exact ownsRow_putObj h2 _ hK' rfl
    · exact ((HB.out.setCell (p := ⟨w.heap.size + 1 + 1, 0, none⟩) (by simp; omega) _).setCell (p := ⟨w.heap.size + 1 + 1, 1, none⟩) (by simp; omega) _).trans (belowK_b (w := w) (Nat.le_refl _) _ D _ _ (by simp at hD; omega) hK' rfl rfl)
  case stop =>
    rintro D c pre W _ _ h _
    exact h.elim

end Go.Proofs.YtphddemilibooaaDoor

/- It is proved what the FamilyOther of the program and of the model return; conditions: those of each statement. -/
namespace Go.Proofs.YtphddemilibooaaDoor
open Go.RowKit

theorem full_b (m : Int) (a : Option Addr) (n cap : Nat) (w : World) (h1 : 1 ≤ m) (h2 : m ≤ 6) :
    Calls Tryd.prog 38 #[.agg #[.int .i64 m, .slice a n cap]] w fun e w' => e = .returned (.int .i64 (fullI m)) ∧ Below w.heap.size w w' :=
  (full_any m a n cap w h1 h2).mono fun e w' ⟨he, hw⟩ => ⟨he, by rw [hw]; exact below1 _ _⟩

end Go.Proofs.YtphddemilibooaaDoor
