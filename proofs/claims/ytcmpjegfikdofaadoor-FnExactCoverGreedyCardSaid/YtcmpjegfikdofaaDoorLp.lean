/- It is proved what CoverGreedy of the program returns; conditions: those of each statement. -/
import Derived.RowKit
import Derived.Laws.CopyRow
import Derived.Lib.SlBuf
import Derived.Deep.QuietTactic
import Derived.RangeFuncNested
import Derived.RangeFuncBound
import Derived.RangeFuncCalls
import Derived.RangeFuncLeaves
import Derived.RangeFuncBox
import Derived.RangeFuncWrites
import Derived.StillTailTactics
import Derived.Maps.OwnIn
import Derived.Maps.Ext
import Derived.DeepKeys4
import Derived.MapKept
import Derived.Test.YtcmpjegfikdofaaDoorRows
import Derived.WalkKit
import Derived.WalkSpells
import Derived.ProofKit
import Derived.OpenShut
import Derived.ShutString
import Derived.ChangeOld
import Derived.Below
import Derived.Deep.RegionHeld3
import Derived.BigQuiet
import Derived.Lib.Hide
import Derived.Lib.SmallJoins
import Derived.Outline
import Derived.Laws.MakeOwn
import Derived.Laws.OwnMore
import Derived.IntWalk
import Derived.Lib.AppendZeros
import Derived.Maps.AppendAt
import Derived.Deep.AppendLies
import Derived.OwnWalk
import Derived.Lib.SlicesCompact
import Derived.Lib.OwnBridge
import Derived.OrdersIn
import Derived.TacticsIn
import Derived.Shelf.Sort.Plain
import Derived.Shelf.Slices.In.SortNone
import Derived.Shelf.Slices.CompactI
import Derived.Ground.Names2Prog
import Derived.Lib.SliceRun
import Derived.Shelf.Abstract
import Derived.Shelf.RegionOpen
import Derived.OwnWalkIn
import Derived.TacticsInMore
import Derived.LoopNIn
import Derived.LoopIn
import Derived.StillTail
import Derived.StillTactics
import Derived.Shelf.Spec.TrailingZeros
import Derived.Test.YtcmpjegfikdofaaDoorMraa
import Derived.Test.YtcmpjegfikdofaaDoorMrae
import Derived.Test.YtcmpjegfikdofaaDoorMraf
import Derived.Test.YtcmpjegfikdofaaDoorMrag
import Derived.Test.YtcmpjegfikdofaaDoorKa
import Derived.Test.YtcmpjegfikdofaaDoorKc
import Derived.Test.YtcmpjegfikdofaaDoorMraw
import Derived.Test.YtcmpjegfikdofaaDoorKl
import Derived.Test.YtcmpjegfikdofaaDoorLn
import Derived.Test.YtcmpjegfikdofaaDoorLo
import Derived.Test.YtcmpjegfikdofaaDoorMrbd
import Derived.Test.YtcmpjegfikdofaaDoorMrab
import Derived.Test.YtcmpjegfikdofaaDoorMrao
import Derived.Test.YtcmpjegfikdofaaDoorMrap
import Derived.Test.YtcmpjegfikdofaaDoorMrba
import Derived.Test.YtcmpjegfikdofaaDoorMrac
namespace Go.Proofs.YtcmpjegfikdofaaDoor
open Go.RowKit

set_option maxRecDepth 100000 in
set_option maxHeartbeats 1600000 in
theorem busiest_any (k : Nat) (hk1 : 1 ≤ k) (hk6 : k ≤ 6) (a : Option Addr) (c : Nat) (zs : List Int) (s : Nat) (w : World) (ha : Ints w w.heap.size a (missL zs s)) (hT : Tab w) (hf : famIn (k : Int) zs = true) (h0 : 1 ≤ dgN zs s (bestP (dgN zs s) k).1) (hlt : (bestP (dgN zs s) k).1 < k) :
    Calls Tryd.prog 62 #[.agg #[.int .i64 (k : Int), .slice a (missL zs s).length c]] w fun e w' => e = .returned (.int .i64 (((bestP (dgN zs s) k).1 : Nat) : Int)) ∧ Below w.heap.size w w' := by
  have hff := famIn_filter (fun z => z.toNat &&& s == 0) hf
  obtain ⟨k', ek, -, -, hset, hl8⟩ := fam_nat2 hf
  obtain rfl : k = k' := by omega
  obtain ⟨L, hL⟩ : ∃ L, L = missL zs s := ⟨_, rfl⟩
  have hL8 : L.length ≤ 8 := by rw [hL]; exact Nat.le_trans (missL_len zs s) hl8
  rw [show List.filter (fun z => z.toNat &&& s == 0) zs = L from hL.symm] at hff
  have hdeg : famDeg (k : Int) L = degL k (allMem L) := by unfold famDeg; rw [hff, if_pos rfl, Int.toNat_natCast]
  have hat : ∀ v, v < k → (degL k (allMem L))[v]?.getD 0 = ((dgN zs s v : Nat) : Int) := fun v hv => by
    rw [degL_at _ _ _ hv, Option.getD_some, allMem_cnt v (by omega) L (fun z hz => by rw [hL] at hz; exact p64 hk6 (hset z (List.mem_filter.1 hz).1).2)]
    rw [hL]; rfl
  rw [← hL] at ha ⊢
  have hb1 := below1 w (.cells #[.int .i64 (k : Int), .slice a L.length c] 25)
  have HC := implDegrees_any (k : Int) a c L (w.alloc (.cells #[.int .i64 (k : Int), .slice a L.length c] 25)) ((ha.below hb1).mono (by simp)) (hT.below hb1 hT.lt) (by omega)
  rw [hdeg, hff] at HC
  obtain ⟨D, hD⟩ : ∃ D, D = degL k (allMem L) := ⟨_, rfl⟩
  rw [← hD] at HC hat
  have hDl : D.length = k := by rw [hD]; exact degL_length _ _
  obtain ⟨r, hr⟩ : ∃ r, r = (bestP (dgN zs s) k).1 := ⟨_, rfl⟩
  have HUQ : Hid (∀ (M : Int) (i : Int), MaxR D D.length M → IdxR M D i → i = (r : Int)) := Lib.hid (by
    rintro M i ⟨m1, j, m2, m3⟩ hi
    rw [hDl] at m1 m2
    rw [hat j m2] at m3
    have hb := m1 _ hlt
    rw [hat _ hlt] at hb
    rcases hi with ⟨-, hi⟩ | ⟨q, rfl, q1, q2, q3⟩
    · exact absurd (by rw [hat j m2, m3]) (hi j (by omega))
    · rw [hDl] at q1
      rw [hat q q1] at q2
      have := bestP_uniq (d := dgN zs s) (m := k) q1 (by omega) (fun v hv => by have := m1 v hv; rw [hat v hv] at this; omega) (fun v hv e => q3 v hv (by rw [hat v (by omega), e]; exact q2))
      rw [hr, this])
  have HC := Lib.hid HC
  have HB1 := Lib.hid hb1
  have HDL := Lib.hid hDl
  rw [← hr]
  clear ha hb1 hT hff hdeg hat hD hDl hr h0 hlt hL hset hf ek
  go_enter Tryd.func62, Tryd.ntmps62
  go_wp2_with fail
  refine HC.out.mono ?_
  rintro e w1 ⟨a1, c1, rfl, ho, hb⟩
  have HI := Lib.hid (own_ints ho)
  have HB := Lib.hid (HB1.out.trans (hb.mono (by simp)))
  clear ho hb
  go_wp2_with fail
  refine (maxI_any a1 c1 D w1 HI.out (by have := HDL.out; omega) (by have := HDL.out; omega)).mono ?_
  rintro e w2 ⟨⟨M, rfl, hM⟩, rfl⟩
  have HM := Lib.hid hM
  clear hM
  go_wp2_with fail
  refine (indexI_any a1 c1 D M w1 HI.out (by have := HDL.out; omega)).mono ?_
  rintro e w2 ⟨⟨i, rfl, hi⟩, rfl⟩
  have HE := Lib.hid (HUQ.out M i HM.out hi)
  clear hi
  go_wp2
  go_ret
  exact ⟨by first | rfl | (rw [HE.out]; rfl), HB.out⟩

set_option maxRecDepth 100000 in
set_option maxHeartbeats 4000000 in
theorem implGreedy_yes (k : Nat) (a : Option Addr) (c : Nat) (zs : List Int) (w : World) (ha : Ints w w.heap.size a zs) (hT : Tab w) (hf : famIn (k : Int) zs = true) (h0 : (zs.any fun z => z == 0) = false) :
    Calls Tryd.prog 29 #[.agg #[.int .i64 (k : Int), .slice a zs.length c]] w (RetIB w ((grG k zs zs.length 0 : Nat) : Int) true) := by
  obtain ⟨k', ek, hk1, hk6, hset, hl8⟩ := fam_nat2 hf
  obtain rfl : k = k' := by omega
  have hpos := gre_sets hset h0
  have HB0 := Lib.hid (below1 w (.cells #[.int .i64 (k : Int), .slice a zs.length c] 25))
  have HA := Lib.hid (ha.below HB0.out)
  have HT := Lib.hid hT
  have HF := Lib.hid hf
  have HF2 := Lib.hid hf
  have H0 := Lib.hid h0
  have HSET := Lib.hid hset
  have HPOS := Lib.hid hpos
  clear ha hT hf h0 hset hpos ek
  go_enter Tryd.func29, Tryd.ntmps29
  go_wp2_with fail
  refine (implFamilyIn_any _ _ _ zs _ (HA.out.mono (by simp)) (by omega)).mono ?_
  rintro e w1 ⟨rfl, hb⟩
  rw [HF.out]
  have b0 : w1.heap[w.heap.size]? = some (.cells #[.int .i64 (k : Int), .slice a zs.length c] 25 (0, 0)) := (hb.block _ (by simp)).trans (alloc_new w _)
  have x0 := (blk_cell b0 0).trans (cell2_0 _ _)
  have x1 := (blk_cell b0 1).trans (cell2_1 _ _)
  have HB1 := Lib.hid (HB0.out.trans (hb.mono (by simp)))
  have hs1 : w.heap.size < w1.heap.size := lt_of_some b0
  have HI1 := Lib.hid (HA.out.below (hb.mono (by simp)))
  have B0 := Lib.hid b0
  clear hb b0
  go_wp2_with fail
  refine (contains0_any a c zs w1 (HI1.out.mono (by omega)) (by omega)).mono ?_
  rintro e w2 ⟨rfl, rfl⟩
  rw [H0.out]
  clear x0 x1
  go_wp2
  go_loopw [4] (fun t wr => ∃ n s : Nat, t = .int .i64 (s : Int) ∧ s < 2 ^ k ∧ (missL zs s).length ≤ n ∧ grG k zs n s = grG k zs zs.length 0 ∧ Below w1.heap.size w1 wr) (fun t _ => (missL zs (intOf t).toNat).length)
  case atStart => exact ⟨zs.length, 0, rfl, Nat.two_pow_pos k, missL_len _ _, rfl, Below.refl _ _⟩
  case round =>
    obtain ⟨n, s, rfl, hs, hn, hg, hb⟩ := hrel
    have hs64 := p64 hk6 hs
    have hbw : Below w.heap.size w wr := HB1.out.trans (hb.mono (by omega))
    have BR := Lib.hid ((hb.block _ hs1).trans B0.out)
    have x0 := (blk_cell BR.out 0).trans (cell2_0 _ _)
    have x1 := (blk_cell BR.out 1).trans (cell2_1 _ _)
    have hIr : Ints wr w.heap.size a zs := HI1.out.below (hb.mono (by omega))
    have HCV := Lib.hid (coveredBy_any k hk6 a c zs s hs64 wr (hIr.mono (by have := hbw.size; omega)) (by omega) HSET.out)
    have HBW := Lib.hid hbw
    have HBR := Lib.hid hb
    have HIR := Lib.hid hIr
    have HG := Lib.hid hg
    have HN := Lib.hid hn
    have hsr : w.heap.size < wr.heap.size := lt_of_some BR.out
    clear hb hbw hIr hg hn
    cases hc : covB zs s
    · obtain ⟨g1, g2, g3, g4⟩ := greedy_step HPOS.out hs hc
      obtain ⟨n', rfl⟩ : ∃ n', n = n' + 1 := ⟨n - 1, by have := HN.out; omega⟩
      have HG2 : Hid (grG k zs n' (nxG k zs s) = grG k zs zs.length 0) := Lib.hid (by rw [← grG_step hc]; exact HG.out)
      have HN2 : Hid ((missL zs (nxG k zs s)).length ≤ n') := Lib.hid (by have := HN.out; omega)
      have HM3 := Lib.hid g3
      have HS4 := Lib.hid g4
      have HC := Lib.hid hc
      have HNX : Hid (nxG k zs s = s ||| 2 ^ (bestP (dgN zs s) k).1) := Lib.hid rfl
      have HBU := Lib.hid (fun a' c' W hA hT => busiest_any k hk1 hk6 a' c' zs s W hA hT HF2.out g2 g1)
      obtain ⟨r, hr⟩ : ∃ r, r = (bestP (dgN zs s) k).1 := ⟨_, rfl⟩
      rw [← hr] at HNX HBU g1
      have hr8 : r < 8 := by omega
      clear hc g2 g3 g4 hr HG HN
      go_wp2_with fail
      refine HCV.out.mono ?_
      rintro e w2 ⟨rfl, hb2⟩
      rw [HC.out]
      have B2 := Lib.hid ((hb2.block _ hsr).trans BR.out)
      have y0 := (blk_cell B2.out 0).trans (cell2_0 _ _)
      have y1 := (blk_cell B2.out 1).trans (cell2_1 _ _)
      have HB2 := Lib.hid (HBR.out.trans (hb2.mono HBR.out.size))
      have HW2 := Lib.hid (HBW.out.trans (hb2.mono HBW.out.size))
      have HI2 := Lib.hid (HIR.out.below (hb2.mono (by omega)))
      have hs2 : w.heap.size < w2.heap.size := lt_of_some B2.out
      clear hb2 x0 x1
      go_wp2_with fail
      refine (missedBy_any k hk6 a c zs s hs64 w2 (HI2.out.mono (by omega)) (by omega) HSET.out).mono ?_
      rintro e w3 ⟨a3, c3, rfl, ho3, hb3⟩
      have HO3 := Lib.hid (own_ints ho3)
      have HB3 := Lib.hid (HB2.out.trans (hb3.mono HB2.out.size))
      have HW3 := Lib.hid (HW2.out.trans (hb3.mono HW2.out.size))
      clear ho3 hb3
      go_wp2_with fail
      refine (HBU.out a3 c3 w3 HO3.out (HT.out.below HW3.out HT.out.lt)).mono ?_
      rintro e w4 ⟨rfl, hb4⟩
      have HB4 := Lib.hid (HB3.out.trans (hb4.mono HB3.out.size))
      clear hb4
      go_wp2_with fail
      refine (with_any s r (by omega) hr8 w4).mono ?_
      rintro e w5 ⟨rfl, rfl⟩
      go_wp2
      go_roundw
      case rel => exact ⟨n', s ||| 2 ^ r, rfl, by rw [← HNX.out]; exact HS4.out, by rw [← HNX.out]; exact HN2.out, by rw [← HNX.out]; exact HG2.out, HB4.out⟩
      case measure => simp only [intOf, Int.toNat_natCast]; rw [← HNX.out]; exact HM3.out
    · have HGE : Hid (grG k zs zs.length 0 = s) := Lib.hid (by rw [← HG.out, grG_cov hc])
      have HC := Lib.hid hc
      clear hc
      go_wp2_with fail
      refine HCV.out.mono ?_
      rintro e w2 ⟨rfl, hb2⟩
      rw [HC.out]
      have HR := Lib.hid (HBW.out.trans (hb2.mono HBW.out.size))
      clear hb2
      go_wp2
      go_ret2
      exact ⟨by rw [HGE.out]; rfl, HR.out⟩

set_option maxRecDepth 100000 in
set_option maxHeartbeats 2000000 in
theorem implGreedy_any (m : Int) (a : Option Addr) (c : Nat) (zs : List Int) (w : World) (ha : Ints w w.heap.size a zs) (hT : Tab w) (hx : zs.length ≤ 1048576) :
    Calls Tryd.prog 29 #[.agg #[.int .i64 m, .slice a zs.length c]] w (RetIB w (greZ m zs) (greIn m zs)) := by
  have HB0 := Lib.hid (below1 w (.cells #[.int .i64 m, .slice a zs.length c] 25))
  have HA := Lib.hid (ha.below HB0.out)
  unfold greZ greIn
  cases hf : famIn m zs
  · have HF := Lib.hid hf
    clear hf ha
    go_enter Tryd.func29, Tryd.ntmps29
    go_wp2_with fail
    refine (implFamilyIn_any _ _ _ zs _ (HA.out.mono (by simp)) hx).mono ?_
    rintro e w1 ⟨rfl, hb⟩
    rw [HF.out]
    have HB := Lib.hid (HB0.out.trans (hb.mono (by simp)))
    clear hb
    go_wp2
    go_ret2
    exact ⟨rfl, HB.out⟩
  · cases h0 : (zs.any fun z => z == 0)
    · obtain ⟨k, rfl, hk1, hk6, hset, hl8⟩ := fam_nat2 hf
      exact implGreedy_yes k a c zs w ha hT hf h0
    · have HF := Lib.hid hf
      have H0 := Lib.hid h0
      clear hf h0 ha
      go_enter Tryd.func29, Tryd.ntmps29
      go_wp2_with fail
      refine (implFamilyIn_any _ _ _ zs _ (HA.out.mono (by simp)) hx).mono ?_
      rintro e w1 ⟨rfl, hb⟩
      rw [HF.out]
      have b0 : w1.heap[w.heap.size]? = some (.cells #[.int .i64 m, .slice a zs.length c] 25 (0, 0)) := (hb.block _ (by simp)).trans (alloc_new w _)
      have x0 := (blk_cell b0 0).trans (cell2_0 _ _)
      have x1 := (blk_cell b0 1).trans (cell2_1 _ _)
      have hs1 : w.heap.size < w1.heap.size := lt_of_some b0
      have HB := Lib.hid (HB0.out.trans (hb.mono (by simp)))
      have HI := Lib.hid (HA.out.below (hb.mono (by simp)))
      clear hb b0
      go_wp2_with fail
      refine (contains0_any a c zs w1 (HI.out.mono (by omega)) hx).mono ?_
      rintro e w2 ⟨rfl, rfl⟩
      rw [H0.out]
      go_wp2
      go_ret2
      exact ⟨rfl, HB.out⟩

end Go.Proofs.YtcmpjegfikdofaaDoor
