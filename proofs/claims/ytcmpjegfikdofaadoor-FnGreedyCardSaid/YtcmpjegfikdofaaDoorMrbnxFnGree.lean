/- It is proved what CoverGreedy of the program returns; conditions: those of each statement. -/
import Derived.RowKit
import Derived.Laws.CopyRow
import Derived.Lib.SlBuf
import Derived.Deep.QuietTactic
import Derived.RangeFuncNested
import Derived.RangeFuncBound
import Derived.RangeFuncCalls
import Derived.RangeFuncLeaves
import Derived.RangeFuncBox
import Derived.RangeFuncWrites
import Derived.StillTailTactics
import Derived.Maps.OwnIn
import Derived.Maps.Ext
import Derived.DeepKeys4
import Derived.MapKept
import Derived.Test.YtcmpjegfikdofaaDoorRows
import Derived.WalkKit
import Derived.WalkSpells
import Derived.ProofKit
import Derived.OpenShut
import Derived.ShutString
import Derived.ChangeOld
import Derived.Below
import Derived.Deep.RegionHeld3
import Derived.BigQuiet
import Derived.Lib.Hide
import Derived.Lib.SmallJoins
import Derived.Outline
import Derived.Laws.MakeOwn
import Derived.Laws.OwnMore
import Derived.IntWalk
import Derived.Lib.AppendZeros
import Derived.Maps.AppendAt
import Derived.Deep.AppendLies
import Derived.OwnWalk
import Derived.Lib.SlicesCompact
import Derived.Lib.OwnBridge
import Derived.OrdersIn
import Derived.TacticsIn
import Derived.Shelf.Sort.Plain
import Derived.Shelf.Slices.In.SortNone
import Derived.Shelf.Slices.CompactI
import Derived.Ground.Names2Prog
import Derived.Lib.SliceRun
import Derived.Shelf.Abstract
import Derived.Shelf.RegionOpen
import Derived.OwnWalkIn
import Derived.TacticsInMore
import Derived.LoopNIn
import Derived.LoopIn
import Derived.StillTail
import Derived.StillTactics
import Derived.Shelf.Spec.TrailingZeros
import Derived.Test.YtcmpjegfikdofaaDoorMraa
import Derived.Test.YtcmpjegfikdofaaDoorMrae
import Derived.Test.YtcmpjegfikdofaaDoorMraf
import Derived.Test.YtcmpjegfikdofaaDoorMrag
import Derived.Test.YtcmpjegfikdofaaDoorKa
import Derived.Test.YtcmpjegfikdofaaDoorKc
import Derived.Test.YtcmpjegfikdofaaDoorMraw
import Derived.Test.YtcmpjegfikdofaaDoorMrbkxFnGree
import Derived.Test.YtcmpjegfikdofaaDoorMrbmxFnGree
import Derived.Test.YtcmpjegfikdofaaDoorMrbd
import Derived.Test.YtcmpjegfikdofaaDoorMrab
import Derived.Test.YtcmpjegfikdofaaDoorMrao
import Derived.Test.YtcmpjegfikdofaaDoorMrap
import Derived.Test.YtcmpjegfikdofaaDoorMrba
import Derived.Test.YtcmpjegfikdofaaDoorMrac
import Derived.Deep.RegionLaw
namespace Go.Proofs.YtcmpjegfikdofaaDoor
open Go.RowKit

set_option maxRecDepth 100000 in
set_option maxHeartbeats 1600000 in
theorem busiest_any (k : Nat) (hk1 : 1 ≤ k) (hk6 : k ≤ 6) (a : Option Addr) (c : Nat) (zs : List Int) (s : Nat) (w : World) (ha : Ints w w.heap.size a (missL zs s)) (hT : Tab w) (hf : famIn (k : Int) zs = true) (h0 : 1 ≤ dgN zs s (bestP (dgN zs s) k).1) (hlt : (bestP (dgN zs s) k).1 < k) :
    Calls Tryd.prog 62 #[.agg #[.int .i64 (k : Int), .slice a (missL zs s).length c]] w fun e w' => e = .returned (.int .i64 (((bestP (dgN zs s) k).1 : Nat) : Int)) ∧ Below w.heap.size w w' := by
  have hff := famIn_filter (fun z => z.toNat &&& s == 0) hf
  obtain ⟨k', ek, -, -, hset, hl8⟩ := fam_nat2 hf
  obtain rfl : k = k' := by omega
  obtain ⟨L, hL⟩ : ∃ L, L = missL zs s := ⟨_, rfl⟩
  have hL8 : L.length ≤ 8 := by rw [hL]; exact Nat.le_trans (missL_len zs s) hl8
  rw [show List.filter (fun z => z.toNat &&& s == 0) zs = L from hL.symm] at hff
  have hdeg : famDeg (k : Int) L = degL k (allMem L) := by unfold famDeg; rw [hff, if_pos rfl, Int.toNat_natCast]
  have hat : ∀ v, v < k → (degL k (allMem L))[v]?.getD 0 = ((dgN zs s v : Nat) : Int) := fun v hv => by
    rw [degL_at _ _ _ hv, Option.getD_some, allMem_cnt v (by omega) L (fun z hz => by rw [hL] at hz; exact p64 hk6 (hset z (List.mem_filter.1 hz).1).2)]
    rw [hL]; rfl
  rw [← hL] at ha ⊢
  have hb1 := below1 w (.cells #[.int .i64 (k : Int), .slice a L.length c] 25)
  have HC := implDegrees_any (k : Int) a c L (w.alloc (.cells #[.int .i64 (k : Int), .slice a L.length c] 25)) ((ha.below hb1).mono (by simp)) (hT.below hb1 hT.lt) (by omega)
  rw [hdeg, hff] at HC
  obtain ⟨D, hD⟩ : ∃ D, D = degL k (allMem L) := ⟨_, rfl⟩
  rw [← hD] at HC hat
  have hDl : D.length = k := by rw [hD]; exact degL_length _ _
  obtain ⟨r, hr⟩ : ∃ r, r = (bestP (dgN zs s) k).1 := ⟨_, rfl⟩
  have HUQ : Hid (∀ (M : Int) (i : Int), MaxR D D.length M → IdxR M D i → i = (r : Int)) := Lib.hid (by
    rintro M i ⟨m1, j, m2, m3⟩ hi
    rw [hDl] at m1 m2
    rw [hat j m2] at m3
    have hb := m1 _ hlt
    rw [hat _ hlt] at hb
    rcases hi with ⟨-, hi⟩ | ⟨q, rfl, q1, q2, q3⟩
    · exact absurd (by rw [hat j m2, m3]) (hi j (by omega))
    · rw [hDl] at q1
      rw [hat q q1] at q2
      have := bestP_uniq (d := dgN zs s) (m := k) q1 (by omega) (fun v hv => by have := m1 v hv; rw [hat v hv] at this; omega) (fun v hv e => q3 v hv (by rw [hat v (by omega), e]; exact q2))
      rw [hr, this])
  have HC := Lib.hid HC
  have HB1 := Lib.hid hb1
  have HDL := Lib.hid hDl
  rw [← hr]
  clear ha hb1 hT hff hdeg hat hD hDl hr h0 hlt hL hset hf ek
  go_enter Tryd.func62, Tryd.ntmps62
  go_wp2_with fail
  refine HC.out.mono ?_
  rintro e w1 ⟨a1, c1, rfl, ho, hb⟩
  have HI := Lib.hid (own_ints ho)
  have HB := Lib.hid (HB1.out.trans (hb.mono (by simp)))
  clear ho hb
  go_wp2_with fail
  refine (maxI_any a1 c1 D w1 HI.out (by have := HDL.out; omega) (by have := HDL.out; omega)).mono ?_
  rintro e w2 ⟨⟨M, rfl, hM⟩, rfl⟩
  have HM := Lib.hid hM
  clear hM
  go_wp2_with fail
  refine (indexI_any a1 c1 D M w1 HI.out (by have := HDL.out; omega)).mono ?_
  rintro e w2 ⟨⟨i, rfl, hi⟩, rfl⟩
  have HE := Lib.hid (HUQ.out M i HM.out hi)
  clear hi
  go_wp2
  go_ret
  exact ⟨by first | rfl | (rw [HE.out]; rfl), HB.out⟩

set_option maxRecDepth 100000 in
set_option maxHeartbeats 4000000 in
theorem implGreedy_yes (k : Nat) (a : Option Addr) (c : Nat) (zs : List Int) (w : World) (ha : Ints w w.heap.size a zs) (hT : Tab w) (hf : famIn (k : Int) zs = true) (h0 : (zs.any fun z => z == 0) = false) :
    Calls Tryd.prog 29 #[.agg #[.int .i64 (k : Int), .slice a zs.length c]] w (RetIB w ((grG k zs zs.length 0 : Nat) : Int) true) := by
  obtain ⟨k', ek, hk1, hk6, hset, hl8⟩ := fam_nat2 hf
  obtain rfl : k = k' := by omega
  have hpos := gre_sets hset h0
  have HB0 := Lib.hid (below1 w (.cells #[.int .i64 (k : Int), .slice a zs.length c] 25))
  have HA := Lib.hid (ha.below HB0.out)
  have HT := Lib.hid hT
  have HF := Lib.hid hf
  have HF2 := Lib.hid hf
  have H0 := Lib.hid h0
  have HSET := Lib.hid hset
  have HPOS := Lib.hid hpos
  clear ha hT hf h0 hset hpos ek
  go_enter Tryd.func29, Tryd.ntmps29
  go_wp2_with fail
  refine (implFamilyIn_any _ _ _ zs _ (HA.out.mono (by simp)) (by omega)).mono ?_
  rintro e w1 ⟨rfl, hb⟩
  rw [HF.out]
  have b0 : w1.heap[w.heap.size]? = some (.cells #[.int .i64 (k : Int), .slice a zs.length c] 25 (0, 0)) := (hb.block _ (by simp)).trans (alloc_new w _)
  have x0 := (blk_cell b0 0).trans (cell2_0 _ _)
  have x1 := (blk_cell b0 1).trans (cell2_1 _ _)
  have HB1 := Lib.hid (HB0.out.trans (hb.mono (by simp)))
  have hs1 : w.heap.size < w1.heap.size := lt_of_some b0
  have HI1 := Lib.hid (HA.out.below (hb.mono (by simp)))
  have B0 := Lib.hid b0
  clear hb b0
  go_wp2_with fail
  refine (contains0_any a c zs w1 (HI1.out.mono (by omega)) (by omega)).mono ?_
  rintro e w2 ⟨rfl, rfl⟩
  rw [H0.out]
  clear x0 x1
  go_wp2
  go_loopw [4] (fun t wr => ∃ n s : Nat, t = .int .i64 (s : Int) ∧ s < 2 ^ k ∧ (missL zs s).length ≤ n ∧ grG k zs n s = grG k zs zs.length 0 ∧ Below w1.heap.size w1 wr) (fun t _ => (missL zs (intOf t).toNat).length)
  case atStart => exact ⟨zs.length, 0, rfl, Nat.two_pow_pos k, missL_len _ _, rfl, Below.refl _ _⟩
  case round =>
    obtain ⟨n, s, rfl, hs, hn, hg, hb⟩ := hrel
    have hs64 := p64 hk6 hs
    have hbw : Below w.heap.size w wr := HB1.out.trans (hb.mono (by omega))
    have BR := Lib.hid ((hb.block _ hs1).trans B0.out)
    have x0 := (blk_cell BR.out 0).trans (cell2_0 _ _)
    have x1 := (blk_cell BR.out 1).trans (cell2_1 _ _)
    have hIr : Ints wr w.heap.size a zs := HI1.out.below (hb.mono (by omega))
    have HCV := Lib.hid (coveredBy_any k hk6 a c zs s hs64 wr (hIr.mono (by have := hbw.size; omega)) (by omega) HSET.out)
    have HBW := Lib.hid hbw
    have HBR := Lib.hid hb
    have HIR := Lib.hid hIr
    have HG := Lib.hid hg
    have HN := Lib.hid hn
    have hsr : w.heap.size < wr.heap.size := lt_of_some BR.out
    clear hb hbw hIr hg hn
    cases hc : covB zs s
    · obtain ⟨g1, g2, g3, g4⟩ := greedy_step HPOS.out hs hc
      obtain ⟨n', rfl⟩ : ∃ n', n = n' + 1 := ⟨n - 1, by have := HN.out; omega⟩
      have HG2 : Hid (grG k zs n' (nxG k zs s) = grG k zs zs.length 0) := Lib.hid (by rw [← grG_step hc]; exact HG.out)
      have HN2 : Hid ((missL zs (nxG k zs s)).length ≤ n') := Lib.hid (by have := HN.out; omega)
      have HM3 := Lib.hid g3
      have HS4 := Lib.hid g4
      have HC := Lib.hid hc
      have HNX : Hid (nxG k zs s = s ||| 2 ^ (bestP (dgN zs s) k).1) := Lib.hid rfl
      have HBU := Lib.hid (fun a' c' W hA hT => busiest_any k hk1 hk6 a' c' zs s W hA hT HF2.out g2 g1)
      obtain ⟨r, hr⟩ : ∃ r, r = (bestP (dgN zs s) k).1 := ⟨_, rfl⟩
      rw [← hr] at HNX HBU g1
      have hr8 : r < 8 := by omega
      clear hc g2 g3 g4 hr HG HN
      go_wp2_with fail
      refine HCV.out.mono ?_
      rintro e w2 ⟨rfl, hb2⟩
      rw [HC.out]
      have B2 := Lib.hid ((hb2.block _ hsr).trans BR.out)
      have y0 := (blk_cell B2.out 0).trans (cell2_0 _ _)
      have y1 := (blk_cell B2.out 1).trans (cell2_1 _ _)
      have HB2 := Lib.hid (HBR.out.trans (hb2.mono HBR.out.size))
      have HW2 := Lib.hid (HBW.out.trans (hb2.mono HBW.out.size))
      have HI2 := Lib.hid (HIR.out.below (hb2.mono (by omega)))
      have hs2 : w.heap.size < w2.heap.size := lt_of_some B2.out
      clear hb2 x0 x1
      go_wp2_with fail
      refine (missedBy_any k hk6 a c zs s hs64 w2 (HI2.out.mono (by omega)) (by omega) HSET.out).mono ?_
      rintro e w3 ⟨a3, c3, rfl, ho3, hb3⟩
      have HO3 := Lib.hid (own_ints ho3)
      have HB3 := Lib.hid (HB2.out.trans (hb3.mono HB2.out.size))
      have HW3 := Lib.hid (HW2.out.trans (hb3.mono HW2.out.size))
      clear ho3 hb3
      go_wp2_with fail
      refine (HBU.out a3 c3 w3 HO3.out (HT.out.below HW3.out HT.out.lt)).mono ?_
      rintro e w4 ⟨rfl, hb4⟩
      have HB4 := Lib.hid (HB3.out.trans (hb4.mono HB3.out.size))
      clear hb4
      go_wp2_with fail
      refine (with_any s r (by omega) hr8 w4).mono ?_
      rintro e w5 ⟨rfl, rfl⟩
      go_wp2
      go_roundw
      case rel => exact ⟨n', s ||| 2 ^ r, rfl, by rw [← HNX.out]; exact HS4.out, by rw [← HNX.out]; exact HN2.out, by rw [← HNX.out]; exact HG2.out, HB4.out⟩
      case measure => simp only [intOf, Int.toNat_natCast]; rw [← HNX.out]; exact HM3.out
    · have HGE : Hid (grG k zs zs.length 0 = s) := Lib.hid (by rw [← HG.out, grG_cov hc])
      have HC := Lib.hid hc
      clear hc
      go_wp2_with fail
      refine HCV.out.mono ?_
      rintro e w2 ⟨rfl, hb2⟩
      rw [HC.out]
      have HR := Lib.hid (HBW.out.trans (hb2.mono HBW.out.size))
      clear hb2
      go_wp2
      go_ret2
      exact ⟨by rw [HGE.out]; rfl, HR.out⟩

set_option maxRecDepth 100000 in
set_option maxHeartbeats 2000000 in
theorem implGreedy_any (m : Int) (a : Option Addr) (c : Nat) (zs : List Int) (w : World) (ha : Ints w w.heap.size a zs) (hT : Tab w) (hx : zs.length ≤ 1048576) :
    Calls Tryd.prog 29 #[.agg #[.int .i64 m, .slice a zs.length c]] w (RetIB w (greZ m zs) (greIn m zs)) := by
  have HB0 := Lib.hid (below1 w (.cells #[.int .i64 m, .slice a zs.length c] 25))
  have HA := Lib.hid (ha.below HB0.out)
  unfold greZ greIn
  cases hf : famIn m zs
  · have HF := Lib.hid hf
    clear hf ha
    go_enter Tryd.func29, Tryd.ntmps29
    go_wp2_with fail
    refine (implFamilyIn_any _ _ _ zs _ (HA.out.mono (by simp)) hx).mono ?_
    rintro e w1 ⟨rfl, hb⟩
    rw [HF.out]
    have HB := Lib.hid (HB0.out.trans (hb.mono (by simp)))
    clear hb
    go_wp2
    go_ret2
    exact ⟨rfl, HB.out⟩
  · cases h0 : (zs.any fun z => z == 0)
    · obtain ⟨k, rfl, hk1, hk6, hset, hl8⟩ := fam_nat2 hf
      exact implGreedy_yes k a c zs w ha hT hf h0
    · have HF := Lib.hid hf
      have H0 := Lib.hid h0
      clear hf h0 ha
      go_enter Tryd.func29, Tryd.ntmps29
      go_wp2_with fail
      refine (implFamilyIn_any _ _ _ zs _ (HA.out.mono (by simp)) hx).mono ?_
      rintro e w1 ⟨rfl, hb⟩
      rw [HF.out]
      have b0 : w1.heap[w.heap.size]? = some (.cells #[.int .i64 m, .slice a zs.length c] 25 (0, 0)) := (hb.block _ (by simp)).trans (alloc_new w _)
      have x0 := (blk_cell b0 0).trans (cell2_0 _ _)
      have x1 := (blk_cell b0 1).trans (cell2_1 _ _)
      have hs1 : w.heap.size < w1.heap.size := lt_of_some b0
      have HB := Lib.hid (HB0.out.trans (hb.mono (by simp)))
      have HI := Lib.hid (HA.out.below (hb.mono (by simp)))
      clear hb b0
      go_wp2_with fail
      refine (contains0_any a c zs w1 (HI.out.mono (by omega)) hx).mono ?_
      rintro e w2 ⟨rfl, rfl⟩
      rw [H0.out]
      go_wp2
      go_ret2
      exact ⟨rfl, HB.out⟩

end Go.Proofs.YtcmpjegfikdofaaDoor

/- It is proved what l2Before and l2Equal return; conditions: those of each statement. -/
namespace Go.Proofs.YtcmpjegfikdofaaDoor
open Go.RowKit Go.Shelf

/-- A beginning is less than what goes on. -/
def lexB : List Int → List Int → Bool
  | [], [] => false
  | [], _ :: _ => true
  | _ :: _, [] => false
  | x :: xs, y :: ys => if x = y then lexB xs ys else decide (x < y)

theorem lex_drop : ∀ (i : Nat) (xs ys : List Int), i ≤ xs.length → i ≤ ys.length → (∀ j, j < i → xs[j]?.getD 0 = ys[j]?.getD 0) → lexB xs ys = lexB (xs.drop i) (ys.drop i)
  | 0, _, _, _, _, _ => rfl
  | i + 1, [], _, h, _, _ => by simp at h
  | i + 1, _ :: _, [], _, h, _ => by simp at h
  | i + 1, x :: xs, y :: ys, h1, h2, h => by
    have h0 := h 0 (by omega)
    simp at h0
    subst h0
    rw [lexB, if_pos rfl, List.drop_succ_cons, List.drop_succ_cons]
    exact lex_drop i xs ys (by simpa using h1) (by simpa using h2) (fun j hj => by simpa using h (j + 1) (by omega))

theorem lex_ne {i : Nat} {xs ys : List Int} (h1 : i < xs.length) (h2 : i < ys.length) (h : ∀ j, j < i → xs[j]?.getD 0 = ys[j]?.getD 0) (hn : xs[i]?.getD 0 ≠ ys[i]?.getD 0) : lexB xs ys = decide (xs[i]?.getD 0 < ys[i]?.getD 0) := by
  rw [lex_drop i xs ys (by omega) (by omega) h, List.drop_eq_getElem_cons h1, List.drop_eq_getElem_cons h2, lexB]
  rw [List.getElem?_eq_getElem h1, List.getElem?_eq_getElem h2] at hn ⊢
  simp only [Option.getD_some] at hn ⊢
  rw [if_neg hn]

theorem lex_end {i : Nat} {xs ys : List Int} (h1 : i ≤ xs.length) (h2 : i ≤ ys.length) (h3 : i = xs.length ∨ i = ys.length) (h : ∀ j, j < i → xs[j]?.getD 0 = ys[j]?.getD 0) : lexB xs ys = decide (xs.length < ys.length) := by
  rw [lex_drop i xs ys h1 h2 h]
  rcases h3 with rfl | rfl
  · rw [List.drop_length]
    by_cases h4 : xs.length < ys.length
    · rw [List.drop_eq_getElem_cons h4, lexB]; simp [h4]
    · rw [List.drop_of_length_le (by omega), lexB]; simp [h4]
  · rw [List.drop_length]
    by_cases h4 : ys.length < xs.length
    · rw [List.drop_eq_getElem_cons h4, lexB]; simp; omega
    · rw [List.drop_of_length_le (by omega), lexB]; simp; omega

theorem lex_both : ∀ xs ys : List Int, (!lexB xs ys && !lexB ys xs) = decide (xs = ys)
  | [], [] => by simp [lexB]
  | [], _ :: _ => by simp [lexB]
  | _ :: _, [] => by simp [lexB]
  | x :: xs, y :: ys => by
    by_cases h : x = y
    · subst h
      rw [lexB, lexB, if_pos rfl, if_pos rfl, lex_both xs ys]
      simp
    · rw [lexB, lexB, if_neg h, if_neg (fun e => h e.symm)]
      by_cases h2 : x < y
      · simp [h, h2]
      · have : y < x := by omega
        simp [h, this]

set_option maxRecDepth 100000 in
set_option maxHeartbeats 4000000 in
theorem before_any (a b : Option Addr) (c d : Nat) (xs ys : List Int) (w : World) (ha : Ints w w.heap.size a xs) (hb : Ints w w.heap.size b ys) (hx : xs.length ≤ 1048576) (hy : ys.length ≤ 1048576) :
    Calls Tryd.prog 89 #[.slice a xs.length c, .slice b ys.length d] w fun e w' => e = .returned (.bool (lexB xs ys)) ∧ Below w.heap.size w w' := by
  obtain ⟨n, hn⟩ : ∃ n, n = xs.length := ⟨_, rfl⟩
  obtain ⟨m, hm⟩ : ∃ m, m = ys.length := ⟨_, rfl⟩
  have HN := Lib.hid hn
  have HM := Lib.hid hm
  rw [← hn, ← hm]
  rw [← hn] at hx
  rw [← hm] at hy
  have HA := Lib.hid ha
  have HB := Lib.hid hb
  clear ha hb hn hm
  go_enter Tryd.func89, Tryd.ntmps89
  go_wp2
  go_loopw [5] (fun i wr => ∃ k : Nat, k ≤ n ∧ k ≤ m ∧ i = .int .i64 (k : Int) ∧ (∀ j, j < k → xs[j]?.getD 0 = ys[j]?.getD 0) ∧ Below w.heap.size w wr) (fun i _ => n - (intOf i).toNat)
  case atStart => exact ⟨0, Nat.zero_le _, Nat.zero_le _, rfl, fun j h => by omega, Below.refl _ _⟩
  case round =>
    obtain ⟨k, hk1, hk2, rfl, he, hB⟩ := hrel
    by_cases h1 : k < n
    · by_cases h2 : k < m
      · obtain ⟨b1, o1, rfl, hb1, hc1⟩ := HA.out.at_ (k := k) (by rw [← HN.out]; exact h1)
        obtain ⟨b2, o2, rfl, hb2, hc2⟩ := HB.out.at_ (k := k) (by rw [← HM.out]; exact h2)
        have c1 := (hB.cell (p := ⟨b1, o1 + k, none⟩) hb1).trans hc1
        have c2 := (hB.cell (p := ⟨b2, o2 + k, none⟩) hb2).trans hc2
        obtain ⟨x, hxe⟩ : ∃ x, x = xs[k]?.getD 0 := ⟨_, rfl⟩
        obtain ⟨y, hye⟩ : ∃ y, y = ys[k]?.getD 0 := ⟨_, rfl⟩
        rw [← hxe] at c1
        rw [← hye] at c2
        have hk0 : (0 : Int) ≤ (k : Int) := by omega
        have hk1 : (k : Int) < (n : Int) := by omega
        have hk2 : (k : Int) < (m : Int) := by omega
        have HBW := Lib.hid hB
        by_cases hxy : x = y
        · have HE : Hid (∀ j, j < k + 1 → xs[j]?.getD 0 = ys[j]?.getD 0) := Lib.hid (fun j hj => by
            rcases Nat.lt_succ_iff_lt_or_eq.1 hj with h | rfl
            · exact he j h
            · rw [← hxe, ← hye]; exact hxy)
          clear he hB hc1 hc2 hxe hye
          subst hxy
          go_wp2
          go_quiet (fail)
          go_wp2
          go_roundw
          case rel => exact ⟨k + 1, by omega, by omega, by go_num, HE.out, below_drewN HBW.out _⟩
          case measure => simp [intOf]; omega
        · have HF : Hid (lexB xs ys = decide (x < y)) := Lib.hid (by rw [hxe, hye]; exact lex_ne (by rw [← HN.out]; exact h1) (by rw [← HM.out]; exact h2) he (by rw [← hxe, ← hye]; exact hxy))
          have hne : (x != y) = true := by simp [hxy]
          clear he hB hc1 hc2 hxe hye
          go_wp2
          go_quiet (fail)
          go_wp2
          go_quiet (fail)
          go_wp2
          go_ret
          refine ⟨by rw [HF.out]; rfl, ?_⟩
          first | exact below_drewN (below_drewN HBW.out _) _ | exact below_drewN HBW.out _
      · have HF : Hid (lexB xs ys = decide (n < m)) := Lib.hid (by
          have := HN.out; have := HM.out
          rw [lex_end (i := k) (by omega) (by omega) (by omega) he, ← HN.out, ← HM.out])
        have h2I : ¬ ((k : Int) < (m : Int)) := by omega
        have h1I : (k : Int) < (n : Int) := by omega
        have HBW := Lib.hid hB
        clear he hB
        go_wp2
        go_ret
        exact ⟨by rw [HF.out]; simp, HBW.out⟩
    · have HF : Hid (lexB xs ys = decide (n < m)) := Lib.hid (by
        have := HN.out; have := HM.out
        rw [lex_end (i := k) (by omega) (by omega) (by omega) he, ← HN.out, ← HM.out])
      have h1I : ¬ ((k : Int) < (n : Int)) := by omega
      have HBW := Lib.hid hB
      clear he hB
      go_wp2
      go_ret
      exact ⟨by rw [HF.out]; simp, HBW.out⟩

end Go.Proofs.YtcmpjegfikdofaaDoor

/- It is proved what l2Equal returns, and what appending a row to rows leaves; conditions: those of each statement. -/
namespace Go.Proofs.YtcmpjegfikdofaaDoor
open Go.RowKit Go.Shelf

set_option maxRecDepth 100000 in
set_option maxHeartbeats 1000000 in
theorem equal_any (a b : Option Addr) (c d : Nat) (xs ys : List Int) (w : World) (ha : Ints w w.heap.size a xs) (hb : Ints w w.heap.size b ys) (hx : xs.length ≤ 1048576) (hy : ys.length ≤ 1048576) :
    Calls Tryd.prog 70 #[.slice a xs.length c, .slice b ys.length d] w fun e w' => e = .returned (.bool (decide (xs = ys))) ∧ Below w.heap.size w w' := by
  have hlb := lex_both xs ys
  obtain ⟨p, hp⟩ : ∃ p, p = lexB xs ys := ⟨_, rfl⟩
  obtain ⟨q, hq⟩ : ∃ q, q = lexB ys xs := ⟨_, rfl⟩
  rw [← hp, ← hq] at hlb
  have HL := Lib.hid hlb
  have h1 := before_any a b c d xs ys w ha hb hx hy
  rw [← hp] at h1
  have h2 : ∀ W, Below w.heap.size w W → Calls Tryd.prog 89 #[.slice b ys.length d, .slice a xs.length c] W fun e w' => e = .returned (.bool q) ∧ Below W.heap.size W w' := fun W hW => by
    rw [hq]
    exact before_any b a d c ys xs W ((hb.below hW).mono hW.size) ((ha.below hW).mono hW.size) hy hx
  have H2 := Lib.hid h2
  clear hlb hp hq h2 ha hb
  cases p
  · go_enter Tryd.func70, Tryd.ntmps70
    go_wp2_with fail
    refine h1.mono ?_
    rintro e w1 ⟨rfl, hb1⟩
    have hc2 := H2.out w1 hb1
    have HB1 := Lib.hid hb1
    clear h1 hb1
    go_wp2_with (go_at_call 89; refine hc2.mono ?_; rintro e w2 ⟨rfl, hb2⟩)
    go_ret
    exact ⟨by rw [← HL.out]; cases q <;> rfl, HB1.out.trans (hb2.mono HB1.out.size)⟩
  · go_enter Tryd.func70, Tryd.ntmps70
    go_wp2_with (go_at_call 89; refine h1.mono ?_; rintro e w1 ⟨rfl, hb1⟩)
    go_ret
    exact ⟨by rw [← HL.out]; cases q <;> rfl, hb1⟩

end Go.Proofs.YtcmpjegfikdofaaDoor

/- It is proved what slices.Equal does with lists of ints; conditions: those of each statement. -/
namespace Go.Proofs.YtcmpjegfikdofaaDoor
open Go.RowKit

theorem sameB_iff {xs ys : List Int} : sameB xs ys = true ↔ xs = ys := by
  simp [sameB]

theorem sameB_len {xs ys : List Int} (h : xs.length ≠ ys.length) : sameB xs ys = false := by
  rw [Bool.eq_false_iff]; intro e; rw [sameB_iff] at e; rw [e] at h; exact h rfl

theorem sameB_at {xs ys : List Int} {k : Nat} (h : xs[k]?.getD 0 ≠ ys[k]?.getD 0) : sameB xs ys = false := by
  rw [Bool.eq_false_iff]; intro e; rw [sameB_iff] at e; rw [e] at h; exact h rfl

theorem sameB_all {xs ys : List Int} (hl : xs.length = ys.length) (h : ∀ j, j < xs.length → xs[j]?.getD 0 = ys[j]?.getD 0) : sameB xs ys = true := by
  rw [sameB_iff]
  apply List.ext_getElem hl
  intro i h1 h2
  have := h i h1
  rwa [List.getElem?_eq_getElem h1, List.getElem?_eq_getElem h2] at this

set_option maxRecDepth 100000 in
set_option maxHeartbeats 1600000 in
theorem slEqual_any (a b : Option Addr) (c d : Nat) (xs ys : List Int) (w : World) (ha : Ints w w.heap.size a xs) (hb : Ints w w.heap.size b ys) (hx : xs.length ≤ 1048576) (hy : ys.length ≤ 1048576) :
    Calls Tryd.prog 69 #[.slice a xs.length c, .slice b ys.length d] w fun e w' => e = .returned (.bool (sameB xs ys)) ∧ Below w.heap.size w w' := by
  obtain ⟨n, hn⟩ : ∃ n, n = xs.length := ⟨_, rfl⟩
  obtain ⟨k, hk⟩ : ∃ k, k = ys.length := ⟨_, rfl⟩
  have HN := Lib.hid hn
  have HK := Lib.hid hk
  have HA := Lib.hid ha
  have HBB := Lib.hid hb
  rw [← hn, ← hk]
  rw [← hn] at hx
  rw [← hk] at hy
  clear ha hb hn hk
  by_cases hnk : n = k
  · subst hnk
    go_enter Tryd.func69, Tryd.ntmps69
    go_wp2
    go_loopw [5, 13] (fun _ i wr => ∃ j : Nat, j ≤ n ∧ i = .int .i64 j ∧ (∀ l, l < j → xs[l]?.getD 0 = ys[l]?.getD 0) ∧ Below w.heap.size w wr) (fun _ i _ => n - (intOf i).toNat)
    case atStart => exact ⟨0, Nat.zero_le _, rfl, fun l hl => by omega, Below.refl _ _⟩
    case round =>
      obtain ⟨j, hj, rfl, he, hb⟩ := hrel
      have HE := Lib.hid he
      have HB := Lib.hid hb
      by_cases hlt : j < n
      · obtain ⟨b1, o1, rfl, hb1, hc1⟩ := HA.out.at_ (k := j) (by rw [← HN.out]; exact hlt)
        obtain ⟨b2, o2, rfl, hb2, hc2⟩ := HBB.out.at_ (k := j) (by rw [← HK.out]; exact hlt)
        have e1 := (hb.cell (p := ⟨b1, o1 + j, none⟩) hb1).trans hc1
        have e2 := (hb.cell (p := ⟨b2, o2 + j, none⟩) hb2).trans hc2
        have hjI : (j : Int) < (n : Int) := by omega
        clear he hb hc1 hc2
        by_cases hxy : xs[j]?.getD 0 = ys[j]?.getD 0
        · have HX : Hid (∀ l, l < j + 1 → xs[l]?.getD 0 = ys[l]?.getD 0) := Lib.hid (fun l hl => by
            by_cases e : l = j
            · subst e; exact hxy
            · exact HE.out l (by omega))
          have hne : (xs[j]?.getD 0 != ys[j]?.getD 0) = false := by rw [hxy]; simp
          clear hxy
          go_wp2
          go_quiet (fail)
          go_wp2
          go_roundw
          case rel => exact ⟨j + 1, by omega, by go_num, HX.out, below_drewN HB.out _⟩
          case measure => simp [intOf]; omega
        · have HX : Hid (sameB xs ys = false) := Lib.hid (sameB_at hxy)
          have hne : (xs[j]?.getD 0 != ys[j]?.getD 0) = true := by rw [bne_iff_ne]; exact hxy
          clear hxy
          go_wp2
          go_quiet (fail)
          go_wp2
          go_ret
          exact ⟨by rw [HX.out]; rfl, below_drewN HB.out _⟩
      · obtain rfl : j = n := by omega
        have HX : Hid (sameB xs ys = true) := Lib.hid (sameB_all (by rw [← HN.out, HK.out]) (by rw [← HN.out]; exact he))
        clear he hb
        go_wp2
        go_ret
        exact ⟨by rw [HX.out]; rfl, HB.out⟩
  · have HX : Hid (sameB xs ys = false) := Lib.hid (sameB_len (by rw [← HN.out, ← HK.out]; exact hnk))
    have hne : ((n : Int) != (k : Int)) = true := by rw [bne_iff_ne]; omega
    clear hnk
    go_enter Tryd.func69, Tryd.ntmps69
    go_wp2
    go_ret
    exact ⟨by rw [HX.out]; rfl, Below.refl _ _⟩

end Go.Proofs.YtcmpjegfikdofaaDoor
