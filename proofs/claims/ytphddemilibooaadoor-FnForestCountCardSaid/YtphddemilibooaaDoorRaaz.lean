/- It is proved what CoverSmall of the program and of the reference model returns; conditions: those of each statement. -/
import Derived.RowKit
import Derived.Laws.CopyRow
import Derived.Lib.SlBuf
import Derived.Deep.QuietTactic
import Derived.RangeFuncNested
import Derived.RangeFuncBound
import Derived.RangeFuncCalls
import Derived.RangeFuncLeaves
import Derived.RangeFuncBox
import Derived.RangeFuncWrites
import Derived.StillTailTactics
import Derived.Maps.OwnIn
import Derived.Maps.Ext
import Derived.DeepKeys4
import Derived.MapKept
import Derived.Test.YtphddemilibooaaDoorRows
import Derived.WalkKit
import Derived.WalkSpells
import Derived.ProofKit
import Derived.OpenShut
import Derived.ShutString
import Derived.ChangeOld
import Derived.Below
import Derived.Deep.RegionHeld3
import Derived.BigQuiet
import Derived.Lib.Hide
import Derived.Lib.SmallJoins
import Derived.Outline
import Derived.Laws.MakeOwn
import Derived.Laws.OwnMore
import Derived.IntWalk
import Derived.Lib.AppendZeros
import Derived.Maps.AppendAt
import Derived.Deep.AppendLies
import Derived.OwnWalk
import Derived.Lib.SlicesCompact
import Derived.Lib.OwnBridge
import Derived.OrdersIn
import Derived.TacticsIn
import Derived.Shelf.Sort.Plain
import Derived.Shelf.Slices.In.SortNone
import Derived.Shelf.Slices.CompactI
import Derived.Ground.Names2Prog
import Derived.Lib.SliceRun
import Derived.Shelf.Abstract
import Derived.Shelf.RegionOpen
import Derived.OwnWalkIn
import Derived.TacticsInMore
import Derived.LoopNIn
import Derived.LoopIn
import Derived.StillTail
import Derived.StillTactics
import Derived.Shelf.Spec.TrailingZeros
import Derived.Test.YtphddemilibooaaDoorRaaa
import Derived.Test.YtphddemilibooaaDoorRaac
import Derived.Test.YtphddemilibooaaDoorRaab
import Derived.Test.YtphddemilibooaaDoorRaad
import Derived.Test.YtphddemilibooaaDoorRaaw
import Derived.Test.YtphddemilibooaaDoorRaal
import Derived.Test.YtphddemilibooaaDoorKc
import Derived.Test.YtphddemilibooaaDoorRaav
import Derived.Test.YtphddemilibooaaDoorRaay
import Derived.Test.YtphddemilibooaaDoorTb
import Derived.Test.YtphddemilibooaaDoorRaat
namespace Go.Proofs.YtphddemilibooaaDoor
open Go.RowKit

/-- The least number of members of some sets, and a number. -/
def smallF (b : Int) (xs : List Int) : Int := xs.foldl (fun b x => min b (pop x)) b

theorem smallF_snoc (b : Int) (xs : List Int) (x : Int) : smallF b (xs ++ [x]) = min (smallF b xs) (pop x) := by simp [smallF]
theorem smallF_take (b : Int) (xs : List Int) (k : Nat) (hk : k < xs.length) : smallF b (xs.take (k + 1)) = min (smallF b (xs.take k)) (pop (xs[k]?.getD 0)) := by
  rw [List.take_succ_eq_append_getElem hk, smallF_snoc, List.getElem?_eq_getElem hk]; rfl

def smallOk (m : Int) (zs : List Int) : Bool := famIn m zs && !decide (lcL m.toNat zs = [])
def smallZ (m : Int) (zs : List Int) : Int := if smallOk m zs then smallF m (lcL m.toNat zs) else 0
theorem at_in {xs : List Int} {k : Nat} (h : k < xs.length) : xs[k]?.getD 0 ∈ xs := by
  rw [List.getElem?_eq_getElem h]; exact List.getElem_mem _

set_option maxRecDepth 100000 in
set_option maxHeartbeats 4000000 in
theorem implCoverSmall_any (m : Int) (a : Option Addr) (c : Nat) (zs : List Int) (w : World) (ha : Ints w w.heap.size a zs) (hx : zs.length ≤ 1048576) :
    Calls Tryd.prog 8 #[.agg #[.int .i64 m, .slice a zs.length c]] w (RetIB w (smallZ m zs) (smallOk m zs)) := by
  have HB0 := Lib.hid (below1 w (.cells #[.int .i64 m, .slice a zs.length c] 25))
  have hA := (ha.below HB0.out).mono (show w.heap.size ≤ (w.alloc (.cells #[.int .i64 m, .slice a zs.length c] 25)).heap.size by simp)
  have HC := Lib.hid (implCoverSets_any m a c zs _ hA hx)
  clear ha hA
  cases hf : famIn m zs
  · have HF := Lib.hid hf
    have HO : Hid (smallOk m zs = false) := Lib.hid (by unfold smallOk; rw [hf]; rfl)
    have HZ : Hid (smallZ m zs = 0) := Lib.hid (by unfold smallZ; rw [HO.out]; rfl)
    clear hf
    go_enter Tryd.func8, Tryd.ntmps8
    go_wp2_with fail
    refine HC.out.mono ?_
    rintro e w1 ⟨a1, c1, rfl, -, hb⟩
    rw [HF.out]
    have HB := Lib.hid (HB0.out.trans (hb.mono (by simp)))
    clear hb
    go_wp2
    go_ret2
    exact ⟨by rw [HO.out, HZ.out]; rfl, HB.out⟩
  · have HF := Lib.hid hf
    have HLC : Hid (lcZ m zs = lcL m.toNat zs) := Lib.hid (by unfold lcZ; rw [hf]; rfl)
    obtain ⟨k, rfl, hk1, hk6, hset, hl8⟩ := fam_nat hf
    obtain ⟨L, hL⟩ : ∃ L, L = lcL ((k : Nat) : Int).toNat zs := ⟨_, rfl⟩
    have hL64 : ∀ x ∈ L, 0 ≤ x ∧ x < 64 := by rw [hL, Int.toNat_natCast]; exact lcL_in hk6
    have hLn : L.length ≤ 64 := by rw [hL, Int.toNat_natCast]; exact lcL_len hk6 zs
    rw [← hL] at HLC
    have HO : Hid (smallOk (k : Int) zs = !decide (L = [])) := Lib.hid (by unfold smallOk; rw [hf, ← hL]; rfl)
    have HZ : Hid (smallZ (k : Int) zs = if L = [] then 0 else smallF (k : Int) L) := Lib.hid (by unfold smallZ; rw [HO.out, ← hL]; by_cases h : L = [] <;> simp [h])
    obtain ⟨n, hn⟩ : ∃ n, n = L.length := ⟨_, rfl⟩
    have HN := Lib.hid hn
    have HL64 := Lib.hid hL64
    have hn64 : n ≤ 64 := by omega
    clear hf hL hL64 hLn
    go_enter Tryd.func8, Tryd.ntmps8
    go_wp2_with fail
    refine HC.out.mono ?_
    rintro e w1 ⟨a1, c1, rfl, ho, hb⟩
    rw [HF.out]
    rw [HLC.out] at ho ⊢
    have b0 : w1.heap[w.heap.size]? = some (.cells #[.int .i64 (k : Int), .slice a zs.length c] 25 (0, 0)) := (hb.block _ (by simp)).trans (alloc_new w _)
    have x0 := (blk_cell b0 0).trans (cell2_0 _ _)
    have HI := Lib.hid (own_ints ho)
    have HB := Lib.hid (HB0.out.trans (hb.mono (by simp)))
    rw [← hn]
    clear hb b0 ho hn
    by_cases hn0 : n = 0
    · have HE : Hid (L = []) := Lib.hid (List.eq_nil_of_length_eq_zero (by rw [← HN.out]; exact hn0))
      have hn0I : ((n : Int) == 0) = true := by rw [beq_iff_eq]; omega
      clear hn0
      go_wp2
      go_ret2
      exact ⟨by rw [HO.out, HZ.out, if_pos HE.out, decide_eq_true HE.out]; rfl, HB.out⟩
    · have HE : Hid (L ≠ []) := Lib.hid (fun e => hn0 (by rw [HN.out, e]; rfl))
      have hn0I : ((n : Int) == 0) = false := by rw [beq_eq_false_iff_ne]; omega
      clear hn0
      go_wp2
      go_loopw [6, 8, 25] (fun b _ i wr => ∃ j : Nat, j ≤ n ∧ i = .int .i64 j ∧ b = .int .i64 (smallF (k : Int) (L.take j)) ∧ w1 = wr) (fun _ _ i _ => n - (intOf i).toNat)
      case atStart => exact ⟨0, Nat.zero_le _, rfl, rfl, rfl⟩
      case round =>
        obtain ⟨j, hj, rfl, rfl, rfl⟩ := hrel
        by_cases hlt : j < n
        · obtain ⟨b1, o1, rfl, hb1, hc1⟩ := HI.out.at_ (k := j) (by rw [← HN.out]; exact hlt)
          have hjI : (j : Int) < (n : Int) := by omega
          have hin := HL64.out _ (at_in (xs := L) (k := j) (by rw [← HN.out]; exact hlt))
          have HS := Lib.hid (smallF_take (k : Int) L j (by rw [← HN.out]; exact hlt))
          have hx63 : L[j]?.getD 0 ≤ 63 := by omega
          have hx0 : 0 ≤ L[j]?.getD 0 := hin.1
          clear hin
          go_wp2_with (go_at_call 26; refine (size_any _ _ hx0 hx63).mono ?_; rintro e w' ⟨rfl, rfl⟩)
          refine ⟨⟨j + 1, by omega, by go_num, by rw [HS.out], trivial⟩, by simp [intOf]; omega⟩
        · obtain rfl : j = n := by omega
          have HT : Hid (L.take j = L) := Lib.hid (by rw [HN.out, List.take_length])
          go_wp2
          go_ret2
          exact ⟨by rw [HO.out, HZ.out, if_neg HE.out, decide_eq_false HE.out, HT.out]; rfl, HB.out⟩

set_option maxRecDepth 100000 in
set_option maxHeartbeats 4000000 in
theorem specCoverSmall_any (m : Int) (a : Option Addr) (c : Nat) (zs : List Int) (w : World) (ha : Ints w w.heap.size a zs) (hx : zs.length ≤ 1048576) :
    Calls Tryd.prog 9 #[.agg #[.int .i64 m, .slice a zs.length c]] w (RetIB w (smallZ m zs) (smallOk m zs)) := by
  have HB0 := Lib.hid (below1 w (.cells #[.int .i64 m, .slice a zs.length c] 25))
  have HA := Lib.hid (ha.below HB0.out)
  clear ha
  cases hf : famIn m zs
  · have HF := Lib.hid hf
    have HO : Hid (smallOk m zs = false) := Lib.hid (by unfold smallOk; rw [hf]; rfl)
    have HZ : Hid (smallZ m zs = 0) := Lib.hid (by unfold smallZ; rw [HO.out]; rfl)
    clear hf
    go_enter Tryd.func9, Tryd.ntmps9
    go_wp2_with fail
    refine (specFamilyIn_any _ _ _ zs _ (HA.out.mono (by simp)) hx).mono ?_
    rintro e w1 ⟨rfl, hb⟩
    rw [HF.out]
    have HB := Lib.hid (HB0.out.trans (hb.mono (by simp)))
    clear hb
    go_wp2
    go_ret2
    exact ⟨by rw [HO.out, HZ.out]; rfl, HB.out⟩
  · have HF := Lib.hid hf
    obtain ⟨k, rfl, hk1, hk6, hset, hl8⟩ := fam_nat hf
    obtain ⟨L, hL⟩ : ∃ L, L = lcL k zs := ⟨_, rfl⟩
    have hL64 : ∀ x ∈ L, 0 ≤ x ∧ x < 64 := by rw [hL]; exact lcL_in hk6
    have hLn : L.length ≤ 64 := by rw [hL]; exact lcL_len hk6 zs
    have HO : Hid (smallOk (k : Int) zs = !decide (L = [])) := Lib.hid (by unfold smallOk; rw [hf, Int.toNat_natCast, ← hL]; rfl)
    have HZ : Hid (smallZ (k : Int) zs = if L = [] then 0 else smallF (k : Int) L) := Lib.hid (by unfold smallZ; rw [HO.out, Int.toNat_natCast, ← hL]; by_cases h : L = [] <;> simp [h])
    obtain ⟨n, hn⟩ : ∃ n, n = L.length := ⟨_, rfl⟩
    have HN := Lib.hid hn
    have HL64 := Lib.hid hL64
    have hn64 : n ≤ 64 := by omega
    have HLE := Lib.hid hL
    clear hf hL hL64 hLn
    go_enter Tryd.func9, Tryd.ntmps9
    go_wp2_with fail
    refine (specFamilyIn_any _ _ _ zs _ (HA.out.mono (by simp)) hx).mono ?_
    rintro e w1 ⟨rfl, hb⟩
    rw [HF.out]
    have b0 : w1.heap[w.heap.size]? = some (.cells #[.int .i64 (k : Int), .slice a zs.length c] 25 (0, 0)) := (hb.block _ (by simp)).trans (alloc_new w _)
    have B0 := Lib.hid b0
    have x0 := (blk_cell b0 0).trans (cell2_0 _ _)
    have x1 := (blk_cell b0 1).trans (cell2_1 _ _)
    have z1 : w.heap.size < w1.heap.size := lt_of_some b0
    have hC := l4Sets_any k hk1 hk6 a c zs w1 ((HA.out.below (hb.mono (by simp))).mono (by omega)) hx hset
    rw [← HLE.out] at hC
    have HC := Lib.hid hC
    have HB := Lib.hid (HB0.out.trans (hb.mono (by simp)))
    clear hb b0 hC
    go_wp2_with fail
    refine HC.out.mono ?_
    rintro e w2 ⟨g2, c2, rfl, ho, hb⟩
    have b2 : HasBlk w2 w.heap.size #[.int .i64 (k : Int), .slice a zs.length c] 25 := (hb.block _ z1).trans B0.out
    have y0 := (blk_cell b2 0).trans (cell2_0 _ _)
    have HI := Lib.hid ho
    have HB2 := Lib.hid (HB.out.trans (hb.mono (by omega)))
    rw [← hn]
    clear ho hb b2 hn
    go_wp2
    go_loopw [5, 6] (fun b i wr => ∃ j : Nat, j ≤ n ∧ i = .int .i64 j ∧ b = .int .i64 (smallF (k : Int) (L.take j)) ∧ w2 = wr) (fun _ i _ => n - (intOf i).toNat)
    case atStart => exact ⟨0, Nat.zero_le _, rfl, rfl, rfl⟩
    case round =>
      obtain ⟨j, hj, rfl, rfl, rfl⟩ := hrel
      by_cases hlt : j < n
      · have hc1 := HI.out.cell (j := j) (by rw [← HN.out]; exact hlt)
        have hjI : (j : Int) < (n : Int) := by omega
        have hin := HL64.out _ (at_in (xs := L) (k := j) (by rw [← HN.out]; exact hlt))
        have HS := Lib.hid (smallF_take (k : Int) L j (by rw [← HN.out]; exact hlt))
        have hx63 : L[j]?.getD 0 ≤ 63 := by omega
        have hx0 : 0 ≤ L[j]?.getD 0 := hin.1
        clear hin
        go_wp2_with (go_at_call 29; refine (l1Size_any _ _ hx0 hx63).mono ?_; rintro e w' ⟨rfl, rfl⟩)
        refine ⟨⟨j + 1, by omega, by go_num, by rw [HS.out], trivial⟩, by simp [intOf]; omega⟩
      · obtain rfl : j = n := by omega
        have HT : Hid (L.take j = L) := Lib.hid (by rw [HN.out, List.take_length])
        by_cases hn0 : j = 0
        · have HE : Hid (L = []) := Lib.hid (List.eq_nil_of_length_eq_zero (by rw [← HN.out]; exact hn0))
          have hn0I : ((j : Int) == 0) = true := by rw [beq_iff_eq]; omega
          clear hn0
          go_wp2
          go_ret2
          exact ⟨by rw [HO.out, HZ.out, if_pos HE.out, decide_eq_true HE.out]; rfl, HB2.out⟩
        · have HE : Hid (L ≠ []) := Lib.hid (fun e => hn0 (by rw [HN.out, e]; rfl))
          have hn0I : ((j : Int) == 0) = false := by rw [beq_eq_false_iff_ne]; omega
          clear hn0
          go_wp2
          go_ret2
          exact ⟨by rw [HO.out, HZ.out, if_neg HE.out, decide_eq_false HE.out, HT.out]; rfl, HB2.out⟩

end Go.Proofs.YtphddemilibooaaDoor

/- It is proved what CoverIn of the program and of the reference model returns; conditions: those of each statement. -/
namespace Go.Proofs.YtphddemilibooaaDoor
open Go.RowKit

theorem fam_nat2 {m : Int} {zs : List Int} (h : famIn m zs = true) : ∃ k : Nat, m = (k : Int) ∧ 1 ≤ k ∧ k ≤ 6 ∧ Sets k zs ∧ zs.length ≤ 8 := by
  obtain ⟨h1, h2, h3, -⟩ := famIn_out h
  obtain ⟨k, rfl⟩ : ∃ k : Nat, m = (k : Int) := ⟨m.toNat, by omega⟩
  exact ⟨k, rfl, by omega, by omega, sets_of_fam h, h3⟩

end Go.Proofs.YtphddemilibooaaDoor
