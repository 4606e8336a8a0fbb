/- It is proved what EarForest of the model returns; conditions: those of each statement. -/
import Derived.RowKit
import Derived.Laws.CopyRow
import Derived.Lib.SlBuf
import Derived.Deep.QuietTactic
import Derived.RangeFuncNested
import Derived.RangeFuncBound
import Derived.RangeFuncCalls
import Derived.RangeFuncLeaves
import Derived.RangeFuncBox
import Derived.RangeFuncWrites
import Derived.StillTailTactics
import Derived.Maps.OwnIn
import Derived.Maps.Ext
import Derived.DeepKeys4
import Derived.MapKept
import Derived.Test.YtphddemilibooaaDoorRows
import Derived.WalkKit
import Derived.WalkSpells
import Derived.ProofKit
import Derived.OpenShut
import Derived.ShutString
import Derived.ChangeOld
import Derived.Below
import Derived.Deep.RegionHeld3
import Derived.BigQuiet
import Derived.Lib.Hide
import Derived.Lib.SmallJoins
import Derived.Outline
import Derived.Laws.MakeOwn
import Derived.Laws.OwnMore
import Derived.IntWalk
import Derived.Lib.AppendZeros
import Derived.Maps.AppendAt
import Derived.Deep.AppendLies
import Derived.OwnWalk
import Derived.Lib.SlicesCompact
import Derived.Lib.OwnBridge
import Derived.OrdersIn
import Derived.TacticsIn
import Derived.Shelf.Sort.Plain
import Derived.Shelf.Slices.In.SortNone
import Derived.Shelf.Slices.CompactI
import Derived.Ground.Names2Prog
import Derived.Lib.SliceRun
import Derived.Shelf.Abstract
import Derived.Shelf.RegionOpen
import Derived.OwnWalkIn
import Derived.TacticsInMore
import Derived.LoopNIn
import Derived.LoopIn
import Derived.StillTail
import Derived.StillTactics
import Derived.Shelf.Spec.TrailingZeros
import Derived.Deep.LoopGhost
import Derived.Test.YtphddemilibooaaDoorRaaa
import Derived.Test.YtphddemilibooaaDoorRaac
import Derived.Test.YtphddemilibooaaDoorDb
import Derived.Test.YtphddemilibooaaDoorRaab
import Derived.Test.YtphddemilibooaaDoorRaad
import Derived.Test.YtphddemilibooaaDoorRaaw
import Derived.Test.YtphddemilibooaaDoorRaal
import Derived.Test.YtphddemilibooaaDoorRaaz
import Derived.Test.YtphddemilibooaaDoorPc
import Derived.Test.YtphddemilibooaaDoorYa
import Derived.Test.YtphddemilibooaaDoorYf
import Derived.Test.YtphddemilibooaaDoorYr
namespace Go.Proofs.YtphddemilibooaaDoor
open Go.RowKit

/-- A row of labels. -/
def rowL (L : Nat → Nat) (N : Nat) : List Int := (List.range N).map fun x => ((L x : Nat) : Int)

def halfL (L L' : Nat → Nat) (N x : Nat) : List Int := rowL (fun y => if y < x then L' y else L y) N
theorem rowL_len (L : Nat → Nat) (N : Nat) : (rowL L N).length = N := by simp [rowL]
theorem rowL_at {L : Nat → Nat} {N x : Nat} (h : x < N) : (rowL L N)[x]?.getD 0 = ((L x : Nat) : Int) := by simp [rowL, h]
theorem rowL_succ (L : Nat → Nat) (N : Nat) : rowL L (N + 1) = rowL L N ++ [((L N : Nat) : Int)] := by simp [rowL, List.range_succ]
theorem half_zero (L L' : Nat → Nat) (N : Nat) : halfL L L' N 0 = rowL L N := by simp [halfL]
theorem half_all (L L' : Nat → Nat) (N : Nat) : halfL L L' N N = rowL L' N := by
  unfold halfL rowL
  refine List.map_congr_left fun x hx => ?_
  dsimp only
  rw [if_pos (List.mem_range.1 hx)]

theorem half_at {L L' : Nat → Nat} {N x : Nat} (h : x < N) : (halfL L L' N x)[x]?.getD 0 = ((L x : Nat) : Int) := by
  unfold halfL
  rw [rowL_at h, if_neg (by omega)]

theorem half_keep {L L' : Nat → Nat} {N x : Nat} (h : L' x = L x) : halfL L L' N (x + 1) = halfL L L' N x := by
  unfold halfL rowL
  refine List.map_congr_left fun y _ => ?_
  dsimp only
  by_cases e : y = x
  · subst e; rw [if_pos (by omega), if_neg (by omega), h]
  · by_cases h1 : y < x
    · rw [if_pos (by omega), if_pos h1]
    · rw [if_neg (by omega), if_neg h1]

theorem half_set (L L' : Nat → Nat) (N x : Nat) : halfL L L' N (x + 1) = (halfL L L' N x).set x ((L' x : Nat) : Int) := by
  apply List.ext_getElem
  · simp [halfL, rowL]
  · intro y h1 h2
    simp only [halfL, rowL, List.getElem_map, List.getElem_range, List.getElem_set]
    by_cases e : x = y
    · subst e; rw [if_pos (by omega), if_pos rfl]
    · rw [if_neg e]
      by_cases h3 : y < x
      · rw [if_pos (by omega), if_pos h3]
      · rw [if_neg (by omega), if_neg h3]

def linksV (m : Nat) (ks : List Nat) (i v : Nat) : List (Nat × Nat) := linksL m ks i ++ (bitsL (ks[i]?.getD 0) v).map fun u => (u, m + i)
theorem linksV_zero (m : Nat) (ks : List Nat) (i : Nat) : linksV m ks i 0 = linksL m ks i := by simp [linksV, bitsL]
theorem linksV_all (m : Nat) (ks : List Nat) (i : Nat) : linksV m ks i m = linksL m ks (i + 1) := (linksL_succ m ks i).symm
theorem linksV_no {m : Nat} {ks : List Nat} {i v : Nat} (h : (ks[i]?.getD 0).testBit v = false) : linksV m ks i (v + 1) = linksV m ks i v := by
  unfold linksV
  rw [bitsL_succ, h]; simp

theorem linksV_yes {m : Nat} {ks : List Nat} {i v : Nat} (h : (ks[i]?.getD 0).testBit v = true) : linksV m ks i (v + 1) = linksV m ks i v ++ [(v, m + i)] := by
  unfold linksV
  rw [bitsL_succ, h]; simp

theorem bitsL_pre (k : Nat) {v m : Nat} (h : v ≤ m) : bitsL k v <+: bitsL k m := by
  induction m with
  | zero => obtain rfl : v = 0 := by omega
            exact List.prefix_rfl
  | succ m ih =>
    by_cases e : v = m + 1
    · subst e; exact List.prefix_rfl
    · rw [bitsL_succ]
      exact (ih (by omega)).trans (List.prefix_append _ _)

theorem linksL_pre (m : Nat) (ks : List Nat) {i n : Nat} (h : i ≤ n) : linksL m ks i <+: linksL m ks n := by
  induction n with
  | zero => obtain rfl : i = 0 := by omega
            exact List.prefix_rfl
  | succ n ih =>
    by_cases e : i = n + 1
    · subst e; exact List.prefix_rfl
    · rw [linksL_succ]
      exact (ih (by omega)).trans (List.prefix_append _ _)

theorem linksV_pre (m : Nat) (ks : List Nat) {i n v : Nat} (hi : i < n) (hv : v ≤ m) : linksV m ks i v <+: linksL m ks n := by
  refine List.IsPrefix.trans ?_ (linksL_pre m ks (show i + 1 ≤ n by omega))
  rw [← linksV_all]
  unfold linksV
  exact (List.prefix_append_right_inj _).2 ((bitsL_pre _ hv).map _)

theorem okL_pre {E F : List (Nat × Nat)} (h : E <+: F) (ho : okL id E = false) : okL id F = false := by
  obtain ⟨t, rfl⟩ := h
  exact okL_prefix E t id ho

theorem ksOf_at (zs : List Int) (i : Nat) : (ksOf zs)[i]?.getD 0 = (zs[i]?.getD 0 : Int).toNat := by
  unfold ksOf
  rw [List.getElem?_map]
  cases zs[i]? <;> rfl

def forestB (m : Int) (zs : List Int) : Bool := famIn m zs && okL id (linksL m.toNat (ksOf zs) zs.length)
set_option maxRecDepth 100000 in
set_option maxHeartbeats 8000000 in
theorem specForest_any (m : Int) (a : Option Addr) (c : Nat) (zs : List Int) (w : World) (ha : Ints w w.heap.size a zs) (hx : zs.length ≤ 1048576) :
    Calls Tryd.prog 14 #[.agg #[.int .i64 m, .slice a zs.length c]] w fun e w' => e = .returned (.bool (forestB m zs)) ∧ Below w.heap.size w w' := by
  unfold forestB
  have HB0 := Lib.hid (below1 w (.cells #[.int .i64 m, .slice a zs.length c] 25))
  have HA := Lib.hid (ha.below HB0.out)
  clear ha
  cases hf : famIn m zs
  · have HF := Lib.hid hf
    clear hf
    go_enter Tryd.func14, Tryd.ntmps14
    go_wp2_with fail
    refine (specFamilyIn_any _ _ _ zs _ (HA.out.mono (by simp)) hx).mono ?_
    rintro e w1 ⟨rfl, hb⟩
    rw [HF.out]
    have HB := Lib.hid (HB0.out.trans (hb.mono (by simp)))
    clear hb
    go_wp2
    go_ret
    exact ⟨rfl, HB.out⟩
  · have HF := Lib.hid hf
    obtain ⟨k, rfl, hk1, hk6, hset, hl8⟩ := fam_nat2 hf
    rw [Int.toNat_natCast, Bool.true_and]
    obtain ⟨i0, hi0, hz0, hz1, hz2⟩ := info_parts Tryd.info3
    obtain ⟨ks, hks⟩ : ∃ ks, ks = ksOf zs := ⟨_, rfl⟩
    have HKS : Hid (∀ i : Nat, ks[i]?.getD 0 = (zs[i]?.getD 0 : Int).toNat) := Lib.hid fun i => by rw [hks]; exact ksOf_at zs i
    rw [← hks]
    have HS := Lib.hid hset
    clear hf hset hks
    go_enter Tryd.func14, Tryd.ntmps14
    go_wp2_with fail
    refine (specFamilyIn_any _ _ _ zs _ (HA.out.mono (by simp)) hx).mono ?_
    rintro e w1 ⟨rfl, hb⟩
    rw [HF.out]
    have b0 : w1.heap[w.heap.size]? = some (.cells #[.int .i64 (k : Int), .slice a zs.length c] 25 (0, 0)) := (hb.block _ (by simp)).trans (alloc_new w _)
    have x0 := (blk_cell b0 0).trans (cell2_0 _ _)
    have x1 := (blk_cell b0 1).trans (cell2_1 _ _)
    have hz1 : w.heap.size < w1.heap.size := lt_of_some b0
    have HB := Lib.hid (HB0.out.trans (hb.mono (by simp)))
    have HI1 := Lib.hid ((HA.out.below (hb.mono (by simp))).mono (show w.heap.size ≤ w1.heap.size by omega))
    obtain ⟨n, hn⟩ : ∃ n, n = zs.length := ⟨_, rfl⟩
    have HN := Lib.hid hn
    rw [← hn] at x1 hl8 ⊢
    have HKEEP : Hid (∀ W, Below w1.heap.size w1 W → W.cell? ⟨w.heap.size, 0, none⟩ = some (.int .i64 (k : Int)) ∧ W.cell? ⟨w.heap.size, 1, none⟩ = some (.slice a n c)) :=
      Lib.hid fun W hW => ⟨(hW.cell (p := ⟨w.heap.size, 0, none⟩) hz1).trans x0, (hW.cell (p := ⟨w.heap.size, 1, none⟩) hz1).trans x1⟩
    have HE : Hid (OwnN (w1.alloc (.cells #[] 3)) w1.heap.size (some ⟨w1.heap.size, 0, none⟩) 0 0 (rowL id 0) ∧ Below w1.heap.size w1 (w1.alloc (.cells #[] 3))) := Lib.hid ⟨own_empty (alloc_new w1 _) (Nat.le_refl _), below1 w1 _⟩
    clear hb b0 hn x0 x1 HA HB0
    go_wp2
    go_loopg [3, 4] (k + n) (fun g s3 s4 wr => ∃ (x : Nat) (b : Option Addr) (d : Nat), x + g = k + n ∧ s4 = .int .i64 (x : Int) ∧ s3 = .slice b x d ∧ Hid (OwnN wr w1.heap.size b x d (rowL id x) ∧ Below w1.heap.size w1 wr))
    case atStart => exact ⟨0, _, _, by omega, rfl, rfl, HE.out⟩
    case round =>
      obtain ⟨x, b, d, hxg, rfl, rfl, HO⟩ := hrel
      obtain ⟨x0, x1⟩ := HKEEP.out _ HO.out.2
      have hwk : IntKind.i64.wrap ((k : Int) + (n : Int)) = (k : Int) + (n : Int) := IntWalk.i64_in _ (by omega)
      clear HE
      cases gk with
      | zero =>
        obtain rfl : x = k + n := by omega
        go_wp2
        have HR0 : Hid (OwnN wr w1.heap.size b (k + n) d (rowL (runL (linksL k ks 0)) (k + n)) ∧ Below w1.heap.size w1 wr) := HO
        clear HO x0 x1
        go_loopg [5, 6, 7, 8, 9] n (fun g s5 s6 s7 s8 s9 wi => ∃ (i : Nat), i + g = n ∧ s5 = .int .i64 (i : Int) ∧ Hid (OwnN wi w1.heap.size b (k + n) d (rowL (runL (linksL k ks i)) (k + n)) ∧ Below w1.heap.size w1 wi ∧ okL id (linksL k ks i) = true))
        case atStart => exact ⟨0, by omega, rfl, HR0.out.1, HR0.out.2, rfl⟩
        case round =>
          obtain ⟨i, hig, rfl, HI⟩ := hrel
          obtain ⟨x0, x1⟩ := HKEEP.out _ HI.out.2.1
          cases gk with
          | zero =>
            obtain rfl : i = n := by omega
            have HR := Lib.hid (HB.out.trans (HI.out.2.1.mono HB.out.size))
            have HOK : Hid (okL id (linksL k ks zs.length) = true) := Lib.hid (by rw [← HN.out]; exact HI.out.2.2)
            clear HI
            go_wp2
            go_ret
            exact ⟨by rw [HOK.out]; rfl, HR.out⟩
          | succ gi =>
            have hin : i < n := by omega
            have hii : (i : Int) < (n : Int) := by omega
            have hi0' : (0 : Int) ≤ (i : Int) := by omega
            have HV0 : Hid (OwnN wr w1.heap.size b (k + n) d (rowL (runL (linksV k ks i 0)) (k + n)) ∧ Below w1.heap.size w1 wr ∧ okL id (linksV k ks i 0) = true) := Lib.hid (by rw [linksV_zero]; exact HI.out)
            go_wp2
            clear HI x0 x1
            go_loopg [6, 7, 8, 9] k (fun g s6 s7 s8 s9 wv => ∃ (v : Nat), v + g = k ∧ s6 = .int .i64 (v : Int) ∧ Hid (OwnN wv w1.heap.size b (k + n) d (rowL (runL (linksV k ks i v)) (k + n)) ∧ Below w1.heap.size w1 wv ∧ okL id (linksV k ks i v) = true))
            case atStart => exact ⟨0, by omega, rfl, HV0.out⟩
            case round =>
              obtain ⟨v, hvg, rfl, HV⟩ := hrel
              obtain ⟨x0, x1⟩ := HKEEP.out _ HV.out.2.1
              clear HV0
              cases gk with
              | zero =>
                obtain rfl : v = k := by omega
                have HI2 : Hid (OwnN wr w1.heap.size b (v + n) d (rowL (runL (linksL v ks (i + 1))) (v + n)) ∧ Below w1.heap.size w1 wr ∧ okL id (linksL v ks (i + 1)) = true) := Lib.hid (by rw [← linksV_all]; exact HV.out)
                go_wp2
                go_roundg gi
                case measure => omega
                case rel => exact ⟨i + 1, by omega, by go_num, HI2.out⟩
              | succ gv =>
                have hvk : v < k := by omega
                have hvi : (v : Int) < (k : Int) := by omega
                have hv0 : (0 : Int) ≤ (v : Int) := by omega
                obtain ⟨bz, oz, rfl, hbz, hcz⟩ := (HI1.out.below HV.out.2.1).at_ (k := i) (by rw [← HN.out]; exact hin)
                obtain ⟨z, hz⟩ : ∃ z, z = zs[i]?.getD 0 := ⟨_, rfl⟩
                have HKI : Hid (ks[i]?.getD 0 = z.toNat) := Lib.hid (by rw [hz]; exact HKS.out i)
                have hzm : z ∈ zs := by rw [hz]; exact at_in (by rw [← HN.out]; exact hin)
                have hzz0 : 0 ≤ z := (HS.out z hzm).1
                have hz64 : z.toNat < 64 := p64 hk6 (HS.out z hzm).2
                have hbt := bt_int hzz0 hz64 (show v < 6 by omega)
                have hz63 : z ≤ 63 := by omega
                rw [← hz] at hcz
                clear hz hzm
                cases hb : Bt v z
                · rw [hb] at hbt
                  simp only [Bool.false_eq_true, if_false] at hbt
                  have HV2 : Hid (OwnN wr w1.heap.size b (k + n) d (rowL (runL (linksV k ks i (v + 1))) (k + n)) ∧ Below w1.heap.size w1 wr ∧ okL id (linksV k ks i (v + 1)) = true) := Lib.hid (by rw [linksV_no (by rw [HKI.out]; exact hb)]; exact HV.out)
                  clear hb HV
                  go_wp2
                  go_roundg gv
                  case measure => omega
                  case rel => exact ⟨v + 1, by omega, by go_num, HV2.out⟩
                · rw [hb] at hbt
                  simp only [if_true] at hbt
                  have HE2 : Hid (linksV k ks i (v + 1) = linksV k ks i v ++ [(v, k + i)]) := Lib.hid (linksV_yes (by rw [HKI.out]; exact hb))
                  obtain ⟨L, hL⟩ : ∃ L, L = runL (linksV k ks i v) := ⟨_, rfl⟩
                  have HL := Lib.hid hL
                  have HO : Hid (OwnN wr w1.heap.size b (k + n) d (rowL L (k + n))) := Lib.hid (by rw [hL]; exact HV.out.1)
                  obtain ⟨A, hA⟩ : ∃ A, A = L v := ⟨_, rfl⟩
                  obtain ⟨B, hB⟩ : ∃ B, B = L (k + i) := ⟨_, rfl⟩
                  obtain ⟨g, rfl, hg1, hg2, ca, -, -⟩ := own_wr6 HO.out (show v < k + n by omega)
                  have cb := HO.out.cell (show k + i < k + n by omega)
                  rw [rowL_at (by omega), ← hA] at ca
                  rw [rowL_at (by omega), ← hB] at cb
                  have hwi : IntKind.i64.wrap ((k : Int) + (i : Int)) = (k : Int) + (i : Int) := IntWalk.i64_in _ (by omega)
                  have hki0 : (0 : Int) ≤ (k : Int) + (i : Int) := by omega
                  have hkin : (k : Int) + (i : Int) < (k : Int) + (n : Int) := by omega
                  have hvin : (v : Int) < (k : Int) + (n : Int) := by omega
                  have hcap : k + n ≤ d := HO.out.cap_le
                  have htn : ((k : Int) + (i : Int)).toNat = k + i := by omega
                  clear hb hL
                  by_cases hAB : A = B
                  · have hb1 : ((A : Int) == (B : Int)) = true := by rw [hAB]; simp
                    have HNO : Hid (okL id (linksL k ks zs.length) = false) := Lib.hid (by rw [← HN.out]; exact okL_pre (linksV_pre k ks hin (show v + 1 ≤ k by omega)) (by
                      rw [HE2.out, okL_snoc, decide_eq_false, Bool.and_false]
                      show ¬ ((runL (linksV k ks i v)) v ≠ (runL (linksV k ks i v)) (k + i))
                      rw [← HL.out, ← hA, ← hB]
                      exact fun h => h hAB))
                    have HR := Lib.hid (HB.out.trans (HV.out.2.1.mono HB.out.size))
                    clear HV HO hA hB hAB
                    go_wp2
                    go_ret
                    exact ⟨by rw [HNO.out]; rfl, HR.out⟩
                  · have hb1 : ((A : Int) == (B : Int)) = false := by rw [beq_eq_false_iff_ne]; omega
                    have hb2 : (A == B) = false := by rw [beq_eq_false_iff_ne]; exact hAB
                    have HAB := Lib.hid hAB
                    have HRUN : Hid (runL (linksV k ks i (v + 1)) = relab A B L) := Lib.hid (by
                      rw [HE2.out, run_snoc, ← HL.out]
                      unfold joinL
                      rw [if_neg (by show L v ≠ L (k + i); rw [← hA, ← hB]; exact HAB.out), ← hA, ← hB])
                    have HOK : Hid (okL id (linksV k ks i (v + 1)) = true) := Lib.hid (by
                      rw [HE2.out, okL_snoc, HV.out.2.2, decide_eq_true, Bool.true_and]
                      show (runL (linksV k ks i v)) v ≠ (runL (linksV k ks i v)) (k + i)
                      rw [← HL.out, ← hA, ← hB]
                      exact HAB.out)
                    have HX0 : Hid (OwnN wr w1.heap.size (some ⟨g, 0, none⟩) (k + n) d (halfL L (relab A B L) (k + n) 0) ∧ Below w1.heap.size w1 wr) := Lib.hid ⟨by rw [half_zero]; exact HO.out, HV.out.2.1⟩
                    clear hA hB hAB HV HO HE2
                    go_wp2
                    clear ca cb
                    go_loopg [9] (k + n) (fun g2 s9 wx => ∃ x : Nat, x + g2 = k + n ∧ s9 = .int .i64 (x : Int) ∧ Hid (OwnN wx w1.heap.size (some ⟨g, 0, none⟩) (k + n) d (halfL L (relab A B L) (k + n) x) ∧ Below w1.heap.size w1 wx))
                    case atStart => exact ⟨0, by omega, rfl, HX0.out⟩
                    case round =>
                      obtain ⟨x, hxg2, rfl, HX⟩ := hrel
                      cases gk with
                      | zero =>
                        obtain rfl : x = k + n := by omega
                        have HV2 : Hid (OwnN wr w1.heap.size (some ⟨g, 0, none⟩) (k + n) d (rowL (runL (linksV k ks i (v + 1))) (k + n)) ∧ Below w1.heap.size w1 wr ∧ okL id (linksV k ks i (v + 1)) = true) := Lib.hid ⟨by rw [HRUN.out, ← half_all L]; exact HX.out.1, HX.out.2, HOK.out⟩
                        clear HX HX0
                        go_wp2
                        go_roundg gv
                        case measure => omega
                        case rel => exact ⟨v + 1, by omega, by go_num, HV2.out⟩
                      | succ g2 =>
                        have hxn : x < k + n := by omega
                        have hxi : (x : Int) < (k : Int) + (n : Int) := by omega
                        have hxi0 : (0 : Int) ≤ (x : Int) := by omega
                        obtain ⟨g', he, -, -, cx, fx, sx⟩ := own_wr6 HX.out.1 hxn
                        injection he with he
                        injection he with he _
                        subst he
                        rw [half_at hxn] at cx
                        obtain ⟨lx, hlx⟩ : ∃ lx, lx = L x := ⟨_, rfl⟩
                        rw [← hlx] at cx
                        by_cases hlB : lx = B
                        · subst hlB
                          have HS2 : Hid (OwnN (wr.setCell ⟨g, x, none⟩ (.int .i64 (A : Int))) w1.heap.size (some ⟨g, 0, none⟩) (k + n) d (halfL L (relab A lx L) (k + n) (x + 1)) ∧ Below w1.heap.size w1 (wr.setCell ⟨g, x, none⟩ (.int .i64 (A : Int)))) := Lib.hid ⟨by
                            rw [half_set, show relab A lx L x = A from by unfold relab; rw [if_pos hlx.symm]]
                            exact sx _, HX.out.2.setCell (p := ⟨g, x, none⟩) hg1 _⟩
                          clear HX sx hlx
                          go_wp2
                          go_roundg g2
                          case measure => omega
                          case rel => exact ⟨x + 1, by omega, by go_num, HS2.out⟩
                        · have hb3 : ((lx : Int) == (B : Int)) = false := by rw [beq_eq_false_iff_ne]; omega
                          have hb4 : (lx == B) = false := by rw [beq_eq_false_iff_ne]; exact hlB
                          have HS2 : Hid (OwnN wr w1.heap.size (some ⟨g, 0, none⟩) (k + n) d (halfL L (relab A B L) (k + n) (x + 1)) ∧ Below w1.heap.size w1 wr) := Lib.hid ⟨by
                            rw [half_keep (by unfold relab; rw [if_neg (by rw [← hlx]; exact hlB)])]
                            exact HX.out.1, HX.out.2⟩
                          clear HX sx hlx hlB
                          go_wp2
                          go_roundg g2
                          case measure => omega
                          case rel => exact ⟨x + 1, by omega, by go_num, HS2.out⟩
      | succ g =>
        have hxn : x < k + n := by omega
        have hxi : (x : Int) < (k : Int) + (n : Int) := by omega
        have hsz : w1.heap.size ≤ wr.heap.size := HO.out.2.size
        go_wp2_with (at_builtin; refine wpList_append_own _ rfl _ _ 23 rfl w1.heap.size 3 i0 (.int .i64 0) 1 8 Tryd.underlying23 hi0 hz0 ‹_› hz2 rfl (by decide) _ _ _ rfl (HO.out.1.alloc _) ⟨wr.heap.size, 0, none⟩ 1 1 [.int .i64 _] rfl rfl (cell_one_new _ _ _) (by simp [Value.oneCell']) (by simp only [maxLen]; omega) (by omega) (by simp; omega) ?_; intro v' w9 hown hgrow _; obtain ⟨g', cap', rfl, _, _⟩ := World.ownsRow.form hown (by omega))
        go_roundg g
        case measure => omega
        case rel => exact ⟨x + 1, _, _, by omega, by go_num, rfl, by rw [rowL_succ]; exact own_more hown, (HO.out.2.alloc hsz _).grown hgrow (by simp; omega) (fun g e => (World.ownsRow.lt HO.out.1 g e).1)⟩

end Go.Proofs.YtphddemilibooaaDoor
