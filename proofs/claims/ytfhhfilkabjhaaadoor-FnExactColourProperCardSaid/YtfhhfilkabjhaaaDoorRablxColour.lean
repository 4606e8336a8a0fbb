/- It is proved what EarForest of the model returns; conditions: those of each statement. -/
import Derived.RowKit
import Derived.Laws.CopyRow
import Derived.Lib.SlBuf
import Derived.Deep.QuietTactic
import Derived.RangeFuncNested
import Derived.RangeFuncBound
import Derived.RangeFuncCalls
import Derived.RangeFuncLeaves
import Derived.RangeFuncBox
import Derived.RangeFuncWrites
import Derived.StillTailTactics
import Derived.Maps.OwnIn
import Derived.Maps.Ext
import Derived.DeepKeys4
import Derived.MapKept
import Derived.Test.YtfhhfilkabjhaaaDoorRows
import Derived.WalkKit
import Derived.WalkSpells
import Derived.ProofKit
import Derived.OpenShut
import Derived.ShutString
import Derived.ChangeOld
import Derived.Below
import Derived.Deep.RegionHeld3
import Derived.BigQuiet
import Derived.Lib.Hide
import Derived.Lib.SmallJoins
import Derived.Outline
import Derived.Laws.MakeOwn
import Derived.Laws.OwnMore
import Derived.IntWalk
import Derived.Lib.AppendZeros
import Derived.Maps.AppendAt
import Derived.Deep.AppendLies
import Derived.OwnWalk
import Derived.Lib.SlicesCompact
import Derived.Lib.OwnBridge
import Derived.OrdersIn
import Derived.TacticsIn
import Derived.Shelf.Sort.Plain
import Derived.Shelf.Slices.In.SortNone
import Derived.Shelf.Slices.CompactI
import Derived.Ground.Names2Prog
import Derived.Lib.SliceRun
import Derived.Shelf.Abstract
import Derived.Shelf.RegionOpen
import Derived.OwnWalkIn
import Derived.TacticsInMore
import Derived.LoopNIn
import Derived.LoopIn
import Derived.StillTail
import Derived.StillTactics
import Derived.Shelf.Spec.TrailingZeros
import Derived.Deep.LoopGhost
import Derived.Test.YtfhhfilkabjhaaaDoorRaad
import Derived.Test.YtfhhfilkabjhaaaDoorRabkxColour
import Derived.Test.YtfhhfilkabjhaaaDoorRaaf
import Derived.Test.YtfhhfilkabjhaaaDoorRaac
import Derived.Test.YtfhhfilkabjhaaaDoorRaaa
import Derived.Test.YtfhhfilkabjhaaaDoorRaab
import Derived.Test.YtfhhfilkabjhaaaDoorRaao
import Derived.Test.YtfhhfilkabjhaaaDoorKa
import Derived.Test.YtfhhfilkabjhaaaDoorKc
import Derived.Test.YtfhhfilkabjhaaaDoorRaat
import Derived.Test.YtfhhfilkabjhaaaDoorRabjxColour
import Derived.Test.YtfhhfilkabjhaaaDoorRaax
import Derived.Test.YtfhhfilkabjhaaaDoorRaae
import Derived.Test.YtfhhfilkabjhaaaDoorYa
import Derived.Sort.MapsRangeIn
import Derived.Deep.RegionLaw
import Derived.Test.YtfhhfilkabjhaaaDoorJc
import Derived.Test.YtfhhfilkabjhaaaDoorRabc
import Derived.Test.YtfhhfilkabjhaaaDoorRabixColour
import Derived.Test.YtfhhfilkabjhaaaDoorRabd
import Derived.Test.YtfhhfilkabjhaaaDoorRabe
namespace Go.Proofs.YtfhhfilkabjhaaaDoor
open Go.RowKit

/-- A row of labels. -/
def rowL (L : Nat → Nat) (N : Nat) : List Int := (List.range N).map fun x => ((L x : Nat) : Int)

def halfL (L L' : Nat → Nat) (N x : Nat) : List Int := rowL (fun y => if y < x then L' y else L y) N
theorem rowL_len (L : Nat → Nat) (N : Nat) : (rowL L N).length = N := by simp [rowL]
theorem rowL_at {L : Nat → Nat} {N x : Nat} (h : x < N) : (rowL L N)[x]?.getD 0 = ((L x : Nat) : Int) := by simp [rowL, h]
theorem rowL_succ (L : Nat → Nat) (N : Nat) : rowL L (N + 1) = rowL L N ++ [((L N : Nat) : Int)] := by simp [rowL, List.range_succ]
theorem half_zero (L L' : Nat → Nat) (N : Nat) : halfL L L' N 0 = rowL L N := by simp [halfL]
theorem half_all (L L' : Nat → Nat) (N : Nat) : halfL L L' N N = rowL L' N := by
  unfold halfL rowL
  refine List.map_congr_left fun x hx => ?_
  dsimp only
  rw [if_pos (List.mem_range.1 hx)]

theorem half_at {L L' : Nat → Nat} {N x : Nat} (h : x < N) : (halfL L L' N x)[x]?.getD 0 = ((L x : Nat) : Int) := by
  unfold halfL
  rw [rowL_at h, if_neg (by omega)]

theorem half_keep {L L' : Nat → Nat} {N x : Nat} (h : L' x = L x) : halfL L L' N (x + 1) = halfL L L' N x := by
  unfold halfL rowL
  refine List.map_congr_left fun y _ => ?_
  dsimp only
  by_cases e : y = x
  · subst e; rw [if_pos (by omega), if_neg (by omega), h]
  · by_cases h1 : y < x
    · rw [if_pos (by omega), if_pos h1]
    · rw [if_neg (by omega), if_neg h1]

theorem half_set (L L' : Nat → Nat) (N x : Nat) : halfL L L' N (x + 1) = (halfL L L' N x).set x ((L' x : Nat) : Int) := by
  apply List.ext_getElem
  · simp [halfL, rowL]
  · intro y h1 h2
    simp only [halfL, rowL, List.getElem_map, List.getElem_range, List.getElem_set]
    by_cases e : x = y
    · subst e; rw [if_pos (by omega), if_pos rfl]
    · rw [if_neg e]
      by_cases h3 : y < x
      · rw [if_pos (by omega), if_pos h3]
      · rw [if_neg (by omega), if_neg h3]

def linksV (m : Nat) (ks : List Nat) (i v : Nat) : List (Nat × Nat) := linksL m ks i ++ (bitsL (ks[i]?.getD 0) v).map fun u => (u, m + i)
theorem linksV_zero (m : Nat) (ks : List Nat) (i : Nat) : linksV m ks i 0 = linksL m ks i := by simp [linksV, bitsL]
theorem linksV_all (m : Nat) (ks : List Nat) (i : Nat) : linksV m ks i m = linksL m ks (i + 1) := (linksL_succ m ks i).symm
theorem linksV_no {m : Nat} {ks : List Nat} {i v : Nat} (h : (ks[i]?.getD 0).testBit v = false) : linksV m ks i (v + 1) = linksV m ks i v := by
  unfold linksV
  rw [bitsL_succ, h]; simp

theorem linksV_yes {m : Nat} {ks : List Nat} {i v : Nat} (h : (ks[i]?.getD 0).testBit v = true) : linksV m ks i (v + 1) = linksV m ks i v ++ [(v, m + i)] := by
  unfold linksV
  rw [bitsL_succ, h]; simp

theorem bitsL_pre (k : Nat) {v m : Nat} (h : v ≤ m) : bitsL k v <+: bitsL k m := by
  induction m with
  | zero => obtain rfl : v = 0 := by omega
            exact List.prefix_rfl
  | succ m ih =>
    by_cases e : v = m + 1
    · subst e; exact List.prefix_rfl
    · rw [bitsL_succ]
      exact (ih (by omega)).trans (List.prefix_append _ _)

theorem linksL_pre (m : Nat) (ks : List Nat) {i n : Nat} (h : i ≤ n) : linksL m ks i <+: linksL m ks n := by
  induction n with
  | zero => obtain rfl : i = 0 := by omega
            exact List.prefix_rfl
  | succ n ih =>
    by_cases e : i = n + 1
    · subst e; exact List.prefix_rfl
    · rw [linksL_succ]
      exact (ih (by omega)).trans (List.prefix_append _ _)

theorem linksV_pre (m : Nat) (ks : List Nat) {i n v : Nat} (hi : i < n) (hv : v ≤ m) : linksV m ks i v <+: linksL m ks n := by
  refine List.IsPrefix.trans ?_ (linksL_pre m ks (show i + 1 ≤ n by omega))
  rw [← linksV_all]
  unfold linksV
  exact (List.prefix_append_right_inj _).2 ((bitsL_pre _ hv).map _)

theorem okL_pre {E F : List (Nat × Nat)} (h : E <+: F) (ho : okL id E = false) : okL id F = false := by
  obtain ⟨t, rfl⟩ := h
  exact okL_prefix E t id ho

theorem ksOf_at (zs : List Int) (i : Nat) : (ksOf zs)[i]?.getD 0 = (zs[i]?.getD 0 : Int).toNat := by
  unfold ksOf
  rw [List.getElem?_map]
  cases zs[i]? <;> rfl

def forestB (m : Int) (zs : List Int) : Bool := famIn m zs && okL id (linksL m.toNat (ksOf zs) zs.length)
end Go.Proofs.YtfhhfilkabjhaaaDoor

/- It is proved what the reference model's pairs are; conditions: those of each statement. -/
namespace Go.Proofs.YtfhhfilkabjhaaaDoor
open Go.RowKit

/-- The other members of the clubs with a member. -/
def prU (zs : List Int) (v : Nat) : Nat := zs.foldl (fun t z => if Bt v z then t ||| woP z.toNat v else t) 0

theorem prU_snoc (zs : List Int) (z : Int) (v : Nat) : prU (zs ++ [z]) v = if Bt v z then prU zs v ||| woP z.toNat v else prU zs v := by simp [prU]
theorem prU_bit {v w : Nat} (hv : v < 6) : ∀ (zs : List Int), (∀ z ∈ zs, z.toNat < 64) → prU zs v < 64 ∧ ((prU zs v).testBit w = (decide (w ≠ v) && zs.any fun z => Bt v z && Bt w z)) := by
  have H : ∀ r : List Int, ∀ zs, zs = r.reverse → (∀ z ∈ zs, z.toNat < 64) → prU zs v < 64 ∧ ((prU zs v).testBit w = (decide (w ≠ v) && zs.any fun z => Bt v z && Bt w z)) := by
    intro r
    induction r with
    | nil => rintro zs rfl _; simp [prU]
    | cons z r ih =>
      rintro zs rfl h
      rw [List.reverse_cons] at h ⊢
      obtain ⟨h1, h2⟩ := ih _ rfl (fun y hy => h y (by simp only [List.mem_append]; exact .inl hy))
      have hz := h z (by simp)
      rw [prU_snoc, List.any_append]
      cases hb : Bt v z
      · simp only [Bool.false_eq_true, if_false]
        refine ⟨h1, ?_⟩
        rw [h2]; simp [hb]
      · simp only [if_true]
        refine ⟨Nat.or_lt_two_pow (n := 6) h1 (Nat.lt_of_le_of_lt (wo_le _ _) hz), ?_⟩
        rw [Nat.testBit_or, h2, woP_bit hz hv]
        simp only [List.any_cons, List.any_nil, hb, Bool.true_and, Bool.or_false]
        show _ = _
        unfold Bt
        cases (z.toNat).testBit w <;> cases (decide (w ≠ v)) <;> simp
  exact fun zs h => H zs.reverse zs (by simp) h

set_option maxRecDepth 100000 in
set_option maxHeartbeats 4000000 in
theorem l6ePairs_any (m : Nat) (hm1 : 1 ≤ m) (hm : m ≤ 6) (a : Option Addr) (c : Nat) (zs : List Int) (w : World) (ha : Ints w w.heap.size a zs) (hx : zs.length ≤ 1048576) (hz : Sets m zs) :
    Calls Tryd.prog 33 #[.agg #[.int .i64 (m : Int), .slice a zs.length c]] w fun e w' => ∃ g, e = .returned (.slice (some ⟨g, 0, none⟩) m m) ∧ w.heap.size ≤ g ∧ Nums w' g 3 (rowL (prU zs) m) ∧ Below w.heap.size w w' := by
  obtain ⟨n, hn⟩ : ∃ n, n = zs.length := ⟨_, rfl⟩
  have HN := Lib.hid hn
  obtain ⟨W1, hW1, b0, hs1, hb1⟩ : ∃ W1, w.alloc (.cells #[.int .i64 (m : Int), .slice a zs.length c] 27) = W1 ∧ HasBlk W1 w.heap.size #[.int .i64 (m : Int), .slice a zs.length c] 27 ∧ W1.heap.size = w.heap.size + 1 ∧ Below w.heap.size w W1 := ⟨_, rfl, alloc_new w _, by simp, below1 w _⟩
  have hmk := run_makeP m (by omega) W1
  obtain ⟨W2, hW2, q1, hb2⟩ : ∃ W2, W1.alloc (.cells (Array.replicate m (.int .i64 0)) 3) = W2 ∧ Nums W2 W1.heap.size 3 (rowL (prU []) m) ∧ Below W1.heap.size W1 W2 :=
    ⟨_, rfl, by
      have := alloc_new W1 (.cells (Array.replicate m (.int .i64 0)) 3)
      have e : rowL (prU []) m = List.replicate m 0 := by
        apply List.ext_getElem <;> simp [rowL, prU]
      rw [e]
      unfold Nums HasBlk iv
      simpa using this, below1 W1 _⟩
  rw [hW2] at hmk
  have x0 := (blk_cell b0 0).trans (cell2_0 _ _)
  have hz64 : ∀ z ∈ zs, 0 ≤ z ∧ z.toNat < 64 := fun z h => ⟨(hz z h).1, p64 hm (hz z h).2⟩
  have HKEEP : Hid (∀ W, Below W1.heap.size W1 W → W.cell? ⟨w.heap.size, 0, none⟩ = some (.int .i64 (m : Int)) ∧ W.cell? ⟨w.heap.size, 1, none⟩ = some (.slice a zs.length c)) := Lib.hid fun W hW =>
    ⟨(hW.cell (p := ⟨w.heap.size, 0, none⟩) (show w.heap.size < W1.heap.size by omega)).trans ((blk_cell b0 0).trans (cell2_0 _ _)), (hW.cell (p := ⟨w.heap.size, 1, none⟩) (show w.heap.size < W1.heap.size by omega)).trans ((blk_cell b0 1).trans (cell2_1 _ _))⟩
  have HI1 : Hid (Ints W1 w.heap.size a zs) := Lib.hid (ha.below hb1)
  have HB1 := Lib.hid hb1
  have HS1 := Lib.hid hs1
  have HZ64 := Lib.hid hz64
  have H0 : Hid (Nums W2 W1.heap.size 3 (rowL (prU (zs.take 0)) m) ∧ Below W1.heap.size W1 W2) := Lib.hid ⟨by simpa using q1, hb2⟩
  have hm1I : (1 : Int) ≤ (m : Int) := by omega
  have hm6I : (m : Int) ≤ 6 := by omega
  rw [← hn] at HKEEP hW1 ⊢
  rw [← hn] at hx
  clear ha hz hz64 b0 hb1 hs1 q1 hb2 hW2 hn
  go_enter Tryd.func33, Tryd.ntmps33
  go_wp2
  clear hmk hW1 x0
  go_loopw [4, 5] (fun s4 _ wr => ∃ i : Nat, i ≤ n ∧ s4 = .int .i64 (i : Int) ∧ Hid (Nums wr W1.heap.size 3 (rowL (prU (zs.take i)) m) ∧ Below W1.heap.size W1 wr)) (fun s4 _ _ => n - (intOf s4).toNat)
  case atStart => exact ⟨0, Nat.zero_le _, rfl, H0⟩
  case round =>
    obtain ⟨i, hi, rfl, HS⟩ := hrel
    obtain ⟨wo, rfl⟩ : ∃ wo, wo = wr := ⟨wr, rfl⟩
    clear H0
    obtain ⟨x0, x1⟩ := HKEEP.out _ HS.out.2
    by_cases hlt : i < n
    · have hiI : (i : Int) < (n : Int) := by omega
      have hi0 : (0 : Int) ≤ (i : Int) := by omega
      obtain ⟨z, hzz⟩ : ∃ z, z = zs[i]?.getD 0 := ⟨_, rfl⟩
      have hzm : z ∈ zs := by rw [hzz]; exact at_in (by rw [← HN.out]; exact hlt)
      obtain ⟨hz0, hz64⟩ := HZ64.out z hzm
      have htk : zs.take (i + 1) = zs.take i ++ [z] := by
        rw [List.take_succ_eq_append_getElem (by rw [← HN.out]; exact hlt), hzz, List.getElem?_eq_getElem (by rw [← HN.out]; exact hlt), Option.getD_some]
      obtain ⟨L, hL⟩ : ∃ L, L = prU (zs.take i) := ⟨_, rfl⟩
      obtain ⟨L', hL'⟩ : ∃ L', L' = prU (zs.take (i + 1)) := ⟨_, rfl⟩
      have HL' := Lib.hid hL'
      have HST : Hid (∀ v, L' v = if Bt v z then L v ||| woP z.toNat v else L v) := Lib.hid fun v => by rw [hL', hL, htk]; exact prU_snoc _ _ _
      have HLT : Hid (∀ v, v < 6 → L v < 64) := Lib.hid fun v hv => by
        rw [hL]
        exact (prU_bit (w := 0) hv (zs.take i) (fun y hy => (HZ64.out y (List.mem_of_mem_take hy)).2)).1
      have HV0 : Hid (Nums wo W1.heap.size 3 (halfL L L' m 0) ∧ Below W1.heap.size W1 wo) := Lib.hid ⟨by rw [half_zero, hL]; exact HS.out.1, HS.out.2⟩
      have HZZ := Lib.hid hzz
      clear hL hL' hzz hzm htk
      go_wp2
      go_loopw [5] (fun s5 wv => ∃ v : Nat, v ≤ m ∧ s5 = .int .i64 (v : Int) ∧ Hid (Nums wv W1.heap.size 3 (halfL L L' m v) ∧ Below W1.heap.size W1 wv)) (fun s5 _ => m - (intOf s5).toNat)
      case atStart => exact ⟨0, Nat.zero_le _, rfl, HV0⟩
      case round =>
        obtain ⟨v, hv, rfl, HV⟩ := hrel
        clear HV0 x0 x1
        obtain ⟨x0, x1⟩ := HKEEP.out _ HV.out.2
        by_cases hvm : v < m
        · have hvI : (v : Int) < (m : Int) := by omega
          have hv0 : (0 : Int) ≤ (v : Int) := by omega
          obtain ⟨ba, oa, rfl, hba, hca⟩ := (HI1.out.below (HV.out.2.mono (by have := HS1.out; omega))).at_ (k := i) (by rw [← HN.out]; exact hlt)
          rw [← HZZ.out] at hca
          have hbt := bt_int hz0 hz64 (show v < 6 by omega)
          cases hb : Bt v z
          · rw [hb] at hbt
            simp only [Bool.false_eq_true, if_false] at hbt
            have HV2 : Hid (Nums wr W1.heap.size 3 (halfL L L' m (v + 1)) ∧ Below W1.heap.size W1 wr) := Lib.hid (by rw [half_keep (by rw [HST.out, hb]; rfl)]; exact HV.out)
            clear hb
            go_wp2
            go_roundw
            case rel => exact ⟨v + 1, by omega, by go_num, HV2⟩
            case measure => simp [intOf]; omega
          · rw [hb] at hbt
            simp only [if_true] at hbt
            obtain ⟨y, rfl⟩ : ∃ y : Nat, z = (y : Int) := ⟨z.toNat, by omega⟩
            rw [Int.toNat_natCast] at hz64
            have hLv := HLT.out v (by omega)
            have hE : L' v = L v ||| woP y v := by rw [HST.out, hb, Int.toNat_natCast]; rfl
            have hwo := wow_at y v hz64 (by omega)
            have hwl : woP y v < 64 := Nat.lt_of_le_of_lt (wo_le _ _) hz64
            have hor := or6_at (L v) (woP y v) hLv hwl
            rw [← hE] at hor
            have c1 := HV.out.1.cell v (by unfold halfL; rw [rowL_len]; exact hvm)
            rw [half_at hvm] at c1
            have f1 := HV.out.1.frozen v
            obtain ⟨u, hu⟩ : ∃ u, u = woP y v := ⟨_, rfl⟩
            obtain ⟨p, hp⟩ : ∃ p, p = L v := ⟨_, rfl⟩
            obtain ⟨p', hp'⟩ : ∃ p', p' = L' v := ⟨_, rfl⟩
            rw [← hu] at hwo hor
            rw [← hp] at hor c1
            rw [← hp'] at hor
            have hp2 := p2_small v (by omega)
            have HR : Hid (Nums (wr.drew.setCell ⟨W1.heap.size, v, none⟩ (.int .i64 (p' : Int))) W1.heap.size 3 (halfL L L' m (v + 1)) ∧ Below W1.heap.size W1 (wr.drew.setCell ⟨W1.heap.size, v, none⟩ (.int .i64 (p' : Int)))) := Lib.hid ⟨by rw [half_set, hp']; exact Nums.set (W := wr.drew) HV.out.1 v _, (HV.out.2.drew).setCell (p := ⟨W1.heap.size, v, none⟩) (Nat.le_refl _) _⟩
            clear hb hE hu hp hp' hLv hwl
            go_wp2
            go_still_tail 16, (by kernel_rfl)
            repeat still_step
            try rw [hwo]
            repeat still_step
            try rw [hor]
            repeat still_step
            try refine wpStill_nil ?_
            change wpList _ _ _ _ _ wr.drew
            go_wp2
            go_roundw
            case rel => exact ⟨v + 1, by omega, by go_num, HR⟩
            case measure => simp [intOf]; omega
        · obtain rfl : v = m := by omega
          have HR : Hid (Nums wr W1.heap.size 3 (rowL (prU (zs.take (i + 1))) v) ∧ Below W1.heap.size W1 wr) := Lib.hid (by have := HV.out; rw [half_all, HL'.out] at this; exact this)
          go_wp2
          go_roundw
          case rel => exact ⟨i + 1, by omega, by go_num, HR⟩
          case measure => simp [intOf]; omega
    · obtain rfl : i = n := by omega
      have HR : Hid (Nums wo W1.heap.size 3 (rowL (prU zs) m) ∧ Below w.heap.size w wo) := Lib.hid ⟨by have := HS.out.1; rwa [HN.out, List.take_length] at this, HB1.out.trans (HS.out.2.mono (by have := HS1.out; omega))⟩
      go_wp2
      go_ret
      exact ⟨W1.heap.size, rfl, by have := HS1.out; omega, HR.out⟩

end Go.Proofs.YtfhhfilkabjhaaaDoor

/- It is proved what the reference model's ColourProper returns; conditions: those of each statement. -/
namespace Go.Proofs.YtfhhfilkabjhaaaDoor
open Go.RowKit

/-- The model's question, up to a member, and up to a pair. -/
def proW (zs cs : List Int) (v w : Nat) : Bool := (List.range w).all fun w => !pairB zs v w || (cs[v]?.getD 0 != cs[w]?.getD 0)

def proV (zs cs : List Int) (v : Nat) : Bool := (List.range v).all fun v => proW zs cs v v
theorem proW_succ (zs cs : List Int) (v w : Nat) : proW zs cs v (w + 1) = (proW zs cs v w && (!pairB zs v w || (cs[v]?.getD 0 != cs[w]?.getD 0))) := by simp [proW, List.range_succ, List.all_append]
theorem proV_succ (zs cs : List Int) (v : Nat) : proV zs cs (v + 1) = (proV zs cs v && proW zs cs v v) := by simp [proV, List.range_succ, List.all_append]
def properTo (m : Nat) (zs : List Int) (k j : Nat) : Nat := (List.range j).countP fun c => proB zs (digs k m c)
theorem properTo_succ (m : Nat) (zs : List Int) (k j : Nat) : properTo m zs k (j + 1) = properTo m zs k j + if proB zs (digs k m j) then 1 else 0 := by
  unfold properTo
  rw [List.range_succ, List.countP_append]
  cases h : proB zs (digs k m j) <;> simp [h]

theorem properTo_all (m : Nat) (zs : List Int) (k : Nat) : properTo m zs k (k ^ m) = cntCP m zs k := by
  unfold properTo cntCP
  rw [← digs_words, List.countP_map]
  rfl

theorem properTo_le (m : Nat) (zs : List Int) (k j : Nat) : properTo m zs k j ≤ j := by
  unfold properTo
  exact Nat.le_trans List.countP_le_length (by simp)

set_option maxRecDepth 100000 in
theorem tb_fin : ∀ s : Fin 64, ∀ v : Fin 6, bits .and .i64 ((s.val : Int) / 2 ^ v.val) 1 = if s.val.testBit v.val then 1 else 0 := by decide +kernel

theorem pr_bit {zs : List Int} (hz : ∀ z ∈ zs, 0 ≤ z ∧ z.toNat < 64) {v w : Nat} (hv : v < 6) (hw : w < 6) : bits .and .i64 (((prU zs v : Nat) : Int) / 2 ^ w) 1 = if pairB zs v w then 1 else 0 := by
  obtain ⟨h1, h2⟩ := prU_bit (w := w) hv zs (fun z h => (hz z h).2)
  have := tb_fin ⟨prU zs v, h1⟩ ⟨w, hw⟩
  dsimp only at this
  rw [this, h2]
  have e : (decide (w ≠ v) && zs.any fun z => Bt v z && Bt w z) = pairB zs v w := by
    unfold pairB
    congr 1
    simp only [decide_eq_decide]
    exact ⟨fun h e => h e.symm, fun h e => h e.symm⟩
  rw [e]

set_option maxRecDepth 100000 in
set_option maxHeartbeats 8000000 in
theorem specColourProper_any (m k : Int) (a : Option Addr) (c : Nat) (zs : List Int) (w : World) (ha : Ints w w.heap.size a zs) (hx : zs.length ≤ 1048576) :
    Calls Tryd.prog 29 #[.agg #[.int .i64 m, .slice a zs.length c], .int .i64 k] w (RetIB w (outCP m zs k) (okCP m zs k)) := by
  have HB0 := Lib.hid (below1 w (.cells #[.int .i64 m, .slice a zs.length c] 27))
  have HA := Lib.hid (ha.below HB0.out)
  clear ha
  cases hf : famIn m zs
  · have HF := Lib.hid hf
    have HZ : Hid (outCP m zs k = 0) := Lib.hid (by unfold outCP; rw [hf]; rfl)
    have HO : Hid (okCP m zs k = false) := Lib.hid (by unfold okCP; rw [hf]; rfl)
    clear hf
    go_enter Tryd.func29, Tryd.ntmps29
    go_wp2_with fail
    refine (specFamilyIn_any _ _ _ zs _ (HA.out.mono (by simp)) hx).mono ?_
    rintro e w1 ⟨rfl, hb⟩
    rw [HF.out]
    have HB := Lib.hid (HB0.out.trans (hb.mono (by simp)))
    clear hb
    go_wp2
    go_ret2
    exact ⟨by rw [HZ.out, HO.out]; rfl, HB.out⟩
  · cases hc : colIn k 0
    · have HF := Lib.hid hf
      have HC : Hid (inB k 0 4 = false) := Lib.hid (by rw [in_col]; exact hc)
      have HZ : Hid (outCP m zs k = 0) := Lib.hid (by unfold outCP; rw [hf, hc]; rfl)
      have HO : Hid (okCP m zs k = false) := Lib.hid (by unfold okCP; rw [hf, hc]; rfl)
      clear hf hc
      go_enter Tryd.func29, Tryd.ntmps29
      go_wp2_with fail
      refine (specFamilyIn_any _ _ _ zs _ (HA.out.mono (by simp)) hx).mono ?_
      rintro e w1 ⟨rfl, hb⟩
      rw [HF.out]
      have HB := Lib.hid (HB0.out.trans (hb.mono (by simp)))
      clear hb
      go_wp2_with fail
      refine (l6In_any _ _ _ _).mono ?_
      rintro e w2 ⟨rfl, rfl⟩
      rw [HC.out]
      go_wp2
      go_ret2
      exact ⟨by rw [HZ.out, HO.out]; rfl, HB.out⟩
    · have HF := Lib.hid hf
      have HC : Hid (inB k 0 4 = true) := Lib.hid (by rw [in_col]; exact hc)
      obtain ⟨k, rfl, hk4, -⟩ := colIn_nat (Int.le_refl 0) hc
      obtain ⟨m, rfl, hm1, hm6, hset, hl8⟩ := fam_nat2 hf
      have HZ : Hid (outCP (m : Int) zs (k : Int) = ((cntCP m zs k : Nat) : Int)) := Lib.hid (by unfold outCP; rw [hf, hc]; rfl)
      have HO : Hid (okCP (m : Int) zs (k : Int) = true) := Lib.hid (by unfold okCP; rw [hf, hc]; rfl)
      have hP := pow_le6 (show k ≤ 6 by omega) hm6
      obtain ⟨P, hPP⟩ : ∃ P, P = k ^ m := ⟨_, rfl⟩
      have HP : Hid (∀ W, Calls Tryd.prog 53 #[.int .i64 (k : Int), .int .i64 (m : Int)] W fun e w' => e = .returned (.int .i64 (P : Int)) ∧ W = w') := Lib.hid fun W => by rw [hPP]; exact l7Power_any k m (by omega) hm6 W
      have HPP := Lib.hid hPP
      rw [← hPP] at hP
      have hz64 : ∀ z ∈ zs, 0 ≤ z ∧ z.toNat < 64 := fun z h => ⟨(hset z h).1, p64 hm6 (hset z h).2⟩
      have HPR : Hid (∀ W, Ints W W.heap.size a zs → Calls Tryd.prog 33 #[.agg #[.int .i64 (m : Int), .slice a zs.length c]] W fun e w' => ∃ g, e = .returned (.slice (some ⟨g, 0, none⟩) m m) ∧ W.heap.size ≤ g ∧ Nums w' g 3 (rowL (prU zs) m) ∧ Below W.heap.size W w') := Lib.hid fun W h => l6ePairs_any m hm1 hm6 a c zs W h hx hset
      have HPB : Hid (∀ cs : List Int, cs.length = m → proV zs cs m = proB zs cs) := Lib.hid fun cs h => by
        have := proM_is (zs := zs) (c := cs) (by omega) (by rw [h]; exact hset)
        rw [← this]
        unfold proM
        rw [h]
        rfl
      have HZ64 := Lib.hid hz64
      have hPI : (P : Int) ≤ 46656 := by omega
      clear hf hc hset hz64 hPP
      go_enter Tryd.func29, Tryd.ntmps29
      go_wp2_with fail
      refine (specFamilyIn_any _ _ _ zs _ (HA.out.mono (by simp)) hx).mono ?_
      rintro e w1 ⟨rfl, hb⟩
      rw [HF.out]
      have b0 : HasBlk w1 w.heap.size #[.int .i64 (m : Int), .slice a zs.length c] 27 := (hb.block _ (by simp)).trans (alloc_new w _)
      have hz1 : w.heap.size < w1.heap.size := lt_of_some b0
      have x0 := (blk_cell b0 0).trans (cell2_0 _ _)
      have x1 := (blk_cell b0 1).trans (cell2_1 _ _)
      have HB := Lib.hid (HB0.out.trans (hb.mono (by simp)))
      have HI1 := Lib.hid ((HA.out.below (hb.mono (by simp))).mono (show w.heap.size ≤ w1.heap.size by omega))
      have B0 := Lib.hid b0
      clear hb b0
      go_wp2_with fail
      refine (l6In_any _ _ _ _).mono ?_
      rintro e w2 ⟨rfl, rfl⟩
      rw [HC.out]
      go_wp2_with fail
      refine (HPR.out _ HI1.out).mono ?_
      rintro e w2 ⟨g, rfl, hg, hng, hb2⟩
      have hgl := hng.lt
      have HG : Hid (∀ W, Below w2.heap.size w2 W → W.cell? ⟨w.heap.size, 0, none⟩ = some (.int .i64 (m : Int)) ∧ ∀ v, v < m → W.cell? ⟨g, v, none⟩ = some (.int .i64 ((prU zs v : Nat) : Int))) := Lib.hid fun W hW =>
        ⟨(hW.cell (p := ⟨w.heap.size, 0, none⟩) (show w.heap.size < w2.heap.size by have := hb2.size; omega)).trans ((hb2.cell (p := ⟨w.heap.size, 0, none⟩) hz1).trans ((blk_cell B0.out 0).trans (cell2_0 _ _))), fun v hv => by
          have := (hW.cell (p := ⟨g, v, none⟩) hgl).trans (hng.cell v (by rw [rowL_len]; exact hv))
          rwa [rowL_at hv] at this⟩
      have HB2 : Hid (Below w.heap.size w w2) := Lib.hid (HB.out.trans (hb2.mono HB.out.size))
      have HR0 : Hid (Below w2.heap.size w2 w2) := Lib.hid (Below.refl _ _)
      clear hng hb2 hg hgl x0 x1
      go_wp2
      go_loopw [7, 8, 9, 10, 11, 12] (fun s7 s8 _ _ _ _ wr => ∃ j : Nat, j ≤ P ∧ s8 = .int .i64 (j : Int) ∧ s7 = .int .i64 ((properTo m zs k j : Nat) : Int) ∧ Hid (Below w2.heap.size w2 wr)) (fun _ s8 _ _ _ _ _ => P - (intOf s8).toNat)
      case atStart => exact ⟨0, Nat.zero_le _, rfl, rfl, HR0⟩
      case round =>
        obtain ⟨j, hj, rfl, rfl, HS⟩ := hrel
        clear HR0
        obtain ⟨x0, xg⟩ := HG.out _ HS.out
        have hMl := properTo_le m zs k j
        obtain ⟨M, hM⟩ : ∃ M, M = properTo m zs k j := ⟨_, rfl⟩
        have HM := Lib.hid hM
        rw [← hM] at hMl ⊢
        clear hM xg
        have hjI : (j : Int) ≤ 46656 := by omega
        have hj0 : (0 : Int) ≤ (j : Int) := by omega
        have hMI : (M : Int) ≤ 46656 := by omega
        have hM0 : (0 : Int) ≤ (M : Int) := by omega
        by_cases hlt : j < P
        · have hjP : (j : Int) < (P : Int) := by omega
          have hk1 : 1 ≤ k := kpos hm1 (by rw [← HPP.out]; exact hlt)
          have HCO := Lib.hid (l7Colours_any m k j hm1 hm6 hk1 (by omega) (by omega) wr)
          obtain ⟨cs, hcs⟩ : ∃ cs, cs = digs k m j := ⟨_, rfl⟩
          have HCL : Hid (cs.length = m) := Lib.hid (by rw [hcs]; exact digs_len k m j)
          have HSU := Lib.hid (properTo_succ m zs k j)
          rw [← hcs] at HCO HSU
          clear hcs
          go_wp2_with fail
          refine (HP.out _).mono ?_
          rintro e w3 ⟨rfl, rfl⟩
          go_wp2_with fail
          refine HCO.out.mono ?_
          rintro e w4 ⟨rfl, hn4, hb4⟩
          have hb24 : Below w2.heap.size w2 w4 := HS.out.trans (hb4.mono HS.out.size)
          obtain ⟨y0, -⟩ := HG.out _ hb24
          have HN4 := Lib.hid hn4
          have HB24 := Lib.hid hb24
          have HV0 : Hid (Below w4.heap.size w4 w4) := Lib.hid (Below.refl _ _)
          clear hn4 hb4 hb24 x0 HCO
          go_wp2
          go_loopw [10, 11, 12] (fun s10 s11 _ wv => ∃ v : Nat, v ≤ m ∧ s11 = .int .i64 (v : Int) ∧ s10 = .bool (proV zs cs v) ∧ Hid (Below w4.heap.size w4 wv)) (fun _ s11 _ _ => m - (intOf s11).toNat)
          case atStart => exact ⟨0, Nat.zero_le _, rfl, by simp [proV], HV0⟩
          case round =>
            obtain ⟨v, hv, rfl, rfl, HV⟩ := hrel
            obtain ⟨wv, rfl⟩ : ∃ wv, wv = wr := ⟨wr, rfl⟩
            clear HV0 y0
            obtain ⟨y0, yg⟩ := HG.out _ (HB24.out.trans (HV.out.mono HB24.out.size))
            by_cases hvm : v < m
            · have hvI : (v : Int) < (m : Int) := by omega
              have hv0 : (0 : Int) ≤ (v : Int) := by omega
              have HW0 : Hid (proV zs cs v = (proV zs cs v && proW zs cs v 0)) := Lib.hid (by simp [proW])
              clear yg
              go_wp2
              go_loopw [10, 12] (fun s10 s12 ww => ∃ u : Nat, u ≤ v ∧ s12 = .int .i64 (u : Int) ∧ s10 = .bool (proV zs cs v && proW zs cs v u) ∧ Hid (Below w4.heap.size w4 ww)) (fun _ s12 _ => v - (intOf s12).toNat)
              case atStart => exact ⟨0, Nat.zero_le _, rfl, by rw [← HW0.out], HV⟩
              case round =>
                obtain ⟨u, hu, rfl, rfl, HU⟩ := hrel
                clear HW0 y0
                by_cases huv : u < v
                · have huI : (u : Int) < (v : Int) := by omega
                  have hu0 : (0 : Int) ≤ (u : Int) := by omega
                  have hu6 : (u : Int) < 64 := by omega
                  obtain ⟨y0, yg⟩ := HG.out _ (HB24.out.trans (HU.out.mono HB24.out.size))
                  have cp := yg v hvm
                  have hnr : Nums wr _ 3 cs := (HU.out.block _ HN4.out.lt).trans HN4.out
                  have cv := hnr.cell v (by rw [HCL.out]; exact hvm)
                  have cu := hnr.cell u (by rw [HCL.out]; omega)
                  have hbt := pr_bit HZ64.out (show v < 6 by omega) (show u < 6 by omega)
                  have hpl := (prU_bit (w := u) (show v < 6 by omega) zs (fun z h => (HZ64.out z h).2)).1
                  obtain ⟨p, hp⟩ : ∃ p, p = prU zs v := ⟨_, rfl⟩
                  rw [← hp] at cp hbt hpl
                  obtain ⟨x, hx1⟩ : ∃ x, x = cs[v]?.getD 0 := ⟨_, rfl⟩
                  obtain ⟨y, hy1⟩ : ∃ y, y = cs[u]?.getD 0 := ⟨_, rfl⟩
                  rw [← hx1] at cv
                  rw [← hy1] at cu
                  have HX := Lib.hid hx1
                  have HY := Lib.hid hy1
                  have HSW := Lib.hid (proW_succ zs cs v u)
                  obtain ⟨Q, hQ⟩ : ∃ Q, Q = (proV zs cs v && proW zs cs v u) := ⟨_, rfl⟩
                  have HQ : Hid ((proV zs cs v && proW zs cs v (u + 1)) = (Q && (!pairB zs v u || (x != y)))) := Lib.hid (by rw [HSW.out, hQ, HX.out, HY.out, Bool.and_assoc])
                  rw [← hQ]
                  have hp63 : (p : Int) < 64 := by omega
                  have hp0 : (0 : Int) ≤ (p : Int) := by omega
                  clear hx1 hy1 hQ hp hnr yg HSW
                  cases Q
                  · have HE : Hid (false = (proV zs cs v && proW zs cs v (u + 1))) := Lib.hid (by rw [HQ.out]; simp)
                    clear hbt
                    go_wp2
                    go_quiet (fail)
                    go_wp2
                    go_roundw
                    case rel => exact ⟨u + 1, by omega, by go_num, by rw [← HE.out], Lib.hid (below_drewN HU.out _)⟩
                    case measure => simp [intOf]; omega
                  · cases hpb : pairB zs v u
                    · have HE : Hid (true = (proV zs cs v && proW zs cs v (u + 1))) := Lib.hid (by rw [HQ.out, hpb]; simp)
                      rw [hpb] at hbt
                      simp only [Bool.false_eq_true, if_false] at hbt
                      clear hpb
                      go_wp2
                      go_quiet (fail)
                      go_wp2
                      go_roundw
                      case rel => exact ⟨u + 1, by omega, by go_num, by rw [← HE.out], Lib.hid (below_drewN HU.out _)⟩
                      case measure => simp [intOf]; omega
                    · rw [hpb] at hbt
                      simp only [if_true] at hbt
                      by_cases hxy : x = y
                      · have HE : Hid (false = (proV zs cs v && proW zs cs v (u + 1))) := Lib.hid (by rw [HQ.out, hpb, hxy]; simp)
                        subst hxy
                        clear hpb
                        go_wp2
                        go_quiet (fail)
                        go_wp2
                        go_roundw
                        case rel => exact ⟨u + 1, by omega, by go_num, by rw [← HE.out], Lib.hid (below_drewN HU.out _)⟩
                        case measure => simp [intOf]; omega
                      · have HE : Hid (true = (proV zs cs v && proW zs cs v (u + 1))) := Lib.hid (by rw [HQ.out, hpb]; simp [hxy])
                        clear hpb
                        go_wp2
                        go_quiet (fail)
                        go_wp2
                        go_roundw
                        case rel => exact ⟨u + 1, by omega, by go_num, by rw [← HE.out]; simp [hxy], Lib.hid (below_drewN HU.out _)⟩
                        case measure => simp [intOf]; omega
                · obtain rfl : u = v := by omega
                  have HE : Hid ((proV zs cs u && proW zs cs u u) = proV zs cs (u + 1)) := Lib.hid (proV_succ zs cs u).symm
                  rw [HE.out]
                  go_wp2
                  go_roundw
                  case rel => exact ⟨u + 1, by omega, by go_num, rfl, HU⟩
                  case measure => simp [intOf]; omega
            · obtain rfl : v = m := by omega
              have HE := HPB.out cs HCL.out
              rw [HE]
              have HBW : Hid (Below w2.heap.size w2 wv) := Lib.hid (HB24.out.trans (HV.out.mono HB24.out.size))
              clear HE yg
              cases hpr : proB zs cs
              · have HEE : Hid (properTo v zs k (j + 1) = M) := Lib.hid (by have HE := HSU.out; rw [hpr, ← HM.out] at HE; simpa using HE)
                clear hpr
                go_wp2
                go_roundw
                case rel => exact ⟨j + 1, by omega, by go_num, by rw [HEE.out], HBW⟩
                case measure => simp [intOf]; omega
              · have HEE : Hid (properTo v zs k (j + 1) = M + 1) := Lib.hid (by have HE := HSU.out; rw [hpr, ← HM.out] at HE; simpa using HE)
                clear hpr
                go_wp2
                go_roundw
                case rel => exact ⟨j + 1, by omega, by go_num, by rw [HEE.out]; go_num, HBW⟩
                case measure => simp [intOf]; omega
        · obtain rfl : j = P := by omega
          have HE : Hid (M = cntCP m zs k) := Lib.hid (by rw [HM.out, HPP.out, properTo_all])
          have HR : Hid (Below w.heap.size w wr) := Lib.hid (HB2.out.trans (HS.out.mono HB2.out.size))
          go_wp2_with fail
          refine (HP.out _).mono ?_
          rintro e w3 ⟨rfl, rfl⟩
          go_wp2
          go_ret2
          exact ⟨by rw [HZ.out, HO.out, ← HE.out]; rfl, HR.out⟩

end Go.Proofs.YtfhhfilkabjhaaaDoor
