/- It is proved what l6eFree and l6eOrder return; conditions: those of each statement. -/
import Derived.RowKit
import Derived.Laws.CopyRow
import Derived.Lib.SlBuf
import Derived.Deep.QuietTactic
import Derived.RangeFuncNested
import Derived.RangeFuncBound
import Derived.RangeFuncCalls
import Derived.RangeFuncLeaves
import Derived.RangeFuncBox
import Derived.RangeFuncWrites
import Derived.StillTailTactics
import Derived.Maps.OwnIn
import Derived.Maps.Ext
import Derived.DeepKeys4
import Derived.MapKept
import Derived.Test.YtnpfdgbbcapnkaaDoorRows
import Derived.WalkKit
import Derived.WalkSpells
import Derived.ProofKit
import Derived.OpenShut
import Derived.ShutString
import Derived.ChangeOld
import Derived.Below
import Derived.Deep.RegionHeld3
import Derived.BigQuiet
import Derived.Lib.Hide
import Derived.Lib.SmallJoins
import Derived.Outline
import Derived.Laws.MakeOwn
import Derived.Laws.OwnMore
import Derived.IntWalk
import Derived.Lib.AppendZeros
import Derived.Maps.AppendAt
import Derived.Deep.AppendLies
import Derived.OwnWalk
import Derived.Lib.SlicesCompact
import Derived.Lib.OwnBridge
import Derived.OrdersIn
import Derived.TacticsIn
import Derived.Shelf.Sort.Plain
import Derived.Shelf.Slices.In.SortNone
import Derived.Shelf.Slices.CompactI
import Derived.Ground.Names2Prog
import Derived.Lib.SliceRun
import Derived.Shelf.Abstract
import Derived.Shelf.RegionOpen
import Derived.OwnWalkIn
import Derived.TacticsInMore
import Derived.LoopNIn
import Derived.LoopIn
import Derived.StillTail
import Derived.StillTactics
import Derived.Shelf.Spec.TrailingZeros
import Derived.Deep.LoopGhost
import Derived.Test.YtnpfdgbbcapnkaaDoorRbaa
import Derived.Test.YtnpfdgbbcapnkaaDoorRbab
import Derived.Test.YtnpfdgbbcapnkaaDoorRbaf
import Derived.Test.YtnpfdgbbcapnkaaDoorRbah
import Derived.Test.YtnpfdgbbcapnkaaDoorRbam
import Derived.Test.YtnpfdgbbcapnkaaDoorYf
import Derived.Test.YtnpfdgbbcapnkaaDoorRbal
import Derived.Test.YtnpfdgbbcapnkaaDoorRbae
import Derived.Test.YtnpfdgbbcapnkaaDoorRbai
namespace Go.Proofs.YtnpfdgbbcapnkaaDoor
open Go.RowKit

theorem arN_take {v : Nat} {zs : List Int} {i : Nat} (h : i < zs.length) : arN v (zs.take (i + 1)) = if Bt v (zs[i]?.getD 0) = true then arN v (zs.take i) ||| (zs[i]?.getD 0 : Int).toNat else arN v (zs.take i) := by
  rw [List.take_succ_eq_append_getElem h, arN_snoc, List.getElem?_eq_getElem h, Option.getD_some]

def inL (n : Int) (zs : List Int) : Bool := zs.any fun z => decide (z = n)
theorem inL_take {n : Int} {zs : List Int} {i : Nat} (h : i < zs.length) : inL n (zs.take (i + 1)) = (inL n (zs.take i) || decide ((zs[i]?.getD 0) = n)) := by
  unfold inL
  rw [List.take_succ_eq_append_getElem h, List.any_append, List.getElem?_eq_getElem h, Option.getD_some]
  simp

set_option maxRecDepth 100000 in
theorem or7_fin : ∀ x : Fin 64, ∀ y : Fin 64, bits .or .i64 (x.val : Int) (y.val : Int) = ((x.val ||| y.val : Nat) : Int) := by decide +kernel

theorem or_at6 {x y : Nat} (hx : x < 64) (hy : y < 64) : bits .or .i64 (x : Int) (y : Int) = ((x ||| y : Nat) : Int) := or7_fin ⟨x, hx⟩ ⟨y, hy⟩
theorem take_sets {m : Nat} {zs : List Int} (h : Sets m zs) (i : Nat) : Sets m (zs.take i) := fun z hz => h z (List.mem_of_mem_take hz)
set_option maxRecDepth 100000 in
set_option maxHeartbeats 4000000 in
theorem l6eFree_any (k : Nat) (hk6 : k ≤ 6) (v : Nat) (hv6 : v < 6) (a : Option Addr) (c : Nat) (zs : List Int) (w : World) (ha : Ints w w.heap.size a zs) (h8 : zs.length ≤ 8) (hz : Sets k zs) :
    Calls Tryd.prog 96 #[.slice a zs.length c, .int .i64 (v : Int)] w fun e w' => e = .returned (.bool (leavB v zs)) ∧ w = w' := by
  have HS := Lib.hid hz
  have HI := Lib.hid ha
  have HAL : Hid (∀ i, arN v (zs.take i) < 64) := Lib.hid fun i => p64 hk6 (arN_lt (take_sets hz i))
  obtain ⟨n, hn⟩ : ∃ n, n = zs.length := ⟨_, rfl⟩
  have HN := Lib.hid hn
  obtain ⟨R, hR⟩ : ∃ R, R = leavB v zs := ⟨_, rfl⟩
  have HR := Lib.hid hR
  rw [← hn] at h8 ⊢
  rw [← hR]
  clear ha hz hn hR
  have hv0 : (0 : Int) ≤ (v : Int) := by omega
  go_enter Tryd.func96, Tryd.ntmps96
  go_wp2
  go_loop [5, 7] (fun s i => ∃ j : Nat, j ≤ n ∧ i = .int .i64 (j : Int) ∧ s = .int .i64 ((arN v (zs.take j) : Nat) : Int)) (fun _ i => n - (intOf i).toNat)
  case atStart => exact ⟨0, Nat.zero_le _, rfl, by simp [arN]⟩
  case round =>
    obtain ⟨j, hj, rfl, rfl⟩ := hrel
    by_cases hlt : j < n
    · have hji : (j : Int) < (n : Int) := by omega
      have hj0 : (0 : Int) ≤ (j : Int) := by omega
      obtain ⟨b, off, rfl, hbb, hcc⟩ := HI.out.at_ (k := j) (by rw [← HN.out]; exact hlt)
      have HAT := Lib.hid (arN_take (v := v) (zs := zs) (i := j) (by rw [← HN.out]; exact hlt))
      obtain ⟨z, hz⟩ : ∃ z, z = zs[j]?.getD 0 := ⟨_, rfl⟩
      have hzm : z ∈ zs := by rw [hz]; exact at_in (by rw [← HN.out]; exact hlt)
      have hz0 : 0 ≤ z := (HS.out z hzm).1
      have hz64 : z.toNat < 64 := p64 hk6 (HS.out z hzm).2
      have hbt := bt_int hz0 hz64 hv6
      have hz63 : z ≤ 63 := by omega
      rw [← hz] at hcc HAT
      have hA64 := HAL.out j
      obtain ⟨A, hA⟩ : ∃ A, A = arN v (zs.take j) := ⟨_, rfl⟩
      rw [← hA] at HAT hA64 ⊢
      have hor : bits .or .i64 (A : Int) z = ((A ||| z.toNat : Nat) : Int) := by
        have := or_at6 hA64 hz64
        rwa [Int.toNat_of_nonneg hz0] at this
      clear hz hzm hA
      cases hb : Bt v z
      · rw [hb] at hbt HAT
        simp only [Bool.false_eq_true, if_false] at hbt HAT
        clear hb hor
        go_wp2
        go_round
        case rel => exact ⟨j + 1, by omega, by go_num, by rw [HAT.out]⟩
        case measure => simp [intOf]; omega
      · rw [hb] at hbt HAT
        simp only [if_true] at hbt HAT
        clear hb
        go_wp2
        go_round
        case rel => exact ⟨j + 1, by omega, by go_num, by rw [HAT.out]⟩
        case measure => simp [intOf]; omega
    · obtain rfl : j = n := by omega
      have hfull : zs.take j = zs := List.take_of_length_le (by rw [← HN.out]; exact Nat.le_refl _)
      rw [hfull]
      obtain ⟨A, hA⟩ : ∃ A, A = arN v zs := ⟨_, rfl⟩
      have HRA : Hid (R = (decide (A = 0) || inL (A : Int) zs)) := Lib.hid (by rw [HR.out, hA]; rfl)
      rw [← hA]
      clear hfull hA
      go_wp2
      go_loop [6, 8] (fun s i => ∃ q : Nat, q ≤ j ∧ i = .int .i64 (q : Int) ∧ s = .bool (inL (A : Int) (zs.take q))) (fun _ i => j - (intOf i).toNat)
      case atStart => exact ⟨0, Nat.zero_le _, rfl, by simp [inL]⟩
      case round =>
        obtain ⟨q, hq, rfl, rfl⟩ := hrel
        by_cases hlt2 : q < j
        · have hqi : (q : Int) < (j : Int) := by omega
          have hq0 : (0 : Int) ≤ (q : Int) := by omega
          obtain ⟨b, off, rfl, hbb, hcc⟩ := HI.out.at_ (k := q) (by rw [← HN.out]; exact hlt2)
          have HIT := Lib.hid (inL_take (n := (A : Int)) (zs := zs) (i := q) (by rw [← HN.out]; exact hlt2))
          obtain ⟨z, hz⟩ : ∃ z, z = zs[q]?.getD 0 := ⟨_, rfl⟩
          rw [← hz] at hcc HIT
          obtain ⟨D, hD⟩ : ∃ D, D = inL (A : Int) (zs.take q) := ⟨_, rfl⟩
          rw [← hD] at HIT ⊢
          have hd : (z == (A : Int)) = decide (z = (A : Int)) := by
            by_cases e : z = (A : Int)
            · rw [decide_eq_true e, beq_iff_eq]; exact e
            · rw [decide_eq_false e, beq_eq_false_iff_ne]; exact e
          clear hz hD
          cases D
          · go_wp2
            go_round
            case rel => exact ⟨q + 1, by omega, by go_num, by rw [HIT.out]; simp⟩
            case measure => simp [intOf]; omega
          · go_wp2
            go_round
            case rel => exact ⟨q + 1, by omega, by go_num, by rw [HIT.out]; simp⟩
            case measure => simp [intOf]; omega
        · obtain rfl : q = j := by omega
          have hfull : zs.take q = zs := List.take_of_length_le (by rw [← HN.out]; exact Nat.le_refl _)
          rw [hfull]
          obtain ⟨D, hD⟩ : ∃ D, D = inL (A : Int) zs := ⟨_, rfl⟩
          rw [← hD] at HRA ⊢
          clear hfull hD
          by_cases h0 : A = 0
          · subst h0
            go_wp2
            go_ret
            exact ⟨by rw [HRA.out]; simp, rfl⟩
          · have hb1 : ((A : Int) == 0) = false := by rw [beq_eq_false_iff_ne]; omega
            have hb2 : (A == 0) = false := by rw [beq_eq_false_iff_ne]; exact h0
            have HRD : Hid (R = D) := Lib.hid (by rw [HRA.out, decide_eq_false h0, Bool.false_or])
            clear h0
            go_wp2
            go_ret
            exact ⟨by rw [HRD.out]; rfl, rfl⟩

end Go.Proofs.YtnpfdgbbcapnkaaDoor

/- It is proved what around returns; conditions: those of each statement. -/
namespace Go.Proofs.YtnpfdgbbcapnkaaDoor
open Go.RowKit Go.Shelf

attribute [local go_sem] Oper.semAt_some

set_option maxRecDepth 100000 in
set_option maxHeartbeats 4000000 in
theorem around_any (k : Nat) (hk6 : k ≤ 6) (a : Option Addr) (c : Nat) (zs : List Int) (t : Nat) (ht : t < 6) (w : World) (ha : Ints w w.heap.size a zs) (h8 : zs.length ≤ 8) (hz : Sets k zs) :
    Calls Tryd.prog 92 #[.agg #[.int .i64 (k : Int), .slice a zs.length c], .int .i64 (t : Int)] w fun e w' => e = .returned (.int .i64 ((arN t zs : Nat) : Int)) ∧ Below w.heap.size w w' := by
  have h16 : 1 ≤ 6 := by omega
  obtain ⟨W2, hW2, q0, q1, hs2, hb2⟩ : ∃ W2, (w.alloc (.cells #[.int .i64 (k : Int), .slice a zs.length c] 25)).alloc (.cells #[.int .i64 (t : Int)] 3) = W2 ∧ HasBlk W2 w.heap.size #[.int .i64 (k : Int), .slice a zs.length c] 25 ∧ HasBlk W2 (w.heap.size + 1) #[.int .i64 (t : Int)] 3 ∧ W2.heap.size = w.heap.size + 1 + 1 ∧ Below w.heap.size w W2 :=
    ⟨_, rfl, alloc2_0 w _ _, alloc2_1 w _ _, by simp, below2 w _ _⟩
  obtain ⟨W3, hW3, p0, p1, p2, hs3, hb3⟩ : ∃ W3, W2.alloc (.cells #[.int .i64 0] 45) = W3 ∧ HasBlk W3 w.heap.size #[.int .i64 (k : Int), .slice a zs.length c] 25 ∧ HasBlk W3 (w.heap.size + 1) #[.int .i64 (t : Int)] 3 ∧ HasBlk W3 W2.heap.size #[.int .i64 0] 45 ∧ W3.heap.size = W2.heap.size + 1 ∧ Below W2.heap.size W2 W3 :=
    ⟨_, rfl, HasBlk.alloc q0 _, HasBlk.alloc q1 _, alloc_new W2 _, by simp, below1 W2 _⟩
  obtain ⟨W4, hW4, r3, hs4, hb4⟩ : ∃ W4, W3.alloc (.cells #[.int .i64 (k : Int), .slice a zs.length c] 25) = W4 ∧ HasBlk W4 W3.heap.size #[.int .i64 (k : Int), .slice a zs.length c] 25 ∧ W4.heap.size = W3.heap.size + 1 ∧ Below W3.heap.size W3 W4 :=
    ⟨_, rfl, alloc_new W3 _, by simp, below1 W3 _⟩
  have hb24 := hb3.trans (hb4.mono (show W2.heap.size ≤ W3.heap.size by omega))
  have hb04 := hb2.trans (hb24.mono (by omega))
  have y0 := (blk_cell p0 0).trans (cell2_0 _ _)
  have y1 := (blk_cell p0 1).trans (cell2_1 _ _)
  rw [← hW3] at y0 y1
  rw [hs3] at r3
  have hst := clubsP_stops (IsSet k) (6 - 1) (by omega) (W2.heap.size + 1) w.heap.size a c zs (by omega) hz.at_ W4 (by omega) (by omega) ((blk_cell r3 1).trans (cell2_1 _ _)) (ha.below hb04)
  have HST := Lib.hid hst
  have HB4 := Lib.hid hb04
  have HQ1 : Hid (HasBlk W4 (w.heap.size + 1) #[.int .i64 (t : Int)] 3) := Lib.hid ((hb4.block _ (by omega)).trans p1)
  have HQ2 : Hid (HasBlk W4 W2.heap.size #[.int .i64 0] 45) := Lib.hid ((hb4.block _ (by omega)).trans p2)
  have HW3 := Lib.hid hW3
  have HW4 := Lib.hid hW4
  have HS2 := Lib.hid hs2
  have HS3 := Lib.hid hs3
  have HS4 := Lib.hid hs4
  clear ha q0 q1 hb2 hW3 p0 p1 p2 hs3 hb3 hW4 r3 hs4 hb4 hb24 hb04 hst hs2 h8
  refine (callsIn_wide (n := 6)).1 ?_
  refine callsIn_of_wp_marks Tryd.func92 rfl trivial ?_ rfl
  simp only [Tryd.ntmps92, List.size_toArray, List.length_cons, List.length_nil, Nat.reduceAdd, Nat.reduceSub, Array.replicate_succ, Array.replicate_zero, List.push_toArray, List.append_toArray, List.nil_append, List.cons_append]
  gi_wp2_with (refine ⟨trivial, ?_⟩; gi_at_call 66; refine (callsIn_wide.2 (clubs_any _ _ _ _ _)).mono ?_; rintro e w' ⟨rfl, rfl⟩)
  rw [HW3.out, HW4.out]
  clear hW2 y0 y1
  refine wpIn_rangeFunc_ownG rfl h16 (gf := 105) (lb := #[.pointer (some ⟨W2.heap.size + 1, 0, none⟩)]) rfl trivial (enters_of Tryd.func105 (by kernel_rfl) rfl)
    HST.out belowK_t (belowK_b (by have := HS2.out; have := HS4.out; have := HS3.out; omega)) (Below.refl _ _) (fun _ => rfl)
    (fun pre W => ((HasBlk W (w.heap.size + 1) #[.int .i64 (t : Int)] 3 ∧ HasBlk W W2.heap.size #[.int .i64 ((arN t (sndL pre) : Nat) : Int)] 45) ∧ arN t (sndL pre) < 64) ∧ Below w.heap.size w W)
    (fun _ _ _ => False)
    ?own (fun _ _ _ _ _ hs _ _ => hs)
    ⟨⟨⟨HQ1.out, HQ2.out⟩, by show 0 < 64; decide⟩, HB4.out⟩
    (fun x => { tmps := #[.agg #[.int .i64 (k : Int), .slice a zs.length c], .int .i64 (t : Int), .pointer (some ⟨w.heap.size, 0, none⟩), .pointer (some ⟨w.heap.size + 1, 0, none⟩), .int .i64 0, .pointer (some ⟨W2.heap.size, 0, none⟩), undef, .int .i64 x.1.2, .agg #[.int .i64 (k : Int), .slice a zs.length c], .func (.func 105) #[] #[.pointer (some ⟨W2.heap.size + 1, 0, none⟩)], .int .i64 (x.1.1 : Int), .int .i64 x.1.2, undef, undef, undef, undef, undef, undef, undef], defers := [] }) ?assign ?body ?done ?stop
  case own =>
    rintro s A' B row ⟨⟨⟨h1, h2⟩, h3⟩, h5⟩ hg hr
    have hr' : ∀ (b : Nat) (cs : Array Value) (t : TypeId), HasBlk A' b cs t → row ≠ some b := fun b cs t hb e => by
      obtain ⟨-, o, ho, hc⟩ := hr b e
      rw [show A'.heap[b]? = _ from hb] at ho; cases ho; cases hc
    exact ⟨⟨⟨h1.kept hg (hr' _ _ _ h1), h2.kept hg (hr' _ _ _ h2)⟩, h3⟩, h5.grown hg (by have := h5.size; omega) (fun r e => by have := (hr r e).1; have := HS2.out; have := HS3.out; have := HS4.out; omega)⟩
  case assign =>
    intro l x W K hK
    gi_wp2
    exact hK
  case body =>
    rintro l pre x W ⟨⟨⟨h1, h2⟩, hlt64⟩, hB⟩ hlt
    obtain ⟨z, hzz⟩ : ∃ z : Nat, x.1.2 = (z : Int) := ⟨x.1.2.toNat, by have := x.2.1; omega⟩
    have hz64 : z < 64 := by have := p64 hk6 x.2.2; rw [hzz] at this; simpa using this
    have HSN : Hid (arN t (sndL (pre ++ [x])) = if z.testBit t = true then arN t (sndL pre) ||| z else arN t (sndL pre)) := Lib.hid (by rw [sndL_snoc, arN_snoc, hzz]; unfold Bt; rw [Int.toNat_natCast])
    obtain ⟨C, hC⟩ : ∃ C, C = arN t (sndL pre) := ⟨_, rfl⟩
    rw [← hC] at HSN h2 hlt64
    have t0 := (blk_cell h1 0).trans (cell1_0 _)
    have m0 := (blk_cell h2 0).trans (cell1_0 _)
    have m1 := blk_frozen h2 0
    have H1 := Lib.hid h1
    have H2 := Lib.hid h2
    have HB := Lib.hid hB
    have HP := Lib.hid (has_any z t hz64 ht W)
    have hl1 : w.heap.size + 1 ≠ W2.heap.size := by have := HS2.out; omega
    have hl0 : w.heap.size ≤ W2.heap.size := by have := HS2.out; omega
    have hor : bits .or .i64 (C : Int) (z : Int) = ((C ||| z : Nat) : Int) := or_at6 hlt64 hz64
    have hor64 : C ||| z < 64 := Nat.or_lt_two_pow (n := 6) hlt64 hz64
    have HL64 := Lib.hid hlt64
    rw [hzz]
    clear h1 h2 hB hC hlt hlt64
    cases hp : z.testBit t
    · have HPP := Lib.hid hp
      have HE : Hid (arN t (sndL (pre ++ [x])) = C) := Lib.hid (by rw [HSN.out, hp]; simp)
      clear hp
      gi_wp2_with (refine ⟨trivial, ?_⟩; gi_at_call 110; refine (CallsIn.inRound l (callsIn_wide.2 HP.out)).mono ?_; rintro e w' ⟨rfl, rfl⟩; rw [HPP.out])
      exact ⟨KeepsFrom.refl _ _, Below.refl _ _, ⟨⟨H1.out, by rw [HE.out]; exact H2.out⟩, by rw [HE.out]; exact HL64.out⟩, HB.out⟩
    · have HPP := Lib.hid hp
      have HE : Hid (arN t (sndL (pre ++ [x])) = C ||| z) := Lib.hid (by rw [HSN.out, hp]; simp)
      clear hp
      gi_wp2_with (refine ⟨trivial, ?_⟩; gi_at_call 110; refine (CallsIn.inRound l (callsIn_wide.2 HP.out)).mono ?_; rintro e w' ⟨rfl, rfl⟩; rw [HPP.out])
      refine ⟨(KeepsOthers.setCell _ _ _).from _, (Below.refl _ _).setCell (p := ⟨W2.heap.size, 0, none⟩) (by show w.heap.size ≤ W2.heap.size; exact hl0) _, ⟨⟨HasBlk.far H1.out (show w.heap.size + 1 ≠ W2.heap.size from hl1) _, ?_⟩, by rw [HE.out]; exact hor64⟩, HB.out.setCell (p := ⟨W2.heap.size, 0, none⟩) (by show w.heap.size ≤ W2.heap.size; exact hl0) _⟩
      rw [HE.out]
      exact Boxed.set _ H2.out
  case done =>
    rintro E ys W hE hys ⟨⟨⟨-, h2⟩, -⟩, hB⟩ hK
    rw [sndL_all hys] at h2
    have c0 := (blk_cell h2 0).trans (cell1_0 _)
    have HB := Lib.hid hB
    have HK := Lib.hid hK
    have HEs : Hid (w.heap.size ≤ E) := Lib.hid (by have := HS2.out; have := HS3.out; have := HS4.out; omega)
    clear h2 hB hK hys
    gi_wp2
    refine ⟨by simp, .inl ⟨_, _, rfl, run_takeDeferred HK.out, ?_⟩⟩
    exact ⟨.int .i64 ((arN t zs : Nat) : Int), by simp [results, Tryd.results92, go_sem], rfl, HB.out.trans (belowK_b (w := w) (Nat.le_refl _) W E _ _ HEs.out HK.out rfl rfl)⟩
  case stop =>
    rintro D c pre W _ _ h _
    exact h.elim

end Go.Proofs.YtnpfdgbbcapnkaaDoor

/- It is proved what mayLeave returns; conditions: those of each statement. -/
namespace Go.Proofs.YtnpfdgbbcapnkaaDoor
open Go.RowKit

theorem idxX_any {zs : List Int} {x r : Int} (h : IdxR x zs r) : decide (0 ≤ r) = zs.any fun z => decide (z = x) := by
  rcases h with ⟨rfl, h⟩ | ⟨k, rfl, hk, hz, -⟩
  · have : (zs.any fun z => decide (z = x)) = false := List.any_eq_false.2 fun z hz => by
      obtain ⟨j, hj, rfl⟩ := List.getElem_of_mem hz
      have := h j hj
      rw [List.getElem?_eq_getElem hj] at this
      simpa using this
    rw [this]; rfl
  · have : (zs.any fun z => decide (z = x)) = true := List.any_eq_true.2 ⟨zs[k], List.getElem_mem _, by
      rw [List.getElem?_eq_getElem hk] at hz
      simpa using hz⟩
    rw [this, decide_eq_true (by omega)]

set_option maxRecDepth 100000 in
theorem containsX_any (a : Option Addr) (c : Nat) (zs : List Int) (x : Int) (w : World) (ha : Ints w w.heap.size a zs) (hx : zs.length ≤ 1048576) :
    Calls Tryd.prog 121 #[.slice a zs.length c, .int .i64 x] w fun e w' => e = .returned (.bool (zs.any fun z => decide (z = x))) ∧ w = w' := by
  go_enter Tryd.func121, Tryd.ntmps121
  go_wp2_with fail
  refine (indexI_any a c zs x w ha hx).mono ?_
  rintro e w1 ⟨⟨r, rfl, hr⟩, rfl⟩
  have HR := Lib.hid (idxX_any hr)
  clear hr
  go_wp2
  go_ret
  exact ⟨by rw [← HR.out]; rfl, rfl⟩

set_option maxRecDepth 100000 in
set_option maxHeartbeats 1600000 in
theorem mayLeave_any (k : Nat) (hk6 : k ≤ 6) (a : Option Addr) (c : Nat) (zs : List Int) (t : Nat) (ht : t < 6) (w : World) (ha : Ints w w.heap.size a zs) (h8 : zs.length ≤ 8) (hz : Sets k zs) :
    Calls Tryd.prog 89 #[.agg #[.int .i64 (k : Int), .slice a zs.length c], .int .i64 (t : Int)] w fun e w' => e = .returned (.bool (leavB t zs)) ∧ Below w.heap.size w w' := by
  have F1 := FB.start (m := (k : Int)) (c := c) ha
  have HB0 := Lib.hid (below1 w (.cells #[.int .i64 (k : Int), .slice a zs.length c] 25))
  have HF1 := Lib.hid F1
  have HAR := Lib.hid (around_any k hk6 a c zs t ht _ F1.ints h8 hz)
  have HCO : Hid (∀ x W, Ints W W.heap.size a zs → Calls Tryd.prog 121 #[.slice a zs.length c, .int .i64 x] W fun e w' => e = .returned (.bool (zs.any fun z => decide (z = x))) ∧ W = w') := Lib.hid fun x W h => containsX_any a c zs x W h (by omega)
  have HLV : Hid (leavB t zs = (decide (arN t zs = 0) || zs.any fun z => decide (z = ((arN t zs : Nat) : Int)))) := Lib.hid rfl
  obtain ⟨A, hA⟩ : ∃ A, A = arN t zs := ⟨_, rfl⟩
  rw [← hA] at HAR HLV
  have f_0 := F1.x0
  have f_1 := F1.x1
  clear F1 ha hz hA
  go_enter Tryd.func89, Tryd.ntmps89
  go_wp2_with fail
  refine HAR.out.mono ?_
  rintro e w2 ⟨rfl, hb2⟩
  have HF2 := Lib.hid (HF1.out.step hb2)
  have HB2 := Lib.hid (HB0.out.trans (hb2.mono (by simp)))
  clear hb2 f_0 f_1 HF1 HB0 HAR
  have f_0 := HF2.out.x0
  have f_1 := HF2.out.x1
  by_cases h0 : A = 0
  · subst h0
    have HR : Hid (leavB t zs = true) := Lib.hid (by rw [HLV.out]; rfl)
    clear HLV
    go_wp2
    go_ret
    exact ⟨by rw [HR.out]; rfl, HB2.out⟩
  · have hb1 : ((A : Int) == 0) = false := by rw [beq_eq_false_iff_ne]; omega
    have hb2 : (A == 0) = false := by rw [beq_eq_false_iff_ne]; exact h0
    obtain ⟨D, hD⟩ : ∃ D, D = (zs.any fun z => decide (z = (A : Int))) := ⟨_, rfl⟩
    have HC := Lib.hid (HCO.out (A : Int) w2 HF2.out.ints)
    rw [← hD] at HC HLV
    have HR : Hid (leavB t zs = D) := Lib.hid (by rw [HLV.out, decide_eq_false h0, Bool.false_or])
    clear hD HLV h0
    go_wp2_with fail
    refine HC.out.mono ?_
    rintro e w3 ⟨rfl, rfl⟩
    go_wp2
    go_ret
    exact ⟨by rw [HR.out]; rfl, HB2.out⟩

end Go.Proofs.YtnpfdgbbcapnkaaDoor
