/- It is proved what the reference model's RankOdd returns; conditions: those of each statement. -/
import Derived.RowKit
import Derived.Laws.CopyRow
import Derived.Lib.SlBuf
import Derived.Deep.QuietTactic
import Derived.RangeFuncNested
import Derived.RangeFuncBound
import Derived.RangeFuncCalls
import Derived.RangeFuncLeaves
import Derived.RangeFuncBox
import Derived.RangeFuncWrites
import Derived.StillTailTactics
import Derived.Maps.OwnIn
import Derived.Maps.Ext
import Derived.DeepKeys4
import Derived.MapKept
import Derived.Test.YtlfbpaphjkbcmaaRows
import Derived.WalkKit
import Derived.WalkSpells
import Derived.ProofKit
import Derived.OpenShut
import Derived.ShutString
import Derived.ChangeOld
import Derived.Below
import Derived.Deep.RegionHeld3
import Derived.BigQuiet
import Derived.Lib.Hide
import Derived.Lib.SmallJoins
import Derived.Outline
import Derived.Laws.MakeOwn
import Derived.Laws.OwnMore
import Derived.IntWalk
import Derived.Maps.AppendAt
import Derived.Deep.RegionLaw
import Derived.Deep.AppendLies
import Derived.Lib.AppendZeros
import Derived.OwnWalk
import Derived.Lib.SlicesCompact
import Derived.Lib.OwnBridge
import Derived.OrdersIn
import Derived.TacticsIn
import Derived.Shelf.Sort.Plain
import Derived.Shelf.Slices.In.SortNone
import Derived.Shelf.Slices.CompactI
import Derived.Ground.Names2Prog
import Derived.Lib.SliceRun
import Derived.Shelf.RegionOpen
import Derived.Shelf.Abstract
import Derived.OwnWalkIn
import Derived.TacticsInMore
import Derived.LoopNIn
import Derived.LoopIn
import Derived.StillTail
import Derived.StillTactics
import Derived.Shelf.Spec.TrailingZeros
import Derived.Test.YtlfbpaphjkbcmaaB
import Derived.Test.YtlfbpaphjkbcmaaC
import Derived.Test.YtlfbpaphjkbcmaaD
import Derived.Test.YtlfbpaphjkbcmaaE
import Derived.Test.YtlfbpaphjkbcmaaF
import Derived.Test.YtlfbpaphjkbcmaaRaasxRankOd
import Derived.Test.YtlfbpaphjkbcmaaG
import Derived.Test.YtlfbpaphjkbcmaaRaavxRankOd
import Derived.Test.YtlfbpaphjkbcmaaRaatxRankOd
import Derived.Test.YtlfbpaphjkbcmaaSa
import Derived.Test.YtlfbpaphjkbcmaaRaauxRankOd
import Derived.Test.YtlfbpaphjkbcmaaK
import Derived.Test.YtlfbpaphjkbcmaaH
import Derived.Test.YtlfbpaphjkbcmaaL
namespace Go.Proofs.Ytlfbpaphjkbcmaa
open Go.RowKit

set_option maxRecDepth 100000 in
set_option maxHeartbeats 2000000 in
theorem l1Size_tot (z : Int) (w : World) : Calls Try.prog 30 #[.int .i64 z] w fun e w' => ∃ r : Int, e = .returned (.int .i64 r) ∧ w = w' ∧ (0 ≤ z → z.toNat < 256 → r = ((cntK 8 z.toNat : Nat) : Int)) := by
  by_cases h : 0 ≤ z ∧ z.toNat < 256
  · obtain ⟨n, rfl⟩ : ∃ n : Nat, z = (n : Int) := ⟨z.toNat, by omega⟩
    refine (l1SizeW_any n w (by omega)).mono ?_
    rintro e w' ⟨rfl, rfl⟩
    exact ⟨_, rfl, rfl, fun _ _ => by rw [Int.toNat_natCast]⟩
  · have HN : Hid (0 ≤ z → z.toNat < 256 → False) := Lib.hid (fun h1 h2 => h ⟨h1, h2⟩)
    clear h
    by_cases h0 : 0 < z
    · obtain ⟨t0, rfl⟩ : ∃ n : Nat, z = (n : Int) := ⟨z.toNat, by omega⟩
      clear h0
      go_enter Try.func30, Try.ntmps30
      go_wp2
      go_loop [0, 3] (fun s n => ∃ (t : Nat) (r : Int), s = .int .i64 (t : Int) ∧ n = .int .i64 r) (fun s _ => (intOf s).toNat)
      case atStart => exact ⟨t0, 0, rfl, rfl⟩
      case round =>
        obtain ⟨t, r, rfl, rfl⟩ := hrel
        by_cases h0 : 0 < t
        · have h0I : (0 : Int) < (t : Int) := by omega
          go_wp2
          go_round
          case rel => exact ⟨t / 2, _, by go_num, rfl⟩
          case measure => simp [intOf]; omega
        · have h0I : ¬ ((0 : Int) < (t : Int)) := by omega
          go_wp2
          go_ret
          exact ⟨r, rfl, rfl, by intros; exact (HN.out (by omega) (by omega)).elim⟩
    · have h0I : ¬ ((0 : Int) < z) := h0
      clear h0
      go_enter Try.func30, Try.ntmps30
      go_wp2
      go_loop [0, 3] (fun s n => s = .int .i64 z ∧ n = .int .i64 0) (fun _ _ => 0)
      case atStart => exact ⟨rfl, rfl⟩
      case round =>
        obtain ⟨rfl, rfl⟩ := hrel
        go_wp2
        go_ret
        exact ⟨0, rfl, rfl, by intros; exact (HN.out (by omega) (by omega)).elim⟩

theorem odd_tmod {r : Int} {n : Nat} (h : r = (n : Int)) : (Int.tmod r 2 == 1) = decide ((r : Int).toNat % 2 = 1) := by
  subst h
  rw [Int.toNat_natCast, Int.tmod_eq_emod_of_nonneg (by omega)]
  rcases Nat.mod_two_eq_zero_or_one n with h | h
  · rw [h]; rw [show (n : Int) % 2 = 0 by omega]; rfl
  · rw [h]; rw [show (n : Int) % 2 = 1 by omega]; rfl

/-- What the model asks of two clubs. -/
def askO (zs : List Int) (a b : Nat) : Bool := oddR ((a : Int) == (b : Int)) (((comL zs zs)[a]?.getD [])[b]?.getD 0)

theorem com_symm {zs : List Int} (hz : ∀ z ∈ zs, 0 ≤ z ∧ z.toNat < 64) {a b : Nat} (ha : a < zs.length) (hb : b < zs.length) : ((comL zs zs)[a]?.getD [])[b]?.getD 0 = ((comL zs zs)[b]?.getD [])[a]?.getD 0 := by
  rw [shr_two hz ha hb, shr_two hz hb ha, Nat.and_comm]

theorem beq_symm (a b : Nat) : ((a : Int) == (b : Int)) = ((b : Int) == (a : Int)) := by
  rw [Bool.eq_iff_iff, beq_iff_eq, beq_iff_eq]; exact ⟨Eq.symm, Eq.symm⟩

theorem ask_all {zs : List Int} (hz : ∀ z ∈ zs, 0 ≤ z ∧ z.toNat < 64) (h : ∀ a, a < zs.length → ∀ b, b ≤ a → askO zs a b = true) : twoB oddR (comL zs zs) = true := by
  have hll : (comL zs zs).length = zs.length := by unfold comL; rw [List.length_map]
  refine two_yes fun i hi j hj => ?_
  rw [hll] at hi
  rw [com_at hi, shrZ_len] at hj
  by_cases hij : j ≤ i
  · exact h i hi j hij
  · have := h j hj i (by omega)
    unfold askO at this
    rw [com_symm hz hi hj, beq_symm]
    exact this

theorem ask_not {zs : List Int} {a b : Nat} (ha : a < zs.length) (hb : b < zs.length) (h : askO zs a b = false) : twoB oddR (comL zs zs) = false :=
  two_no (by unfold comL; rw [List.length_map]; exact ha) (by rw [com_at ha, shrZ_len]; exact hb) h

set_option maxRecDepth 100000 in
set_option maxHeartbeats 4000000 in
theorem specRankOdd_any (m : Int) (a : Option Addr) (c : Nat) (zs : List Int) (w : World) (ha : Ints w w.heap.size a zs) (hx : zs.length ≤ 1048576) :
    Calls Try.prog 24 #[.agg #[.int .i64 m, .slice a zs.length c]] w fun e w' => e = .returned (.bool (roddB m zs)) ∧ Below w.heap.size w w' := by
  obtain ⟨W0, hW0, q0, hs0, hb0⟩ : ∃ W0, w.alloc (.cells #[.int .i64 m, .slice a zs.length c] 28) = W0 ∧ HasBlk W0 w.heap.size #[.int .i64 m, .slice a zs.length c] 28 ∧ W0.heap.size = w.heap.size + 1 ∧ Below w.heap.size w W0 := ⟨_, rfl, alloc_new w _, by simp, below1 w _⟩
  have HA := Lib.hid (ha.below hb0)
  have HB0 := Lib.hid hb0
  have HQ0 := Lib.hid q0
  have HS0 := Lib.hid hs0
  have HFAM : Hid (famIn m zs = true → ∀ z ∈ zs, 0 ≤ z ∧ z.toNat < 64) := Lib.hid (fun h => by
    obtain ⟨k, rfl, hk1, hk6, hset, hl8⟩ := fam_nat2 h
    exact fun z h => ⟨(hset z h).1, p64 hk6 (hset z h).2⟩)
  have HFI := Lib.hid (fun W (hi : Ints W W.heap.size a zs) => specFamilyIn_any m a c zs W hi hx)
  have HW0 := Lib.hid hW0
  obtain ⟨N, hN⟩ : ∃ N, N = zs.length := ⟨_, rfl⟩
  have HN := Lib.hid hN
  have hN20 : N ≤ 1048576 := by omega
  have x0 := (blk_cell q0 0).trans (cell2_0 _ _)
  have x1 := (blk_cell q0 1).trans (cell2_1 _ _)
  rw [← hN] at x1 HFI HQ0 HW0 ⊢
  rw [← hW0, ← hN] at x0 x1
  clear ha q0 hs0 hb0 hW0 hN hx
  go_enter Try.func24, Try.ntmps24
  go_wp2
  rw [HW0.out]
  rw [HW0.out] at x0 x1
  go_loopw [3] (fun i wr => ∃ p : Nat, p ≤ N ∧ i = .int .i64 (p : Int) ∧ Below W0.heap.size W0 wr ∧ Hid (famIn m zs = true → ∀ i, i < p → ∀ j, j ≤ i → askO zs i j = true)) (fun i _ => N - (intOf i).toNat)
  case atStart => exact ⟨0, Nat.zero_le _, rfl, Below.refl _ _, Lib.hid fun _ i hi => by omega⟩
  case round =>
    obtain ⟨p, hp, rfl, hbr, HH⟩ := hrel
    clear x0 x1
    have HBR := Lib.hid hbr
    have hq := (hbr.block _ (lt_of_some HQ0.out)).trans HQ0.out
    have x0 := (blk_cell hq 0).trans (cell2_0 _ _)
    have x1 := (blk_cell hq 1).trans (cell2_1 _ _)
    have hp0 : (0 : Int) ≤ (p : Int) := by omega
    clear hbr hq
    by_cases hlt : p < N
    · have hpI : (p : Int) < (N : Int) := by omega
      go_wp2
      clear x0 x1
      go_loopw [4] (fun i wr => ∃ q : Nat, q ≤ p + 1 ∧ i = .int .i64 (q : Int) ∧ Below W0.heap.size W0 wr ∧ Hid (famIn m zs = true → ∀ j, j < q → askO zs p j = true)) (fun i _ => p + 1 - (intOf i).toNat)
      case atStart => exact ⟨0, Nat.zero_le _, rfl, HBR.out, Lib.hid fun _ i hi => by omega⟩
      case round =>
        obtain ⟨q, hq, rfl, hbr, HH2⟩ := hrel
        have HBR2 := Lib.hid hbr
        have hqb := (hbr.block _ (lt_of_some HQ0.out)).trans HQ0.out
        have x0 := (blk_cell hqb 0).trans (cell2_0 _ _)
        have x1 := (blk_cell hqb 1).trans (cell2_1 _ _)
        have hq0 : (0 : Int) ≤ (q : Int) := by omega
        clear hqb
        by_cases hlt2 : q ≤ p
        · have hqI : (q : Int) ≤ (p : Int) := by omega
          have hqN : (q : Int) < (N : Int) := by omega
          obtain ⟨b1, o1, rfl, hb1, hc1⟩ := HA.out.at_ (k := p) (by rw [← HN.out]; exact hlt)
          obtain ⟨b2, o2, he2, hb2, hc2⟩ := HA.out.at_ (k := q) (by rw [← HN.out]; omega)
          injection he2 with he2
          injection he2 with e1 e2
          subst e1
          subst e2
          have hin1 := at_in (xs := zs) (k := p) (by rw [← HN.out]; exact hlt)
          have hin2 := at_in (xs := zs) (k := q) (by rw [← HN.out]; omega)
          have HASK : Hid (∀ r : Int, (0 ≤ bits .and .i64 (zs[p]?.getD 0) (zs[q]?.getD 0) → (bits .and .i64 (zs[p]?.getD 0) (zs[q]?.getD 0)).toNat < 256 → r = ((cntK 8 (bits .and .i64 (zs[p]?.getD 0) (zs[q]?.getD 0)).toNat : Nat) : Int)) → famIn m zs = true → askO zs p q = (((p : Int) == (q : Int)) == (Int.tmod r 2 == 1))) := Lib.hid (fun r hr hf => by
            obtain ⟨h1, h2⟩ := HFAM.out hf _ hin1
            obtain ⟨h3, h4⟩ := HFAM.out hf _ hin2
            have hs := shr_two (HFAM.out hf) (i := p) (j := q) (by rw [← HN.out]; exact hlt) (by rw [← HN.out]; omega)
            obtain ⟨x, hx⟩ : ∃ x : Nat, zs[p]?.getD 0 = (x : Int) := ⟨(zs[p]?.getD 0).toNat, by omega⟩
            obtain ⟨y, hy⟩ : ∃ y : Nat, zs[q]?.getD 0 = (y : Int) := ⟨(zs[q]?.getD 0).toNat, by omega⟩
            rw [hx, Int.toNat_natCast] at h2 hs
            rw [hy, Int.toNat_natCast] at h4 hs
            rw [hx, hy, and6_at x y h2 h4] at hr
            have hxy : x &&& y ≤ x := Nat.and_le_left
            have hr' := hr (by omega) (by rw [Int.toNat_natCast]; omega)
            rw [Int.toNat_natCast] at hr'
            unfold askO oddR
            rw [hs, Nat.and_comm, ← hr', odd_tmod hr'])
          obtain ⟨X, hX⟩ : ∃ X, X = zs[p]?.getD 0 := ⟨_, rfl⟩
          obtain ⟨Y, hY⟩ : ∃ Y, Y = zs[q]?.getD 0 := ⟨_, rfl⟩
          rw [← hX] at hc1 HASK
          rw [← hY] at hc2 HASK
          have cc1 := (hbr.cell (p := ⟨b1, o1 + p, none⟩) (show b1 < W0.heap.size by have := HS0.out; omega)).trans hc1
          have cc2 := (hbr.cell (p := ⟨b1, o1 + q, none⟩) (show b1 < W0.heap.size by have := HS0.out; omega)).trans hc2
          clear hX hY hc1 hc2 hbr hin1 hin2
          have HSZ := Lib.hid (fun W => l1Size_tot (bits .and .i64 X Y) W)
          by_cases hpq : p = q
          · subst hpq
            obtain rfl : X = Y := by
              have h := cc1.symm.trans cc2
              injection h with h
              injection h
            go_wp2
            go_region_held3 (fun w' => w'.cell? ⟨w.heap.size, 1, none⟩ = some (.slice (some ⟨b1, o1, none⟩) N c) ∧ w'.cell? ⟨b1, o1 + p, none⟩ = some (.int .i64 X) ∧ w' = wr.drew) (exact ⟨x1, cc1, rfl⟩)
              (first | (go_at_call 30; with_reducible refine (HSZ.out _).mono ?_; rintro e w4 ⟨r, rfl, rfl, hr⟩; have HRR := Lib.hid hr; clear hr))
            rename_i hHeldX
            clear hHeldX
            have HB3 := Lib.hid HBR2.out.drew
            have hee : ((p : Int) == (p : Int)) = true := by simp
            rw [hee] at HASK
            clear hee
            cases hv : (Int.tmod r 2 == 1)
            · have HV : Hid (famIn m zs = true → askO zs p p = false) := Lib.hid (fun hf => by rw [HASK.out r HRR.out hf, hv]; rfl)
              go_wp2
              go_ret
              exact ⟨by
                congr 2
                unfold roddB
                cases hf : famIn m zs
                · rfl
                · rw [ask_not (by rw [← HN.out]; exact hlt) (by rw [← HN.out]; omega) (HV.out hf)]; rfl, HB0.out.trans (HB3.out.mono (by have := HS0.out; omega))⟩
            · have HV : Hid (famIn m zs = true → askO zs p p = true) := Lib.hid (fun hf => by rw [HASK.out r HRR.out hf, hv]; rfl)
              go_wp2
              go_roundw
              case rel => exact ⟨p + 1, by omega, by go_num, HB3.out, Lib.hid fun hf j hj => by
                rcases Nat.lt_succ_iff_lt_or_eq.1 hj with h | rfl
                · exact HH2.out hf j h
                · exact HV.out hf⟩
              case measure => simp [intOf]
          · have hne : (p : Int) ≠ (q : Int) := by omega
            go_wp2
            go_region_held3 (fun w' => w'.cell? ⟨w.heap.size, 1, none⟩ = some (.slice (some ⟨b1, o1, none⟩) N c) ∧ w'.cell? ⟨b1, o1 + p, none⟩ = some (.int .i64 X) ∧ w'.cell? ⟨b1, o1 + q, none⟩ = some (.int .i64 Y) ∧ w' = wr.drew) (exact ⟨x1, cc1, cc2, rfl⟩)
              (first | (go_at_call 30; with_reducible refine (HSZ.out _).mono ?_; rintro e w4 ⟨r, rfl, rfl, hr⟩; have HRR := Lib.hid hr; clear hr))
            rename_i hHeldX
            clear hHeldX
            have HB3 := Lib.hid HBR2.out.drew
            have hee : ((p : Int) == (q : Int)) = false := by rw [beq_eq_false_iff_ne]; exact hne
            rw [hee] at HASK
            cases hv : (Int.tmod r 2 == 1)
            · have HV : Hid (famIn m zs = true → askO zs p q = true) := Lib.hid (fun hf => by rw [HASK.out r HRR.out hf, hv]; rfl)
              go_wp2
              go_roundw
              case rel => exact ⟨q + 1, by omega, by go_num, HB3.out, Lib.hid fun hf j hj => by
                rcases Nat.lt_succ_iff_lt_or_eq.1 hj with h | rfl
                · exact HH2.out hf j h
                · exact HV.out hf⟩
              case measure => simp [intOf]; omega
            · have HV : Hid (famIn m zs = true → askO zs p q = false) := Lib.hid (fun hf => by rw [HASK.out r HRR.out hf, hv]; rfl)
              go_wp2
              go_ret
              exact ⟨by
                congr 2
                unfold roddB
                cases hf : famIn m zs
                · rfl
                · rw [ask_not (by rw [← HN.out]; exact hlt) (by rw [← HN.out]; omega) (HV.out hf)]; rfl, HB0.out.trans (HB3.out.mono (by have := HS0.out; omega))⟩
        · obtain rfl : q = p + 1 := by omega
          have hqI : ¬ (((p + 1 : Nat) : Int) ≤ (p : Int)) := by omega
          clear hbr
          go_wp2
          go_roundw
          case rel => exact ⟨p + 1, by omega, by go_num, HBR2.out, Lib.hid fun hf i hi j hj => by
            rcases Nat.lt_succ_iff_lt_or_eq.1 hi with h | rfl
            · exact HH.out hf i h j hj
            · exact HH2.out hf j (by omega)⟩
          case measure => simp [intOf]; omega
    · obtain rfl : p = N := by omega
      have hI : ¬ ((p : Int) < (p : Int)) := by omega
      go_wp2_with fail
      refine (HFI.out _ ((HA.out.below (HBR.out.mono (by have := HS0.out; omega))).mono (by have := HBR.out.size; have := HS0.out; omega))).mono ?_
      rintro e w5 ⟨rfl, hb5⟩
      have HB5 := Lib.hid ((HB0.out.trans (HBR.out.mono (by have := HS0.out; omega))).trans (hb5.mono (by have := HBR.out.size; have := HS0.out; omega)))
      clear hb5
      go_wp2
      go_ret
      refine ⟨?_, HB5.out⟩
      congr 2
      unfold roddB
      cases hf : famIn m zs
      · rfl
      · rw [ask_all (HFAM.out hf) (fun a ha b hb => HH.out hf a (by rw [HN.out]; exact ha) b hb)]; rfl

end Go.Proofs.Ytlfbpaphjkbcmaa

/- It is proved that FamilyDrop of the program and of the model return the same; conditions: those of each statement. -/
namespace Go.Proofs.Ytlfbpaphjkbcmaa
open Go.RowKit

theorem Ints.some_ {w : World} {B : Nat} {a : Option Addr} {zs : List Int} (h : Ints w B a zs) (hn : 0 < zs.length) : ∃ b off, a = some ⟨b, off, none⟩ := by
  rcases h with rfl | ⟨b, off, e, _⟩
  · simp at hn
  · exact ⟨b, off, e⟩

theorem own_cap {w : World} {B : Nat} {a : Option Addr} {n cap : Nat} {zs : List Int} (h : OwnN w B a n cap zs) : n ≤ cap := by
  rcases h.2 with ⟨e, hn⟩ | ⟨g, c, cur, e, _, _, hnc, _⟩
  · omega
  · injection e with _ _ e3; omega

end Go.Proofs.Ytlfbpaphjkbcmaa

/- It is proved that the call of the exact law of RankOdd and RankSame returns true, given what the two functions return; conditions: those of each statement. -/
namespace Go.Proofs.Ytlfbpaphjkbcmaa
open Go.RowKit

set_option maxRecDepth 100000 in
set_option maxHeartbeats 1600000 in
theorem walkRankOdd (m : Int) (a : Option Addr) (cap : Nat) (zs : List Int) (r : Bool) (w : World) (ha : Ints w w.heap.size a zs) (hn : zs.length ≤ 1048576)
    (hS : ∀ a cap W, Ints W W.heap.size a zs → Calls Try.prog 24 #[.agg #[.int .i64 m, .slice a zs.length cap]] W fun e W' => e = .returned (.bool r) ∧ Below W.heap.size W W')
    (hI : ∀ a cap W, Ints W W.heap.size a zs → zs.length ≤ cap → Calls Try.prog 25 #[.agg #[.int .i64 m, .slice a zs.length cap]] W fun e W' => e = .returned (.bool r) ∧ Below W.heap.size W W') :
    Calls Try.prog 6 #[.agg #[.int .i64 m, .slice a zs.length cap]] w fun e w' => e = .returned (.bool true) ∧ Below w.heap.size w w' := by
  have HS := Lib.hid hS
  have HI := Lib.hid hI
  have S0 := AF.start w m a cap zs ha
  clear hS hI
  cases r
  all_goals
    go_enter Try.func6, Try.ntmps6
    go_wp2_with fail
    refine (szFamily_any _ _ _ _ _ _ (by omega) (by omega) (by omega)).mono ?_
    rintro e w0 ⟨rfl, hb0⟩
    rw [if_neg (by omega)]
    have S1 := S0.step hb0
    clear S0 hb0
    have x0 := S1.x0
    have x1 := S1.x1
    go_wp2_with fail
    refine (toFamily_any _ _ _ zs _ S1.old hn).mono ?_
    rintro e w1 ⟨a1, c1, rfl, ho1, hb1⟩
    have S2 := S1.step hb1
    clear S1 hb1 x0 x1
    go_wp2_with fail
    refine (HS.out _ _ _ (own_ints ho1)).mono ?_
    rintro e w2 ⟨rfl, hb2⟩
    have S3 := S2.step hb2
    clear S2 hb2 ho1
    have x0 := S3.x0
    have x1 := S3.x1
    go_wp2_with fail
    refine (toFamily_any _ _ _ zs _ S3.old hn).mono ?_
    rintro e w3 ⟨a2, c2, rfl, ho2, hb3⟩
    have S4 := (S3.step hb3).step (below1 w3 (.cells #[.int .i64 m, .slice a2 zs.length c2] 28))
    have X4 := XF.start w3 m a2 c2 zs (own_ints ho2)
    clear S3 hb3 x0 x1
    go_wp2_with fail
    refine (HI.out _ _ _ X4.ints (own_cap ho2)).mono ?_
    rintro e w4 ⟨rfl, hb4⟩
    have S5 := S4.step hb4
    have X5 := X4.step hb4
    clear S4 X4 hb4 ho2
    have x0 := S5.x0
    have x1 := S5.x1
    have y0 := X5.x0
    have y1 := X5.x1
    go_wp2_with fail
    have Sd := S5.drew
    have Xd := X5.drew
    clear S5 X5
    go_region_held3 (fun w' => w'.cell? ⟨w.heap.size, 0, none⟩ = some (.int .i64 m) ∧ w'.cell? ⟨w.heap.size, 1, none⟩ = some (.slice a zs.length cap) ∧ w'.cell? ⟨w3.heap.size, 0, none⟩ = some (.int .i64 m) ∧ w'.cell? ⟨w3.heap.size, 1, none⟩ = some (.slice a2 zs.length c2) ∧ Below w.heap.size w w')
      (first
        | exact ⟨Sd.x0, Sd.x1, Xd.x0, Xd.x1, Sd.below⟩
        | exact ⟨(Sd.step hb5).x0, (Sd.step hb5).x1, (Xd.step hb5).x0, (Xd.step hb5).x1, (Sd.step hb5).below⟩
        | exact ⟨((Sd.step hb5).step hb6).x0, ((Sd.step hb5).step hb6).x1, ((Xd.step hb5).step hb6).x0, ((Xd.step hb5).step hb6).x1, ((Sd.step hb5).step hb6).below⟩)
      (first
        | (go_at_call 10; refine (toFamily_any _ _ _ zs _ Sd.old hn).mono ?_; rintro e w5 ⟨a3, c3, rfl, ho3, hb5⟩)
        | (go_at_call 13; refine (eqFamily_any _ _ _ _ _ _ zs zs _ (Xd.step hb5).ints (own_ints ho3) hn hn).mono ?_; rintro e w6 ⟨rfl, hb6⟩; rw [sameF_self]))
    rename_i hHeld
    have HD := Lib.hid hHeld.2.2.2.2
    clear hHeld
    go_wp2
    go_ret
    exact ⟨rfl, HD.out⟩

set_option maxRecDepth 100000 in
set_option maxHeartbeats 1600000 in
theorem walkRankSame (m : Int) (a : Option Addr) (cap : Nat) (zs : List Int) (r : Bool) (w : World) (ha : Ints w w.heap.size a zs) (hn : zs.length ≤ 1048576)
    (hS : ∀ a cap W, Ints W W.heap.size a zs → Calls Try.prog 26 #[.agg #[.int .i64 m, .slice a zs.length cap]] W fun e W' => e = .returned (.bool r) ∧ Below W.heap.size W W')
    (hI : ∀ a cap W, Ints W W.heap.size a zs → zs.length ≤ cap → Calls Try.prog 27 #[.agg #[.int .i64 m, .slice a zs.length cap]] W fun e W' => e = .returned (.bool r) ∧ Below W.heap.size W W') :
    Calls Try.prog 7 #[.agg #[.int .i64 m, .slice a zs.length cap]] w fun e w' => e = .returned (.bool true) ∧ Below w.heap.size w w' := by
  have HS := Lib.hid hS
  have HI := Lib.hid hI
  have S0 := AF.start w m a cap zs ha
  clear hS hI
  cases r
  all_goals
    go_enter Try.func7, Try.ntmps7
    go_wp2_with fail
    refine (szFamily_any _ _ _ _ _ _ (by omega) (by omega) (by omega)).mono ?_
    rintro e w0 ⟨rfl, hb0⟩
    rw [if_neg (by omega)]
    have S1 := S0.step hb0
    clear S0 hb0
    have x0 := S1.x0
    have x1 := S1.x1
    go_wp2_with fail
    refine (toFamily_any _ _ _ zs _ S1.old hn).mono ?_
    rintro e w1 ⟨a1, c1, rfl, ho1, hb1⟩
    have S2 := S1.step hb1
    clear S1 hb1 x0 x1
    go_wp2_with fail
    refine (HS.out _ _ _ (own_ints ho1)).mono ?_
    rintro e w2 ⟨rfl, hb2⟩
    have S3 := S2.step hb2
    clear S2 hb2 ho1
    have x0 := S3.x0
    have x1 := S3.x1
    go_wp2_with fail
    refine (toFamily_any _ _ _ zs _ S3.old hn).mono ?_
    rintro e w3 ⟨a2, c2, rfl, ho2, hb3⟩
    have S4 := (S3.step hb3).step (below1 w3 (.cells #[.int .i64 m, .slice a2 zs.length c2] 28))
    have X4 := XF.start w3 m a2 c2 zs (own_ints ho2)
    clear S3 hb3 x0 x1
    go_wp2_with fail
    refine (HI.out _ _ _ X4.ints (own_cap ho2)).mono ?_
    rintro e w4 ⟨rfl, hb4⟩
    have S5 := S4.step hb4
    have X5 := X4.step hb4
    clear S4 X4 hb4 ho2
    have x0 := S5.x0
    have x1 := S5.x1
    have y0 := X5.x0
    have y1 := X5.x1
    go_wp2_with fail
    have Sd := S5.drew
    have Xd := X5.drew
    clear S5 X5
    go_region_held3 (fun w' => w'.cell? ⟨w.heap.size, 0, none⟩ = some (.int .i64 m) ∧ w'.cell? ⟨w.heap.size, 1, none⟩ = some (.slice a zs.length cap) ∧ w'.cell? ⟨w3.heap.size, 0, none⟩ = some (.int .i64 m) ∧ w'.cell? ⟨w3.heap.size, 1, none⟩ = some (.slice a2 zs.length c2) ∧ Below w.heap.size w w')
      (first
        | exact ⟨Sd.x0, Sd.x1, Xd.x0, Xd.x1, Sd.below⟩
        | exact ⟨(Sd.step hb5).x0, (Sd.step hb5).x1, (Xd.step hb5).x0, (Xd.step hb5).x1, (Sd.step hb5).below⟩
        | exact ⟨((Sd.step hb5).step hb6).x0, ((Sd.step hb5).step hb6).x1, ((Xd.step hb5).step hb6).x0, ((Xd.step hb5).step hb6).x1, ((Sd.step hb5).step hb6).below⟩)
      (first
        | (go_at_call 10; refine (toFamily_any _ _ _ zs _ Sd.old hn).mono ?_; rintro e w5 ⟨a3, c3, rfl, ho3, hb5⟩)
        | (go_at_call 13; refine (eqFamily_any _ _ _ _ _ _ zs zs _ (Xd.step hb5).ints (own_ints ho3) hn hn).mono ?_; rintro e w6 ⟨rfl, hb6⟩; rw [sameF_self]))
    rename_i hHeld
    have HD := Lib.hid hHeld.2.2.2.2
    clear hHeld
    go_wp2
    go_ret
    exact ⟨rfl, HD.out⟩

end Go.Proofs.Ytlfbpaphjkbcmaa
