/- It is proved what FamilyParts of the program returns; conditions: those of each statement. -/
import Derived.Test.YtphddemilibooaaDoorRows
import Derived.WalkKit
import Derived.WalkSpells
import Derived.ProofKit
import Derived.OpenShut
import Derived.ShutString
import Derived.ChangeOld
import Derived.Below
import Derived.Deep.RegionHeld3
import Derived.Deep.QuietTactic
import Derived.BigQuiet
import Derived.Lib.Hide
import Derived.Lib.SmallJoins
import Derived.Outline
import Derived.Laws.MakeOwn
import Derived.Laws.OwnMore
import Derived.IntWalk
import Derived.RangeFuncNested
import Derived.RangeFuncBound
import Derived.RangeFuncCalls
import Derived.RangeFuncLeaves
import Derived.RangeFuncBox
import Derived.Shelf.Abstract
import Derived.Shelf.RegionOpen
import Derived.OwnWalkIn
import Derived.TacticsInMore
import Derived.LoopNIn
import Derived.LoopIn
import Derived.Maps.AppendAt
import Derived.Deep.AppendLies
import Derived.OwnWalk
import Derived.StillTail
import Derived.StillTactics
import Derived.OrdersIn
import Derived.TacticsIn
import Derived.Shelf.Spec.TrailingZeros
import Derived.StillTailTactics
import Derived.Test.YtphddemilibooaaDoorRaaa
import Derived.Test.YtphddemilibooaaDoorRaac
import Derived.Test.YtphddemilibooaaDoorRaab
import Derived.Test.YtphddemilibooaaDoorRaad
import Derived.Test.YtphddemilibooaaDoorRabpxFnProp
import Derived.Test.YtphddemilibooaaDoorRaay
import Derived.Test.YtphddemilibooaaDoorRabd
import Derived.Test.YtphddemilibooaaDoorRaam
import Derived.Test.YtphddemilibooaaDoorRaaj
import Derived.Test.YtphddemilibooaaDoorTb
import Derived.Deep.RegionLaw
import Derived.Test.YtphddemilibooaaDoorDb
import Derived.Test.YtphddemilibooaaDoorRaar
import Derived.Test.YtphddemilibooaaDoorYa
namespace Go.Proofs.YtphddemilibooaaDoor
open Go.RowKit Go.Shelf

attribute [local go_sem] Oper.semAt_some

set_option maxRecDepth 100000 in
set_option maxHeartbeats 2000000 in
theorem implParts_no (m : Int) (a : Option Addr) (c : Nat) (zs : List Int) (w : World) (ha : Ints w w.heap.size a zs) (hx : zs.length ≤ 1048576) (hf : famIn m zs = false) :
    Calls Tryd.prog 15 #[.agg #[.int .i64 m, .slice a zs.length c]] w (RetIB w 0 false) := by
  have HA := Lib.hid ((ha.below (below1 w (.cells #[.int .i64 m, .slice a zs.length c] 25))).mono (B' := (w.alloc (.cells #[.int .i64 m, .slice a zs.length c] 25)).heap.size) (by simp))
  have HF := Lib.hid hf
  clear hf ha
  go_enter Tryd.func15, Tryd.ntmps15
  go_wp2_with (go_at_call 30; refine (implFamilyIn_any _ _ _ zs _ HA.out hx).mono ?_; rintro e w1 ⟨rfl, hb⟩; rw [HF.out]; have HB := Lib.hid hb; clear hb)
  go_ret2
  exact ⟨rfl, (below1 _ _).trans (HB.out.mono (by simp))⟩

set_option maxRecDepth 100000 in
set_option maxHeartbeats 6000000 in
theorem implParts_yes (m : Nat) (a : Option Addr) (c : Nat) (zs : List Int) (w : World) (ha : Ints w w.heap.size a zs) (hT : Tab w) (hx : zs.length ≤ 1048576) (hf : famIn (m : Int) zs = true) :
    Calls Tryd.prog 15 #[.agg #[.int .i64 (m : Int), .slice a zs.length c]] w (RetIB w ((cntP m (ksOf zs) m : Nat) : Int) true) := by
  have HA := Lib.hid ((ha.below (below1 w (.cells #[.int .i64 (m : Int), .slice a zs.length c] 25))).mono (B' := (w.alloc (.cells #[.int .i64 (m : Int), .slice a zs.length c] 25)).heap.size) (by simp))
  have HI := Lib.hid ha
  have HF := Lib.hid hf
  have HT := Lib.hid hT
  have HK := Lib.hid (ksm_of hf)
  obtain ⟨hm1, hm6, hl8, -⟩ := famIn_out hf
  have hm6' : m ≤ 6 := by omega
  clear hf ha hT
  refine (callsIn_wide (n := 6)).1 ?_
  refine callsIn_of_wp_marks Tryd.func15 rfl trivial ?_ rfl
  simp only [Tryd.ntmps15, List.size_toArray, List.length_cons, List.length_nil, Nat.reduceAdd, Nat.reduceSub, Array.replicate_succ, Array.replicate_zero, List.push_toArray, List.append_toArray, List.nil_append, List.cons_append]
  gi_wp2_with fail
  refine ⟨trivial, (callsIn_wide.2 (implFamilyIn_any _ _ _ zs _ HA.out hx)).mono ?_⟩
  rintro e w1 ⟨rfl, hb⟩
  rw [HF.out]
  have q0 : w1.heap[w.heap.size]? = some (.cells #[.int .i64 (m : Int), .slice a zs.length c] 25 (0, 0)) := (hb.block _ (by simp)).trans (alloc_new w _)
  have x0 := (blk_cell q0 0).trans (cell2_0 _ _)
  have x1 := (blk_cell q0 1).trans (cell2_1 _ _)
  have xs : w.heap.size + 1 ≤ w1.heap.size := by have := hb.size; simpa using this
  have HB := Lib.hid ((below1 w _).trans (hb.mono (by simp)))
  have Q0 := Lib.hid q0
  have b2 := below2 w1 (.cells #[.int .i64 0] 3) (.cells #[.int .i64 0] 37)
  have p1 : Boxed ((w1.alloc (.cells #[.int .i64 0] 3)).alloc (.cells #[.int .i64 0] 37)) w1.heap.size 3 (.int .i64 0) := alloc2_0 w1 _ _
  have p2 : Boxed ((w1.alloc (.cells #[.int .i64 0] 3)).alloc (.cells #[.int .i64 0] 37)) (w1.heap.size + 1) 37 (.int .i64 0) := alloc2_1 w1 _ _
  have z0 := (b2.cell (p := ⟨w.heap.size, 0, none⟩) (show w.heap.size < w1.heap.size by omega)).trans x0
  have z1 := (b2.cell (p := ⟨w.heap.size, 1, none⟩) (show w.heap.size < w1.heap.size by omega)).trans x1
  have P1 := Lib.hid p1
  have P2 := Lib.hid p2
  have B2 := Lib.hid b2
  clear hb q0 p1 p2 b2 x0 x1
  gi_wp2_with (refine ⟨trivial, ?_⟩; gi_at_call 38; refine (callsIn_wide.2 (fullB_any _ _ _ _ _ hm1 hm6)).mono ?_; rintro e w2 ⟨rfl, hb2⟩)
  have hfull : fullI (m : Int) = ((2 ^ m - 1 : Nat) : Int) := by
    have h1 : (1 : Nat) ≤ 2 ^ m := Nat.one_le_two_pow
    have h7 : fullI (m : Int) = ((2 ^ m : Nat) : Int) - 1 := by simp [fullI]
    omega
  rw [hfull]
  refine ⟨trivial, (callsIn_wide.2 (members_any _ _)).mono ?_⟩
  rintro e w' ⟨rfl, rfl⟩
  have hw12 : w1.heap.size + 2 ≤ w2.heap.size := by have := hb2.size; simpa using this
  have r1 : Boxed w2 w1.heap.size 3 (.int .i64 0) := (hb2.block _ (by simp; omega)).trans P1.out
  have r2 : Boxed w2 (w1.heap.size + 1) 37 (.int .i64 0) := (hb2.block _ (by simp)).trans P2.out
  have r0 := (hb2.block w.heap.size (by simp; omega)).trans ((B2.out.block w.heap.size (by omega)).trans Q0.out)
  have HBw : Hid (Below w.heap.size w w2) := Lib.hid (HB.out.trans ((B2.out.trans (hb2.mono (by simp; omega))).mono (by omega)))
  have R1 := Lib.hid (r1.alloc (.cells #[.int .i64 ((2 ^ m - 1 : Nat) : Int)] 37))
  have R2 := Lib.hid (r2.alloc (.cells #[.int .i64 ((2 ^ m - 1 : Nat) : Int)] 37))
  have R0 : Hid (HasBlk (w2.alloc (.cells #[.int .i64 ((2 ^ m - 1 : Nat) : Int)] 37)) w.heap.size #[.int .i64 (m : Int), .slice a zs.length c] 25) := Lib.hid (HasBlk.alloc r0 _)
  have HBW0 : Hid (Below w.heap.size w (w2.alloc (.cells #[.int .i64 ((2 ^ m - 1 : Nat) : Int)] 37))) := Lib.hid (HBw.out.alloc (by omega) _)
  clear hb2 r0 r1 r2 z0 z1
  gi_wp2
  have h16 : 1 ≤ 6 := by omega
  have hst := members_stops (6 - 1) (by omega) w2.heap.size w1.heap.size m (2 ^ m - 1) hm6' (by have : (1 : Nat) ≤ 2 ^ m := Nat.one_le_two_pow; omega) (w2.alloc (.cells #[.int .i64 ((2 ^ m - 1 : Nat) : Int)] 37)) (by simp) (by simp; omega) (by have := HT.out.lt; omega)
    ((blk_cell (alloc_new w2 _) 0).trans (cell1_0 _)) (HT.out.below HBW0.out HT.out.lt)
  obtain ⟨W0, hW0⟩ : ∃ W0, w2.alloc (.cells #[.int .i64 ((2 ^ m - 1 : Nat) : Int)] 37) = W0 := ⟨_, rfl⟩
  have hso : W0.heap.size = w2.heap.size + 1 := by rw [← hW0]; simp
  rw [hW0] at hst R1 R2 R0 HBW0 ⊢
  have HSO := Lib.hid hso
  clear hW0 hso
  have hmx : Tryd.prog.follows .mixedOrders = true := by kernel_rfl
  refine wpIn_rangeFunc_ownG rfl h16 (gf := 64) (lb := #[.pointer (some ⟨w2.heap.size, 0, none⟩)]) rfl trivial (enters_of Tryd.func64 (by kernel_rfl) rfl)
    hst belowK_t (belowK_b (by have := HSO.out; omega)) (Below.refl _ _) (fun _ => rfl)
    (fun us W => (Boxed W (w1.heap.size + 1) 37 (.int .i64 (((stP m (ksOf zs) (vals us)).1 : Nat) : Int)) ∧ Boxed W w1.heap.size 3 (.int .i64 (((stP m (ksOf zs) (vals us)).2 : Nat) : Int))) ∧ Below w1.heap.size W0 W)
    (fun _ _ _ => False)
    (OwnFrom.and (OwnFrom.and (Own.from (boxed_own _ _ (fun us : List (Mem m) => Value.int .i64 (((stP m (ksOf zs) (vals us)).1 : Nat) : Int))) _) (Own.from (boxed_own _ _ (fun us : List (Mem m) => Value.int .i64 (((stP m (ksOf zs) (vals us)).2 : Nat) : Int))) _)) (ownFrom_below (by have := HSO.out; omega) (by have := HSO.out; omega)))
    (fun _ _ _ _ _ hs _ _ => hs)
    ⟨⟨R2.out, R1.out⟩, Below.refl _ _⟩
    (fun x => { tmps := #[.agg #[.int .i64 (m : Int), .slice a zs.length c], .pointer (some ⟨w.heap.size, 0, none⟩), .int .i64 0, .bool false, .pointer (some ⟨w1.heap.size, 0, none⟩), .pointer (some ⟨w1.heap.size + 1, 0, none⟩), .int .i64 (x.1 : Int), .agg #[.int .i64 (m : Int), .slice a zs.length c], .bool true, .bool false, .agg #[.int .i64 (m : Int), .slice a zs.length c], .int .i64 ((2 ^ m - 1 : Nat) : Int), .func (.func 64) #[] #[.pointer (some ⟨w2.heap.size, 0, none⟩)], .int .i64 (x.1 : Int), undef, undef, undef, undef, undef, undef, undef, undef, undef, undef, undef, undef, undef], defers := [] }) ?assign ?body ?done ?stop
  case assign =>
    intro l x W K hK
    gi_wp2
    exact hK
  case body =>
    rintro l us x W ⟨⟨hv, hn⟩, hB⟩ hlt
    obtain ⟨u, hu⟩ := x
    have hsm := stP_small m (ksOf zs) HK.out (vals us) (by
      intro y hy
      obtain ⟨z, _, rfl⟩ := List.mem_map.1 hy
      exact z.2)
    obtain ⟨d, hd⟩ : ∃ d, d = (stP m (ksOf zs) (vals us)).1 := ⟨_, rfl⟩
    obtain ⟨k, hk⟩ : ∃ k, k = (stP m (ksOf zs) (vals us)).2 := ⟨_, rfl⟩
    have hsn : Hid (stP m (ksOf zs) (vals (us ++ [⟨u, hu⟩])) = if d.testBit u = true then (d, k) else (d ||| partP m (ksOf zs) u, k + 1)) := Lib.hid (by rw [vals_snoc, stP_snoc, hd, hk])
    rw [← hd, ← hk, vals_length] at hsm
    rw [← hd] at hv
    rw [← hk] at hn
    obtain ⟨hd2, hk6⟩ := hsm
    have hp64 : 2 ^ m ≤ 64 := Nat.pow_le_pow_right (by decide) hm6'
    have hd64 : d < 64 := by omega
    have hk7 : (k : Int) ≤ 6 := by omega
    have c1 := hv.cell
    have f1 := hv.frozen
    have c2 := hn.cell
    have f2 := hn.frozen
    have hWs : W0.heap.size ≤ W.heap.size := hB.size
    have q0 := (hB.block w.heap.size (by omega)).trans R0.out
    have x0 := (blk_cell q0 0).trans (cell2_0 _ _)
    have x1 := (blk_cell q0 1).trans (cell2_1 _ _)
    have HIW : Hid (Ints W W.heap.size a zs) := Lib.hid ((HI.out.below (HBW0.out.trans (hB.mono (by omega)))).mono (by have := HBW0.out.size; omega))
    have hlt1 : w1.heap.size + 1 < W.heap.size := by have := HSO.out; omega
    have HV := Lib.hid hv
    have HN := Lib.hid hn
    have HBW := Lib.hid hB
    clear hv hn hB hd hk q0 hp64
    cases hb : d.testBit u
    · have HBT := Lib.hid hb
      have hr64 : partP m (ksOf zs) u < 64 := Nat.lt_of_lt_of_le (partP_lt HK.out hu) (Nat.pow_le_pow_right (by decide) hm6' : 2 ^ m ≤ 2 ^ 6)
      have HO := Lib.hid (or6_at d (partP m (ksOf zs) u) hd64 hr64)
      have HRC : Hid (∀ W', Ints W' W'.heap.size a zs → Calls Tryd.prog 41 #[.agg #[.int .i64 (m : Int), .slice a zs.length c], .int .i64 ((2 ^ u : Nat) : Int)] W' fun e w' => e = .returned (.int .i64 ((partP m (ksOf zs) u : Nat) : Int)) ∧ Below W'.heap.size W' w') := Lib.hid (fun W' h => reached_any m hm6' (2 ^ u) (Nat.pow_lt_pow_right (by decide) hu) (by rw [pop_one u (by omega)]; omega) a c zs W' h HF.out)
      clear hb
      gi_wp2_with (refine ⟨trivial, ?_⟩; gi_at_call 40; refine (CallsIn.inRound l (callsIn_wide.2 (has_any d u hd64 (by omega) _))).mono ?_; rintro e w' ⟨rfl, rfl⟩; rw [HBT.out])
      gi_region_with_o (first
        | (refine ⟨trivial, ?_⟩; gi_at_call 42; refine (CallsIn.inRound l (callsIn_wide.2 (with0_any u (by omega) _))).mono ?_; rintro e w' ⟨rfl, rfl⟩)
        | (refine ⟨trivial, ?_⟩; gi_at_call 41; refine (CallsIn.inRound l (callsIn_wide.2 (HRC.out (World.drew W) HIW.out))).mono ?_; rintro e w5 ⟨rfl, hb5⟩; have e1 := (hb5.cell (p := ⟨w1.heap.size + 1, 0, none⟩) hlt1).trans c1; have ef1 := (hb5.frozen (p := ⟨w1.heap.size + 1, 0, none⟩) hlt1).trans f1))
      all_goals
        rw [HO.out]
        have e2 := (hb5.cell (p := ⟨w1.heap.size, 0, none⟩) (show w1.heap.size < W.drew.heap.size by show w1.heap.size < W.heap.size; omega)).trans c2
        have ef2 := (hb5.frozen (p := ⟨w1.heap.size, 0, none⟩) (show w1.heap.size < W.drew.heap.size by show w1.heap.size < W.heap.size; omega)).trans f2
        have hbW : Hid (Below W.heap.size W w5) := Lib.hid ⟨hb5.os, hb5.tape, hb5.output, hb5.size, hb5.block⟩
        clear hb5
        gi_wp2
        have k5 : KeepsOthers W w5 := ⟨hbW.out.size, fun k o hk _ => (hbW.out.block k (lt_of_some hk)).trans hk⟩
        have v5 : Boxed w5 (w1.heap.size + 1) 37 (.int .i64 (d : Int)) := (hbW.out.block _ hlt1).trans HV.out
        have n5 : Boxed w5 w1.heap.size 3 (.int .i64 (k : Int)) := (hbW.out.block _ (by omega)).trans HN.out
        have b5 : Below w1.heap.size W ((w5.setCell ⟨w1.heap.size + 1, 0, none⟩ (.int .i64 ((d ||| partP m (ksOf zs) u : Nat) : Int))).setCell ⟨w1.heap.size, 0, none⟩ (.int .i64 ((k : Int) + 1))) :=
          (((hbW.out.mono (by omega) : Below w1.heap.size W w5).setCell (p := ⟨w1.heap.size + 1, 0, none⟩) (by simp) _).setCell (p := ⟨w1.heap.size, 0, none⟩) (Nat.le_refl _) _)
        refine ⟨((k5.trans (KeepsOthers.setCell _ _ _)).trans (KeepsOthers.setCell _ _ _)).from _, b5, ⟨?_, ?_⟩, HBW.out.trans b5⟩
        · rw [hsn.out, if_neg (by rw [HBT.out]; decide)]
          exact (v5.set _).other (B' := w1.heap.size) (by omega) _
        · rw [hsn.out, if_neg (by rw [HBT.out]; decide)]
          have := (n5.other (B' := w1.heap.size + 1) (by omega) (.int .i64 ((d ||| partP m (ksOf zs) u : Nat) : Int))).set (.int .i64 ((k : Int) + 1))
          simpa using this
    · have HBT := Lib.hid hb
      clear hb
      gi_wp2_with (refine ⟨trivial, ?_⟩; gi_at_call 40; refine (CallsIn.inRound l (callsIn_wide.2 (has_any d u hd64 (by omega) _))).mono ?_; rintro e w' ⟨rfl, rfl⟩; rw [HBT.out])
      refine ⟨KeepsFrom.refl _ _, Below.refl _ _, ⟨?_, ?_⟩, HBW.out⟩
      · rw [hsn.out, if_pos HBT.out]; exact HV.out
      · rw [hsn.out, if_pos HBT.out]; exact HN.out
  case done =>
    rintro D us W hD hus ⟨⟨hv, hn⟩, hB⟩ hK
    have hu2 : vals us = List.range m := by rw [show vals us = mem (2 ^ m - 1) from hus]; exact mem_full m hm6'
    rw [hu2, (stP_range m (ksOf zs) HK.out m (Nat.le_refl _)).2] at hn
    have c2 := hn.cell
    have HBW := Lib.hid hB
    clear hv hn hB
    gi_wp2
    refine ⟨by simp, .inl ⟨_, _, rfl, run_takeDeferred hK, ?_⟩⟩
    exact ⟨_, results_tmp2 rfl _ _ _, rfl, (HBW0.out.trans (HBW.out.mono (by omega))).trans (belowK_b (w := w) (Nat.le_refl _) W D _ _ (by have := HSO.out; omega) hK rfl rfl)⟩
  case stop =>
    rintro D c pre W _ _ h _
    exact h.elim

end Go.Proofs.YtphddemilibooaaDoor

/- It is proved what FamilyParts of the model and of the program return for all families; conditions: those of each statement. -/
namespace Go.Proofs.YtphddemilibooaaDoor
open Go.RowKit

theorem implParts_any (m : Int) (a : Option Addr) (c : Nat) (zs : List Int) (w : World) (ha : Ints w w.heap.size a zs) (hT : Tab w) (hx : zs.length ≤ 1048576) :
    Calls Tryd.prog 15 #[.agg #[.int .i64 m, .slice a zs.length c]] w (RetIB w (partsZ m zs) (famIn m zs)) := by
  cases hf : famIn m zs
  · rw [show partsZ m zs = 0 from by simp [partsZ, hf]]
    exact implParts_no m a c zs w ha hx hf
  · obtain ⟨hm1, hm6, -, -⟩ := famIn_out hf
    obtain ⟨k, rfl⟩ : ∃ k : Nat, m = (k : Int) := ⟨m.toNat, by omega⟩
    rw [show partsZ (k : Int) zs = ((cntP k (ksOf zs) k : Nat) : Int) from by simp [partsZ, hf]]
    exact implParts_yes k a c zs w ha hT hx hf

end Go.Proofs.YtphddemilibooaaDoor

/- It is proved that a family that often falls apart, drawn from bytes, is the call's own; conditions: those of each statement. -/
namespace Go.Proofs.YtphddemilibooaaDoor
open Go.RowKit

theorem own_one {W : World} {B g : Nat} {z : Int} (h : W.heap[g]? = some (.cells #[.int .i64 z] 3 (0, 0))) (hB : B ≤ g) : OwnN W B (some ⟨g, 0, none⟩) 1 1 [z] :=
  ⟨rfl, .inr ⟨g, 1, #[.int .i64 z], rfl, hB, h, Nat.le_refl _, by simp [maxLen], rfl, rfl⟩⟩

set_option maxRecDepth 100000 in
set_option maxHeartbeats 4000000 in
theorem earsD_any (mm most : Nat) (Mm M : Int) (hMm : Mm = (mm : Int)) (hM : M = (most : Int)) (hmm1 : 1 ≤ mm) (hmm : mm ≤ 6) (hmo1 : 1 ≤ most) (hmo : most ≤ 9) (R : Nat) (b : Option Addr) (n cap P : Nat) (w : World) (hD : DS w R b n cap P w) (hB : Bys w R b n) (hR : R < w.heap.size) (hn : n ≤ 1048576) (hP : P ≤ 900) :
    Calls Tryd.prog 35 #[.pointer (some ⟨R, 0, none⟩), .int .i64 Mm, .int .i64 M] w (DrawnF w R b n cap (P + 10) most) := by
  subst hMm
  subst hM
  obtain ⟨i0, hi0, hz0, hz1, hz2⟩ := info_parts Tryd.info3
  have HD0 := Lib.hid (hD.alloc (.cells #[.int .i64 0, .slice none 0 0] 25) hR)
  have HB := Lib.hid hB
  have HX0 : Hid (HasBlk (w.alloc (.cells #[.int .i64 0, .slice none 0 0] 25)) w.heap.size #[.int .i64 0, .slice none 0 0] 25) := Lib.hid (alloc_new w _)
  clear hD hB
  go_enter Tryd.func35, Tryd.ntmps35
  go_wp2_with fail
  refine (pickD HD0.out HB.out hR hn (by omega) _ (by omega) (by omega)).mono ?_
  rintro e w1 ⟨r1, rfl, h1, D1, g1⟩
  have hr1 : r1 < 6 := by have := h1 (by omega); omega
  have HX1 : Hid (HasBlk w1 w.heap.size #[.int .i64 0, .slice none 0 0] 25) := Lib.hid (HX0.out.kept g1 (by simp; omega))
  have HD1 := Lib.hid D1
  have hs1 : w.heap.size < w1.heap.size := lt_of_some HX1.out
  clear D1 g1 h1 HX0 HD0
  go_wp2_with fail
  refine (pickD HD1.out HB.out hR hn (by omega) _ (by omega) (by omega)).mono ?_
  rintro e w2 ⟨r2, rfl, h2, D2, g2⟩
  have HX2 : Hid (HasBlk w2 w.heap.size #[.int .i64 0, .slice none 0 0] 25) := Lib.hid (HX1.out.kept g2 (by simp; omega))
  have HD2 := Lib.hid D2
  have hs2 : w.heap.size < w2.heap.size := lt_of_some HX2.out
  clear D2 g2 h2 HX1 HD1
  by_cases h0 : r2 = 0
  · subst h0
    go_wp2_with fail
    refine (someD_any mm most _ _ rfl rfl hmm1 hmm hmo R b n cap (P + 2) w2 HD2.out.rebase (HB.out.kept hR HD2.out.gr) (by omega) hn (by omega)).mono ?_
    rintro e w3 ⟨m, a, zs, c, rfl, ⟨hl, hm1, hm6⟩, ho, hd⟩
    have q := HX2.out.kept hd.gr (by simp; omega)
    have d0 := (blk_cell q 0).trans (cell2_0 _ _)
    have d1 := (blk_cell q 1).trans (cell2_1 _ _)
    have f0 := blk_frozen q 0
    have f1 := blk_frozen q 1
    have HO := Lib.hid ho
    have HD := Lib.hid (hd.over HD2.out.gr)
    clear ho hd q
    go_wp2
    refine bodyPost_ret (v := .agg #[.int .i64 m, .slice a zs.length c]) (by simp [results, Tryd.results35, go_sem, d0, d1]) rfl ?_
    refine ⟨m, a, zs, c, rfl, ⟨hl, hm1, hm6⟩, ?_, ?_⟩
    · exact own_mono (B' := w.heap.size) (ownsRow_setCell_below (ownsRow_setCell_below (show OwnI w3 w2.heap.size _ zs from HO.out) (a := ⟨w.heap.size, 0, none⟩) hs2 _) (a := ⟨w.heap.size, 1, none⟩) hs2 _) (by omega)
    · exact ((HD.out.step (only_setCell (p := ⟨w.heap.size, 0, none⟩) (World.grownBy.refl _ (some w.heap.size)) rfl _) (fun g e => by injection e; omega) hR).step (only_setCell (p := ⟨w.heap.size, 1, none⟩) (World.grownBy.refl _ (some w.heap.size)) rfl _) (fun g e => by injection e; omega) hR).mono (by omega)
  · have hb1 : ((r2 : Int) == 0) = false := by rw [beq_eq_false_iff_ne]; omega
    have hb2 : (r2 == 0) = false := by rw [beq_eq_false_iff_ne]; exact h0
    clear h0
    go_wp2_with fail
    refine (pickD HD2.out HB.out hR hn (by omega) _ (by omega) (by omega)).mono ?_
    rintro e w3 ⟨r3, rfl, h3, D3, g3⟩
    have hr3 : r3 < most := by have := h3 (by omega); omega
    have HX3 : Hid (HasBlk w3 w.heap.size #[.int .i64 0, .slice none 0 0] 25) := Lib.hid (HX2.out.kept g3 (by simp; omega))
    have HD3 := Lib.hid D3
    clear D3 g3 h3 HX2 HD2
    go_wp2_with fail
    refine (pickX HD3.out HB.out hR hn (by omega) _).mono ?_
    rintro e w4 ⟨r4, rfl, -, D4, g4⟩
    have HX4 : Hid (HasBlk w4 w.heap.size #[.int .i64 0, .slice none 0 0] 25) := Lib.hid (HX3.out.kept g4 (by simp; omega))
    have hs4 : w.heap.size < w4.heap.size := lt_of_some HX4.out
    have HO4 : Hid (OwnN (w4.alloc (.cells #[.int .i64 (r4 : Int)] 3)) (w.heap.size + 1) (some ⟨w4.heap.size, 0, none⟩) 1 1 [(r4 : Int)]) := Lib.hid (own_one (alloc_new w4 _) (by omega))
    have HD4 := Lib.hid D4
    have hc0 := HO4.out.cell (j := 0) (by omega)
    simp only [List.getElem?_cons_zero, Option.getD_some] at hc0
    clear D4 g4 HX3 HD3
    go_wp2
    go_loopg [9, 10, 11, 12, 13] r3 (fun g s9 s10 s11 s12 s13 wr => ∃ (j : Nat) (a' : Option Addr) (c' : Nat) (zs : List Int) (u : Int), 1 ≤ j ∧ j + g = 1 + r3 ∧ s11 = .int .i64 (j : Int) ∧ s9 = .slice a' j c' ∧ s10 = .int .i64 u ∧ Hid (OwnN wr (w.heap.size + 1) a' j c' zs ∧ HasBlk wr w.heap.size #[.int .i64 0, .slice none 0 0] 25 ∧ DS w R b n cap (P + 4 + 3 * j) wr))
    case atStart => exact ⟨1, _, _, _, _, Nat.le_refl _, by omega, rfl, rfl, rfl, HO4.out, HX4.out.alloc _, (HD4.out.alloc _ hR).mono (by omega)⟩
    case round =>
      obtain ⟨j, a', c', zs, u, hj1, hjg, rfl, rfl, rfl, HI⟩ := hrel
      clear HX4 HO4 HD4
      cases gk with
      | zero =>
        obtain rfl : j = 1 + r3 := by omega
        have q := HI.out.2.1
        have d0 := (blk_cell q 0).trans (cell2_0 _ _)
        have d1 := (blk_cell q 1).trans (cell2_1 _ _)
        have f0 := blk_frozen q 0
        have f1 := blk_frozen q 1
        have hl : zs.length = 1 + r3 := HI.out.1.len
        have HL := Lib.hid hl
        clear q hl
        go_wp2
        refine bodyPost_ret (v := .agg #[.int .i64 ((1 + r1 : Nat) : Int), .slice a' (1 + r3) c']) (by simp [results, Tryd.results35, go_sem, d0, d1]) rfl ?_
        refine ⟨((1 + r1 : Nat) : Int), a', zs, c', by rw [HL.out], ⟨by have := HL.out; omega, by omega, by omega⟩, ?_, ?_⟩
        · unfold OwnI
          rw [HL.out]
          exact ownsRow_base (ownsRow_setCell_below (ownsRow_setCell_below HI.out.1 (a := ⟨w.heap.size, 0, none⟩) (by show w.heap.size < w.heap.size + 1; omega) _) (a := ⟨w.heap.size, 1, none⟩) (by show w.heap.size < w.heap.size + 1; omega) _) (by omega)
        · exact ((HI.out.2.2.step (only_setCell (p := ⟨w.heap.size, 0, none⟩) (World.grownBy.refl _ (some w.heap.size)) rfl _) (fun g e => by injection e; omega) hR).step (only_setCell (p := ⟨w.heap.size, 1, none⟩) (World.grownBy.refl _ (some w.heap.size)) rfl _) (fun g e => by injection e; omega) hR).mono (by omega)
      | succ g =>
        have hlt : (j : Int) < 1 + (r3 : Int) := by omega
        have hj0 : (0 : Int) ≤ (j : Int) := by omega
        obtain ⟨gA, rfl, hgA, -⟩ := HI.out.1.addr (by omega)
        have HOd : Hid (OwnN wr.drew (w.heap.size + 1) (some ⟨gA, 0, none⟩) j c' zs) := Lib.hid HI.out.1
        have HDd := Lib.hid HI.out.2.2.drew
        have HXd : Hid (HasBlk wr.drew w.heap.size #[.int .i64 0, .slice none 0 0] 25) := Lib.hid HI.out.2.1
        have hmx : Tryd.prog.follows .mixedOrders = true := by kernel_rfl
        go_wp2
        go_region_with (first
          | (go_at_call 62; (with_reducible refine (pickX (HDm.out) HB.out hR hn (by omega) (j : Int)).mono ?_); rintro e wl ⟨rl, rfl, hl', Dl, gl⟩; have hrl : rl < j := (by have := hl' (by omega); omega); have hrl0 : (0 : Int) ≤ (rl : Int) := (by omega); have hrlj : (rl : Int) < (j : Int) := (by omega); have hcl := (own_grown HOm.out gl (by omega) : OwnN wl (w.heap.size + 1) (some ⟨gA, 0, none⟩) j c' zs).cell (j := rl) hrl; obtain ⟨z, hz⟩ : ∃ z, z = zs[rl]?.getD 0 := ⟨_, rfl⟩; rw [← hz] at hcl; clear hz)
          | (go_at_call 62; (with_reducible refine (pickX (HDd.out) HB.out hR hn (by omega) (j : Int)).mono ?_); rintro e wl ⟨rl, rfl, hl', Dl, gl⟩; have hrl : rl < j := (by have := hl' (by omega); omega); have hrl0 : (0 : Int) ≤ (rl : Int) := (by omega); have hrlj : (rl : Int) < (j : Int) := (by omega); have HOl : Hid (OwnN wl (w.heap.size + 1) (some ⟨gA, 0, none⟩) j c' zs) := Lib.hid (own_grown HOd.out gl (by omega)); have hcl := HOl.out.cell (j := rl) hrl; obtain ⟨z, hz⟩ : ∃ z, z = zs[rl]?.getD 0 := ⟨_, rfl⟩; rw [← hz] at hcl; clear hz; have HDl := Lib.hid Dl)
          | (go_at_call 62; refine (pickX (HDl.out) HB.out hR hn (by omega) _).mono ?_; rintro e wm ⟨rm, rfl, hm', Dm, gm⟩; have hcm := (gm.block gA (lt_of_cell hcl) (fun e => by injection e; omega)); have hcl2 : wm.cell? ⟨gA, rl, none⟩ = some (.int .i64 z) := (World.cell?_of_block (a := ⟨gA, rl, none⟩) hcm).trans hcl; clear hcm)
          | (go_at_call 62; refine (pickX (HDd.out) HB.out hR hn (by omega) _).mono ?_; rintro e wm ⟨rm, rfl, hm', Dm, gm⟩; have HOm : Hid (OwnN wm (w.heap.size + 1) (some ⟨gA, 0, none⟩) j c' zs) := Lib.hid (own_grown HOd.out gm (by omega)); have HDm := Lib.hid Dm))
        all_goals
          first
            | (have HQ : Hid (OwnN wm (w.heap.size + 1) (some ⟨gA, 0, none⟩) j c' zs ∧ HasBlk wm w.heap.size #[.int .i64 0, .slice none 0 0] 25 ∧ DS w R b n cap (P + 4 + 3 * j + 2) wm) := Lib.hid ⟨own_grown HOl.out gm (by omega), (HXd.out.kept gl (by simp; omega)).kept gm (by simp; omega), Dm⟩
               obtain ⟨wq, hwq⟩ : ∃ wq, wq = wm := ⟨wm, rfl⟩
               subst hwq)
            | (have HQ : Hid (OwnN wl (w.heap.size + 1) (some ⟨gA, 0, none⟩) j c' zs ∧ HasBlk wl w.heap.size #[.int .i64 0, .slice none 0 0] 25 ∧ DS w R b n cap (P + 4 + 3 * j + 2) wl) := Lib.hid ⟨own_grown HOm.out gl (by omega), (HXd.out.kept gm (by simp; omega)).kept gl (by simp; omega), Dl⟩
               obtain ⟨wq, hwq⟩ : ∃ wq, wq = wl := ⟨wl, rfl⟩
               subst hwq)
          clear hcl Dl Dm gl gm hl' hm' hrl0 hrlj
          try clear hcl2
          go_wp2_with fail
          refine (pickX HQ.out.2.2 HB.out hR hn (by omega) _).mono ?_
          rintro e w5 ⟨r5, rfl, -, D5, g5⟩
          have HO5 : Hid (OwnN w5 (w.heap.size + 1) (some ⟨gA, 0, none⟩) j c' zs) := Lib.hid (own_grown HQ.out.1 g5 (by omega))
          have HX5 : Hid (HasBlk w5 w.heap.size #[.int .i64 0, .slice none 0 0] 25) := Lib.hid (HQ.out.2.1.kept g5 (by simp; omega))
          have HD5 := Lib.hid D5
          have hs5 : w.heap.size < w5.heap.size := lt_of_some HX5.out
          clear D5 g5
          go_wp2_with (at_builtin; refine wpList_append_own _ rfl _ _ 23 rfl (w.heap.size + 1) 3 i0 (.int .i64 0) 1 8 Tryd.underlying23 hi0 hz0 hz1 hz2 rfl (by decide) _ _ _ rfl (HO5.out.alloc _) ⟨w5.heap.size, 0, none⟩ 1 1 [.int .i64 _] rfl rfl (cell_one_new _ _ _) (by simp [Value.oneCell']) (by simp only [maxLen]; omega) (by omega) (by simp; omega) ?_; intro v' w9 hown hgrow _; obtain ⟨g', cap', rfl, _, _⟩ := World.ownsRow.form hown (by omega))
          go_roundg g
          case measure => omega
          case rel => exact ⟨j + 1, _, _, _, _, by omega, by omega, by go_num, rfl, rfl, own_more hown, (HX5.out.alloc _).kept hgrow (fun e => by have := (World.ownsRow.lt HO5.out _ e).1; omega), ((HD5.out.alloc _ hR).step hgrow (fun g e => by have := (World.ownsRow.lt HO5.out g e).1; omega) hR).mono (by omega)⟩

end Go.Proofs.YtphddemilibooaaDoor

/- It is proved that the families of chapter 6, drawn from bytes, are the call's own; conditions: those of each statement. -/
namespace Go.Proofs.YtphddemilibooaaDoor
open Go.RowKit

set_option maxRecDepth 100000 in
set_option maxHeartbeats 2000000 in
theorem drawEarForest_any (a : Option Addr) (n cap : Nat) (w : World) (hb : Bys w w.heap.size a n) (hn : n ≤ 1048576) (hc : n ≤ cap) (hc2 : cap ≤ 9223372036854775807) :
    Calls Tryd.prog 12 #[.slice a n cap] w (DrawnOne w) := by
  have ha : n ≠ 0 → ∃ g off, a = some ⟨g, off, none⟩ := fun h => by obtain ⟨g, off, e, _⟩ := hb.resolve_left h; exact ⟨g, off, e⟩
  have HB := Lib.hid hb
  clear hb
  go_enter Tryd.func12, Tryd.ntmps12
  go_wp2_with fail
  refine (openD_any a n cap _ hn hc hc2 ha).mono ?_
  rintro e w1 ⟨k, hk, rfl, rfl⟩
  have b1 := below2 w (.cells #[.int .i64 0, .slice none 0 0] 25) (.cells #[.slice a k cap, .int .i64 0] 77)
  have HD1 : Hid (DS ((w.alloc (.cells #[.int .i64 0, .slice none 0 0] 25)).alloc (.cells #[.slice a k cap, .int .i64 0] 77)) (w.heap.size + 1) a k cap 0 ((w.alloc (.cells #[.int .i64 0, .slice none 0 0] 25)).alloc (.cells #[.slice a k cap, .int .i64 0] 77))) := Lib.hid ⟨⟨0, Nat.le_refl _, alloc2_1 w _ _⟩, World.grownBy.refl _ _⟩
  have HB1 := Lib.hid ((HB.out.below b1).fewer (B' := w.heap.size + 1) (by omega) hk)
  have HX : Hid (HasBlk ((w.alloc (.cells #[.int .i64 0, .slice none 0 0] 25)).alloc (.cells #[.slice a k cap, .int .i64 0] 77)) w.heap.size #[.int .i64 0, .slice none 0 0] 25) := Lib.hid (alloc2_0 w _ _)
  have HBL := Lib.hid b1
  clear b1
  go_wp2_with fail
  refine (earsD_any 6 3 6 3 rfl rfl (by decide) (by decide) (by decide) (by decide) (w.heap.size + 1) a k cap 0 _ HD1.out HB1.out (by simp) (by omega) (by omega)).mono ?_
  rintro e w2 ⟨m, a2, zs, c2, rfl, ⟨hl, -, -⟩, ho, D2⟩
  have q0 := HX.out.kept D2.gr (by simp)
  have d0 := (blk_cell q0 0).trans (cell2_0 _ _)
  have d1 := (blk_cell q0 1).trans (cell2_1 _ _)
  have f0 := blk_frozen q0 0
  have f1 := blk_frozen q0 1
  have HO : Hid (OwnI w2 (w.heap.size + 2) (.slice a2 zs.length c2) zs) := Lib.hid (own_mono ho (by simp))
  have HBW := Lib.hid (HBL.out.trans ((Below.refl w.heap.size _).grown D2.gr (by simp; omega) (fun g e => by injection e; omega)))
  clear ho D2 q0
  go_wp2
  refine bodyPost_ret (v := .agg #[.int .i64 m, .slice a2 zs.length c2]) (by simp [results, Tryd.results12, go_sem, d0, d1]) rfl ?_
  refine ⟨m, a2, zs, c2, rfl, Nat.le_trans hl (by decide), ?_, ?_⟩
  · exact own_mono (ownsRow_setCell_below (ownsRow_setCell_below HO.out (a := ⟨w.heap.size, 0, none⟩) (show w.heap.size < w.heap.size + 2 by omega) _) (a := ⟨w.heap.size, 1, none⟩) (show w.heap.size < w.heap.size + 2 by omega) _) (by omega)
  · exact (HBW.out.setCell (p := ⟨w.heap.size, 0, none⟩) (Nat.le_refl _) _).setCell (p := ⟨w.heap.size, 1, none⟩) (Nat.le_refl _) _

end Go.Proofs.YtphddemilibooaaDoor
