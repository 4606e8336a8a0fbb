/- It is proved what FamilyParts of the program returns; conditions: those of each statement. -/
import Derived.Test.YtckbhhaigpajpaaDoorRows
import Derived.WalkKit
import Derived.WalkSpells
import Derived.ProofKit
import Derived.OpenShut
import Derived.ShutString
import Derived.ChangeOld
import Derived.Below
import Derived.Deep.RegionHeld3
import Derived.Deep.QuietTactic
import Derived.BigQuiet
import Derived.Lib.Hide
import Derived.Lib.SmallJoins
import Derived.Outline
import Derived.Laws.MakeOwn
import Derived.Laws.OwnMore
import Derived.IntWalk
import Derived.RangeFuncNested
import Derived.RangeFuncBound
import Derived.RangeFuncCalls
import Derived.RangeFuncLeaves
import Derived.RangeFuncBox
import Derived.Shelf.Abstract
import Derived.Shelf.RegionOpen
import Derived.OwnWalkIn
import Derived.TacticsInMore
import Derived.LoopNIn
import Derived.LoopIn
import Derived.Maps.AppendAt
import Derived.Deep.AppendLies
import Derived.OwnWalk
import Derived.StillTail
import Derived.StillTactics
import Derived.OrdersIn
import Derived.TacticsIn
import Derived.Shelf.Spec.TrailingZeros
import Derived.StillTailTactics
import Derived.Test.YtckbhhaigpajpaaDoorRaaa
import Derived.Test.YtckbhhaigpajpaaDoorRaab
import Derived.Test.YtckbhhaigpajpaaDoorRaal
import Derived.Test.YtckbhhaigpajpaaDoorRaag
import Derived.Test.YtckbhhaigpajpaaDoorRaah
import Derived.Test.YtckbhhaigpajpaaDoorRaad
import Derived.Test.YtckbhhaigpajpaaDoorRaae
import Derived.Test.YtckbhhaigpajpaaDoorRaaf
namespace Go.Proofs.YtckbhhaigpajpaaDoor
open Go.RowKit Go.Shelf

attribute [local go_sem] Oper.semAt_some

set_option maxRecDepth 100000 in
set_option maxHeartbeats 2000000 in
theorem implParts_no (m : Int) (a : Option Addr) (c : Nat) (zs : List Int) (w : World) (ha : Ints w w.heap.size a zs) (hx : zs.length ≤ 1048576) (hf : famIn m zs = false) :
    Calls Tryd.prog 49 #[.agg #[.int .i64 m, .slice a zs.length c]] w (RetIB w 0 false) := by
  have HA := Lib.hid ((ha.below (below1 w (.cells #[.int .i64 m, .slice a zs.length c] 25))).mono (B' := (w.alloc (.cells #[.int .i64 m, .slice a zs.length c] 25)).heap.size) (by simp))
  have HF := Lib.hid hf
  clear hf ha
  go_enter Tryd.func49, Tryd.ntmps49
  go_wp2_with (go_at_call 13; refine (implFamilyIn_any _ _ _ zs _ HA.out hx).mono ?_; rintro e w1 ⟨rfl, hb⟩; rw [HF.out]; have HB := Lib.hid hb; clear hb)
  go_ret2
  exact ⟨rfl, (below1 _ _).trans (HB.out.mono (by simp))⟩

set_option maxRecDepth 100000 in
set_option maxHeartbeats 6000000 in
theorem implParts_yes (m : Nat) (a : Option Addr) (c : Nat) (zs : List Int) (w : World) (ha : Ints w w.heap.size a zs) (hT : Tab w) (hx : zs.length ≤ 1048576) (hf : famIn (m : Int) zs = true) :
    Calls Tryd.prog 49 #[.agg #[.int .i64 (m : Int), .slice a zs.length c]] w (RetIB w ((cntP m (ksOf zs) m : Nat) : Int) true) := by
  have HA := Lib.hid ((ha.below (below1 w (.cells #[.int .i64 (m : Int), .slice a zs.length c] 25))).mono (B' := (w.alloc (.cells #[.int .i64 (m : Int), .slice a zs.length c] 25)).heap.size) (by simp))
  have HI := Lib.hid ha
  have HF := Lib.hid hf
  have HT := Lib.hid hT
  have HK := Lib.hid (ksm_of hf)
  obtain ⟨hm1, hm6, hl8, -⟩ := famIn_out hf
  have hm6' : m ≤ 6 := by omega
  clear hf ha hT
  refine (callsIn_wide (n := 6)).1 ?_
  refine callsIn_of_wp_marks Tryd.func49 rfl trivial ?_ rfl
  simp only [Tryd.ntmps49, List.size_toArray, List.length_cons, List.length_nil, Nat.reduceAdd, Nat.reduceSub, Array.replicate_succ, Array.replicate_zero, List.push_toArray, List.append_toArray, List.nil_append, List.cons_append]
  gi_wp2_with fail
  refine ⟨trivial, (callsIn_wide.2 (implFamilyIn_any _ _ _ zs _ HA.out hx)).mono ?_⟩
  rintro e w1 ⟨rfl, hb⟩
  rw [HF.out]
  have q0 : w1.heap[w.heap.size]? = some (.cells #[.int .i64 (m : Int), .slice a zs.length c] 25 (0, 0)) := (hb.block _ (by simp)).trans (alloc_new w _)
  have x0 := (blk_cell q0 0).trans (cell2_0 _ _)
  have x1 := (blk_cell q0 1).trans (cell2_1 _ _)
  have xs : w.heap.size + 1 ≤ w1.heap.size := by have := hb.size; simpa using this
  have HB := Lib.hid ((below1 w _).trans (hb.mono (by simp)))
  have Q0 := Lib.hid q0
  have b2 := below2 w1 (.cells #[.int .i64 0] 3) (.cells #[.int .i64 0] 41)
  have p1 : Boxed ((w1.alloc (.cells #[.int .i64 0] 3)).alloc (.cells #[.int .i64 0] 41)) w1.heap.size 3 (.int .i64 0) := alloc2_0 w1 _ _
  have p2 : Boxed ((w1.alloc (.cells #[.int .i64 0] 3)).alloc (.cells #[.int .i64 0] 41)) (w1.heap.size + 1) 41 (.int .i64 0) := alloc2_1 w1 _ _
  have z0 := (b2.cell (p := ⟨w.heap.size, 0, none⟩) (show w.heap.size < w1.heap.size by omega)).trans x0
  have z1 := (b2.cell (p := ⟨w.heap.size, 1, none⟩) (show w.heap.size < w1.heap.size by omega)).trans x1
  have P1 := Lib.hid p1
  have P2 := Lib.hid p2
  have B2 := Lib.hid b2
  clear hb q0 p1 p2 b2 x0 x1
  gi_wp2_with (refine ⟨trivial, ?_⟩; gi_at_call 35; refine (callsIn_wide.2 (fullB_any _ _ _ _ _ hm1 hm6)).mono ?_; rintro e w2 ⟨rfl, hb2⟩)
  have hfull : fullI (m : Int) = ((2 ^ m - 1 : Nat) : Int) := by
    have h1 : (1 : Nat) ≤ 2 ^ m := Nat.one_le_two_pow
    have h7 : fullI (m : Int) = ((2 ^ m : Nat) : Int) - 1 := by simp [fullI]
    omega
  rw [hfull]
  refine ⟨trivial, (callsIn_wide.2 (members_any _ _)).mono ?_⟩
  rintro e w' ⟨rfl, rfl⟩
  have hw12 : w1.heap.size + 2 ≤ w2.heap.size := by have := hb2.size; simpa using this
  have r1 : Boxed w2 w1.heap.size 3 (.int .i64 0) := (hb2.block _ (by simp; omega)).trans P1.out
  have r2 : Boxed w2 (w1.heap.size + 1) 41 (.int .i64 0) := (hb2.block _ (by simp)).trans P2.out
  have r0 := (hb2.block w.heap.size (by simp; omega)).trans ((B2.out.block w.heap.size (by omega)).trans Q0.out)
  have HBw : Hid (Below w.heap.size w w2) := Lib.hid (HB.out.trans ((B2.out.trans (hb2.mono (by simp; omega))).mono (by omega)))
  have R1 := Lib.hid (r1.alloc (.cells #[.int .i64 ((2 ^ m - 1 : Nat) : Int)] 41))
  have R2 := Lib.hid (r2.alloc (.cells #[.int .i64 ((2 ^ m - 1 : Nat) : Int)] 41))
  have R0 : Hid (HasBlk (w2.alloc (.cells #[.int .i64 ((2 ^ m - 1 : Nat) : Int)] 41)) w.heap.size #[.int .i64 (m : Int), .slice a zs.length c] 25) := Lib.hid (HasBlk.alloc r0 _)
  have HBW0 : Hid (Below w.heap.size w (w2.alloc (.cells #[.int .i64 ((2 ^ m - 1 : Nat) : Int)] 41))) := Lib.hid (HBw.out.alloc (by omega) _)
  clear hb2 r0 r1 r2 z0 z1
  gi_wp2
  have h16 : 1 ≤ 6 := by omega
  have hst := members_stops (6 - 1) (by omega) w2.heap.size w1.heap.size m (2 ^ m - 1) hm6' (by have : (1 : Nat) ≤ 2 ^ m := Nat.one_le_two_pow; omega) (w2.alloc (.cells #[.int .i64 ((2 ^ m - 1 : Nat) : Int)] 41)) (by simp) (by simp; omega) (by have := HT.out.lt; omega)
    ((blk_cell (alloc_new w2 _) 0).trans (cell1_0 _)) (HT.out.below HBW0.out HT.out.lt)
  obtain ⟨W0, hW0⟩ : ∃ W0, w2.alloc (.cells #[.int .i64 ((2 ^ m - 1 : Nat) : Int)] 41) = W0 := ⟨_, rfl⟩
  have hso : W0.heap.size = w2.heap.size + 1 := by rw [← hW0]; simp
  rw [hW0] at hst R1 R2 R0 HBW0 ⊢
  have HSO := Lib.hid hso
  clear hW0 hso
  have hmx : Tryd.prog.follows .mixedOrders = true := by kernel_rfl
  refine wpIn_rangeFunc_ownG rfl h16 (gf := 96) (lb := #[.pointer (some ⟨w2.heap.size, 0, none⟩)]) rfl trivial (enters_of Tryd.func96 (by kernel_rfl) rfl)
    hst belowK_t (belowK_b (by have := HSO.out; omega)) (Below.refl _ _) (fun _ => rfl)
    (fun us W => (Boxed W (w1.heap.size + 1) 41 (.int .i64 (((stP m (ksOf zs) (vals us)).1 : Nat) : Int)) ∧ Boxed W w1.heap.size 3 (.int .i64 (((stP m (ksOf zs) (vals us)).2 : Nat) : Int))) ∧ Below w1.heap.size W0 W)
    (fun _ _ _ => False)
    (OwnFrom.and (OwnFrom.and (Own.from (boxed_own _ _ (fun us : List (Mem m) => Value.int .i64 (((stP m (ksOf zs) (vals us)).1 : Nat) : Int))) _) (Own.from (boxed_own _ _ (fun us : List (Mem m) => Value.int .i64 (((stP m (ksOf zs) (vals us)).2 : Nat) : Int))) _)) (ownFrom_below (by have := HSO.out; omega) (by have := HSO.out; omega)))
    (fun _ _ _ _ _ hs _ _ => hs)
    ⟨⟨R2.out, R1.out⟩, Below.refl _ _⟩
    (fun x => { tmps := #[.agg #[.int .i64 (m : Int), .slice a zs.length c], .pointer (some ⟨w.heap.size, 0, none⟩), .int .i64 0, .bool false, .pointer (some ⟨w1.heap.size, 0, none⟩), .pointer (some ⟨w1.heap.size + 1, 0, none⟩), .int .i64 (x.1 : Int), .agg #[.int .i64 (m : Int), .slice a zs.length c], .bool true, .bool false, .agg #[.int .i64 (m : Int), .slice a zs.length c], .int .i64 ((2 ^ m - 1 : Nat) : Int), .func (.func 96) #[] #[.pointer (some ⟨w2.heap.size, 0, none⟩)], .int .i64 (x.1 : Int), undef, undef, undef, undef, undef, undef, undef, undef, undef, undef, undef, undef, undef], defers := [] }) ?assign ?body ?done ?stop
  case assign =>
    intro l x W K hK
    gi_wp2
    exact hK
  case body =>
    rintro l us x W ⟨⟨hv, hn⟩, hB⟩ hlt
    obtain ⟨u, hu⟩ := x
    have hsm := stP_small m (ksOf zs) HK.out (vals us) (by
      intro y hy
      obtain ⟨z, _, rfl⟩ := List.mem_map.1 hy
      exact z.2)
    obtain ⟨d, hd⟩ : ∃ d, d = (stP m (ksOf zs) (vals us)).1 := ⟨_, rfl⟩
    obtain ⟨k, hk⟩ : ∃ k, k = (stP m (ksOf zs) (vals us)).2 := ⟨_, rfl⟩
    have hsn : Hid (stP m (ksOf zs) (vals (us ++ [⟨u, hu⟩])) = if d.testBit u = true then (d, k) else (d ||| partP m (ksOf zs) u, k + 1)) := Lib.hid (by rw [vals_snoc, stP_snoc, hd, hk])
    rw [← hd, ← hk, vals_length] at hsm
    rw [← hd] at hv
    rw [← hk] at hn
    obtain ⟨hd2, hk6⟩ := hsm
    have hp64 : 2 ^ m ≤ 64 := Nat.pow_le_pow_right (by decide) hm6'
    have hd64 : d < 64 := by omega
    have hk7 : (k : Int) ≤ 6 := by omega
    have c1 := hv.cell
    have f1 := hv.frozen
    have c2 := hn.cell
    have f2 := hn.frozen
    have hWs : W0.heap.size ≤ W.heap.size := hB.size
    have q0 := (hB.block w.heap.size (by omega)).trans R0.out
    have x0 := (blk_cell q0 0).trans (cell2_0 _ _)
    have x1 := (blk_cell q0 1).trans (cell2_1 _ _)
    have HIW : Hid (Ints W W.heap.size a zs) := Lib.hid ((HI.out.below (HBW0.out.trans (hB.mono (by omega)))).mono (by have := HBW0.out.size; omega))
    have hlt1 : w1.heap.size + 1 < W.heap.size := by have := HSO.out; omega
    have HV := Lib.hid hv
    have HN := Lib.hid hn
    have HBW := Lib.hid hB
    clear hv hn hB hd hk q0 hp64
    cases hb : d.testBit u
    · have HBT := Lib.hid hb
      have hr64 : partP m (ksOf zs) u < 64 := Nat.lt_of_lt_of_le (partP_lt HK.out hu) (Nat.pow_le_pow_right (by decide) hm6' : 2 ^ m ≤ 2 ^ 6)
      have HO := Lib.hid (or6_at d (partP m (ksOf zs) u) hd64 hr64)
      have HRC : Hid (∀ W', Ints W' W'.heap.size a zs → Calls Tryd.prog 79 #[.agg #[.int .i64 (m : Int), .slice a zs.length c], .int .i64 ((2 ^ u : Nat) : Int)] W' fun e w' => e = .returned (.int .i64 ((partP m (ksOf zs) u : Nat) : Int)) ∧ Below W'.heap.size W' w') := Lib.hid (fun W' h => reached_any m hm6' (2 ^ u) (Nat.pow_lt_pow_right (by decide) hu) (by rw [pop_one u (by omega)]; omega) a c zs W' h HF.out)
      clear hb
      gi_wp2_with (refine ⟨trivial, ?_⟩; gi_at_call 84; refine (CallsIn.inRound l (callsIn_wide.2 (has_any d u hd64 (by omega) _))).mono ?_; rintro e w' ⟨rfl, rfl⟩; rw [HBT.out])
      gi_region_with_o (first
        | (refine ⟨trivial, ?_⟩; gi_at_call 85; refine (CallsIn.inRound l (callsIn_wide.2 (with0_any u (by omega) _))).mono ?_; rintro e w' ⟨rfl, rfl⟩)
        | (refine ⟨trivial, ?_⟩; gi_at_call 79; refine (CallsIn.inRound l (callsIn_wide.2 (HRC.out (World.drew W) HIW.out))).mono ?_; rintro e w5 ⟨rfl, hb5⟩; have e1 := (hb5.cell (p := ⟨w1.heap.size + 1, 0, none⟩) hlt1).trans c1; have ef1 := (hb5.frozen (p := ⟨w1.heap.size + 1, 0, none⟩) hlt1).trans f1))
      all_goals
        rw [HO.out]
        have e2 := (hb5.cell (p := ⟨w1.heap.size, 0, none⟩) (show w1.heap.size < W.drew.heap.size by show w1.heap.size < W.heap.size; omega)).trans c2
        have ef2 := (hb5.frozen (p := ⟨w1.heap.size, 0, none⟩) (show w1.heap.size < W.drew.heap.size by show w1.heap.size < W.heap.size; omega)).trans f2
        have hbW : Hid (Below W.heap.size W w5) := Lib.hid ⟨hb5.os, hb5.tape, hb5.output, hb5.size, hb5.block⟩
        clear hb5
        gi_wp2
        have k5 : KeepsOthers W w5 := ⟨hbW.out.size, fun k o hk _ => (hbW.out.block k (lt_of_some hk)).trans hk⟩
        have v5 : Boxed w5 (w1.heap.size + 1) 41 (.int .i64 (d : Int)) := (hbW.out.block _ hlt1).trans HV.out
        have n5 : Boxed w5 w1.heap.size 3 (.int .i64 (k : Int)) := (hbW.out.block _ (by omega)).trans HN.out
        have b5 : Below w1.heap.size W ((w5.setCell ⟨w1.heap.size + 1, 0, none⟩ (.int .i64 ((d ||| partP m (ksOf zs) u : Nat) : Int))).setCell ⟨w1.heap.size, 0, none⟩ (.int .i64 ((k : Int) + 1))) :=
          (((hbW.out.mono (by omega) : Below w1.heap.size W w5).setCell (p := ⟨w1.heap.size + 1, 0, none⟩) (by simp) _).setCell (p := ⟨w1.heap.size, 0, none⟩) (Nat.le_refl _) _)
        refine ⟨((k5.trans (KeepsOthers.setCell _ _ _)).trans (KeepsOthers.setCell _ _ _)).from _, b5, ⟨?_, ?_⟩, HBW.out.trans b5⟩
        · rw [hsn.out, if_neg (by rw [HBT.out]; decide)]
          exact (v5.set _).other (B' := w1.heap.size) (by omega) _
        · rw [hsn.out, if_neg (by rw [HBT.out]; decide)]
          have := (n5.other (B' := w1.heap.size + 1) (by omega) (.int .i64 ((d ||| partP m (ksOf zs) u : Nat) : Int))).set (.int .i64 ((k : Int) + 1))
          simpa using this
    · have HBT := Lib.hid hb
      clear hb
      gi_wp2_with (refine ⟨trivial, ?_⟩; gi_at_call 84; refine (CallsIn.inRound l (callsIn_wide.2 (has_any d u hd64 (by omega) _))).mono ?_; rintro e w' ⟨rfl, rfl⟩; rw [HBT.out])
      refine ⟨KeepsFrom.refl _ _, Below.refl _ _, ⟨?_, ?_⟩, HBW.out⟩
      · rw [hsn.out, if_pos HBT.out]; exact HV.out
      · rw [hsn.out, if_pos HBT.out]; exact HN.out
  case done =>
    rintro D us W hD hus ⟨⟨hv, hn⟩, hB⟩ hK
    have hu2 : vals us = List.range m := by rw [show vals us = mem (2 ^ m - 1) from hus]; exact mem_full m hm6'
    rw [hu2, (stP_range m (ksOf zs) HK.out m (Nat.le_refl _)).2] at hn
    have c2 := hn.cell
    have HBW := Lib.hid hB
    clear hv hn hB
    gi_wp2
    refine ⟨by simp, .inl ⟨_, _, rfl, run_takeDeferred hK, ?_⟩⟩
    exact ⟨_, results_tmp2 rfl _ _ _, rfl, (HBW0.out.trans (HBW.out.mono (by omega))).trans (belowK_b (w := w) (Nat.le_refl _) W D _ _ (by have := HSO.out; omega) hK rfl rfl)⟩
  case stop =>
    rintro D c pre W _ _ h _
    exact h.elim

end Go.Proofs.YtckbhhaigpajpaaDoor

/- It is proved what FamilyParts of the model and of the program return for all families; conditions: those of each statement. -/
namespace Go.Proofs.YtckbhhaigpajpaaDoor
open Go.RowKit

theorem implParts_any (m : Int) (a : Option Addr) (c : Nat) (zs : List Int) (w : World) (ha : Ints w w.heap.size a zs) (hT : Tab w) (hx : zs.length ≤ 1048576) :
    Calls Tryd.prog 49 #[.agg #[.int .i64 m, .slice a zs.length c]] w (RetIB w (partsZ m zs) (famIn m zs)) := by
  cases hf : famIn m zs
  · rw [show partsZ m zs = 0 from by simp [partsZ, hf]]
    exact implParts_no m a c zs w ha hx hf
  · obtain ⟨hm1, hm6, -, -⟩ := famIn_out hf
    obtain ⟨k, rfl⟩ : ∃ k : Nat, m = (k : Int) := ⟨m.toNat, by omega⟩
    rw [show partsZ (k : Int) zs = ((cntP k (ksOf zs) k : Nat) : Int) from by simp [partsZ, hf]]
    exact implParts_yes k a c zs w ha hT hx hf

end Go.Proofs.YtckbhhaigpajpaaDoor
