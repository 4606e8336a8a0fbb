/- It is proved what ColourUneven of the program returns; conditions: those of each statement. -/
import Derived.RowKit
import Derived.Laws.CopyRow
import Derived.Lib.SlBuf
import Derived.Deep.QuietTactic
import Derived.RangeFuncNested
import Derived.RangeFuncBound
import Derived.RangeFuncCalls
import Derived.RangeFuncLeaves
import Derived.RangeFuncBox
import Derived.RangeFuncWrites
import Derived.StillTailTactics
import Derived.Maps.OwnIn
import Derived.Maps.Ext
import Derived.DeepKeys4
import Derived.MapKept
import Derived.Test.YtckbhhaigpajpaaDoorRows
import Derived.WalkKit
import Derived.WalkSpells
import Derived.ProofKit
import Derived.OpenShut
import Derived.ShutString
import Derived.ChangeOld
import Derived.Below
import Derived.Deep.RegionHeld3
import Derived.BigQuiet
import Derived.Lib.Hide
import Derived.Lib.SmallJoins
import Derived.Outline
import Derived.Laws.MakeOwn
import Derived.Laws.OwnMore
import Derived.IntWalk
import Derived.Maps.AppendAt
import Derived.Deep.RegionLaw
import Derived.Deep.AppendLies
import Derived.Lib.AppendZeros
import Derived.OwnWalk
import Derived.Lib.SlicesCompact
import Derived.Lib.OwnBridge
import Derived.OrdersIn
import Derived.TacticsIn
import Derived.Shelf.Sort.Plain
import Derived.Shelf.Slices.In.SortNone
import Derived.Shelf.Slices.CompactI
import Derived.Ground.Names2Prog
import Derived.Lib.SliceRun
import Derived.Shelf.Abstract
import Derived.Shelf.RegionOpen
import Derived.OwnWalkIn
import Derived.TacticsInMore
import Derived.LoopNIn
import Derived.LoopIn
import Derived.StillTail
import Derived.StillTactics
import Derived.Shelf.Spec.TrailingZeros
import Derived.Deep.LoopGhost
import Derived.Test.YtckbhhaigpajpaaDoorRaaa
import Derived.Test.YtckbhhaigpajpaaDoorRaab
import Derived.Test.YtckbhhaigpajpaaDoorRaac
import Derived.Test.YtckbhhaigpajpaaDoorJl
import Derived.Test.YtckbhhaigpajpaaDoorRaaq
import Derived.Test.YtckbhhaigpajpaaDoorRaad
import Derived.Test.YtckbhhaigpajpaaDoorRaaf
import Derived.Test.YtckbhhaigpajpaaDoorRaal
import Derived.Test.YtckbhhaigpajpaaDoorRaag
import Derived.Test.YtckbhhaigpajpaaDoorRaae
import Derived.Test.YtckbhhaigpajpaaDoorRaar
import Derived.Test.YtckbhhaigpajpaaDoorRaau
import Derived.Test.YtckbhhaigpajpaaDoorWr
namespace Go.Proofs.YtckbhhaigpajpaaDoor
open Go.RowKit Go.Shelf

attribute [local go_sem] Oper.semAt_some

theorem bools_putObj {A : World} {B l : Nat} {o : Obj} {a : Option Addr} {zs : List Bool} (h : Bools A B a zs) (hl : ∃ o', A.heap[l]? = some o' ∧ o'.isCells = false) : Bools (A.putObj l o) B a zs := by
  rcases h with h | ⟨g, off, e, hg, hc⟩
  · exact .inl h
  · by_cases hz : zs = []
    · exact .inl hz
    · refine .inr ⟨g, off, e, hg, fun j hj => ?_⟩
      have hne : g ≠ l := by
        rintro rfl
        obtain ⟨o', ho, hn⟩ := hl
        have := hc 0 (List.length_pos_iff.2 hz)
        cases o' <;> simp [World.cell?, ho] at this
        cases hn
      exact (World.cell?_of_block (a := ⟨g, off + j, none⟩) (World.putObj_heap_other hne)).trans (hc j hj)

set_option maxRecDepth 100000 in
set_option maxHeartbeats 4000000 in
theorem implColourUneven_any (m : Int) (a : Option Addr) (c : Nat) (zs : List Int) (w : World) (ha : Ints w w.heap.size a zs) (hT : Tab w) (hx : zs.length ≤ 1048576) :
    Calls Tryd.prog 16 #[.agg #[.int .i64 m, .slice a zs.length c]] w (RetIB w (outCU m zs) (famIn m zs)) := by
  have HB0 := Lib.hid (below1 w (.cells #[.int .i64 m, .slice a zs.length c] 25))
  have HA := Lib.hid (ha.below HB0.out)
  have HA0 := Lib.hid ha
  clear ha
  cases hf : famIn m zs
  · have HF := Lib.hid hf
    have HZ : Hid (outCU m zs = 0) := Lib.hid (by unfold outCU; rw [hf]; rfl)
    clear hf hT
    go_enter Tryd.func16, Tryd.ntmps16
    go_wp2_with fail
    refine (implFamilyIn_any _ _ _ zs _ (HA.out.mono (by simp)) hx).mono ?_
    rintro e w1 ⟨rfl, hb⟩
    rw [HF.out]
    have HB := Lib.hid (HB0.out.trans (hb.mono (by simp)))
    clear hb
    go_wp2
    go_ret2
    exact ⟨by rw [HZ.out]; rfl, HB.out⟩
  · have HF := Lib.hid hf
    obtain ⟨m, rfl, hm1, hm6, hset, hl8⟩ := fam_nat2 hf
    have HZ : Hid (outCU (m : Int) zs = minW m zs (wordsL [false, true] m)) := Lib.hid (by unfold outCU; rw [hf, minW_is hm6 hset]; rfl)
    have HSET := Lib.hid hset
    have HZ64 : Hid (∀ z ∈ zs, z.toNat < 64) := Lib.hid (fun z h => p64 hm6 (hset z h).2)
    have HFI := Lib.hid (implFamilyIn_any (m : Int) a c zs _ (HA.out.mono (show w.heap.size ≤ (w.alloc (.cells #[.int .i64 (m : Int), .slice a zs.length c] 25)).heap.size by simp)) hx)
    have hpw : 2 ^ m ≤ 64 := Nat.pow_le_pow_right (n := 2) (by decide) hm6
    have hT1 := hT.lt
    have HT := Lib.hid hT
    have h16 : 1 ≤ 6 := by omega
    have hmx : Tryd.prog.follows .mixedOrders = true := by kernel_rfl
    clear hf hset hT
    refine (callsIn_wide (n := 6)).1 ?_
    refine callsIn_of_wp_marks Tryd.func16 rfl trivial ?_ rfl
    simp only [Tryd.ntmps16, List.size_toArray, List.length_cons, List.length_nil, Nat.reduceAdd, Nat.reduceSub, Array.replicate_succ, Array.replicate_zero, List.push_toArray, List.append_toArray, List.nil_append, List.cons_append]
    gi_wp2_with fail
    refine ⟨trivial, ?_⟩
    refine (callsIn_wide.2 HFI.out).mono ?_
    rintro e w1 ⟨rfl, hb⟩
    rw [HF.out]
    have b0 : HasBlk w1 w.heap.size #[.int .i64 (m : Int), .slice a zs.length c] 25 := (hb.block _ (by simp)).trans (alloc_new w _)
    have v0 := (blk_cell b0 0).trans (cell2_0 _ _)
    obtain ⟨W2, hW2, q0, q1, q2, hs2, hb2⟩ : ∃ W2, (w1.alloc (.cells #[.int .i64 (m : Int)] 3)).alloc (.cells #[.bool false, .bool true] 4) = W2 ∧ HasBlk W2 w.heap.size #[.int .i64 (m : Int), .slice a zs.length c] 25 ∧ HasBlk W2 w1.heap.size #[.int .i64 (m : Int)] 3 ∧ HasBlk W2 (w1.heap.size + 1) #[.bool false, .bool true] 4 ∧ W2.heap.size = w1.heap.size + 1 + 1 ∧ Below w1.heap.size w1 W2 :=
      ⟨_, rfl, (HasBlk.alloc b0 _).alloc _, alloc2_0 w1 _ _, alloc2_1 w1 _ _, by simp, below2 w1 _ _⟩
    have z0 := (blk_cell (show HasBlk (w1.alloc (.cells #[.int .i64 (m : Int)] 3)) w.heap.size _ 25 from HasBlk.alloc b0 _) 0).trans (cell2_0 _ _)
    obtain ⟨W3, hW3, r1, r2, hs3, hb3⟩ : ∃ W3, (W2.alloc (.cells #[.int .i64 (m : Int)] 3)).alloc (.cells #[.slice (some ⟨w1.heap.size + 1, 0, none⟩) 2 2] 54) = W3 ∧ HasBlk W3 (w1.heap.size + 1 + 1) #[.int .i64 (m : Int)] 3 ∧ HasBlk W3 (w1.heap.size + 1 + 1 + 1) #[.slice (some ⟨w1.heap.size + 1, 0, none⟩) 2 2] 54 ∧ W3.heap.size = W2.heap.size + 1 + 1 ∧ Below W2.heap.size W2 W3 :=
      ⟨_, rfl, by have := alloc2_0 W2 (.cells #[.int .i64 (m : Int)] 3) (.cells #[.slice (some ⟨w1.heap.size + 1, 0, none⟩) 2 2] 54); rwa [hs2] at this, by have := alloc2_1 W2 (.cells #[.int .i64 (m : Int)] 3) (.cells #[.slice (some ⟨w1.heap.size + 1, 0, none⟩) 2 2] 54); rwa [hs2] at this, by simp, below2 W2 _ _⟩
    have hZ1 : w.heap.size < w1.heap.size := lt_of_some b0
    have hB1 : Below w.heap.size w w1 := HB0.out.trans (hb.mono (by simp))
    have hB3 : Below w.heap.size w W3 := (hB1.trans (hb2.mono (by omega))).trans (hb3.mono (by omega))
    have p0 : HasBlk W3 w.heap.size #[.int .i64 (m : Int), .slice a zs.length c] 25 := (hb3.block _ (by omega)).trans q0
    have p1 : HasBlk W3 w1.heap.size #[.int .i64 (minW m zs [])] 3 := (hb3.block _ (by omega)).trans q1
    have p2 : HasBlk W3 (w1.heap.size + 1) #[.bool false, .bool true] 4 := (hb3.block _ (by omega)).trans q2
    have hseq := allCol1_inB (6 - 1) (w1.heap.size + 1 + 1) (w1.heap.size + 1 + 1 + 1) (w1.heap.size + 1) 2 m hm6 [false, true] (by decide) (fun j => j = w1.heap.size) W3 (by omega) (by omega) (by omega) (by omega) (by omega) (by omega) r1 r2 (fun j hj => by
      match j, hj with
      | 0, _ => exact blk_cell p2 0
      | 1, _ => exact blk_cell p2 1)
    have HSEQ := Lib.hid hseq
    have HB3 := Lib.hid hB3
    have HP0 := Lib.hid p0
    have HP1 := Lib.hid p1
    have HS3 : Hid (w1.heap.size < W3.heap.size) := Lib.hid (by omega)
    have HZ1 := Lib.hid hZ1
    have HW2 := Lib.hid hW2
    have HW3 := Lib.hid hW3
    clear hb b0 q0 q1 q2 hs2 hb2 hW2 hW3 r1 r2 hs3 hb3 hB1 hB3 p0 p1 p2 hseq hZ1
    gi_wp2_with (refine ⟨trivial, ?_⟩; gi_at_call 44; refine (callsIn_wide.2 (allColours_anyB _ _ _ _ _)).mono ?_; rintro e w' ⟨rfl, rfl⟩)
    rw [HW2.out, HW3.out]
    clear v0 z0
    refine wpIn_rangeFunc_but (n := 6) h16 (gf := 81) (lb := #[.pointer (some ⟨w1.heap.size + 1 + 1, 0, none⟩), .pointer (some ⟨w1.heap.size + 1 + 1 + 1, 0, none⟩)]) rfl (enters_of Tryd.func81 (by kernel_rfl) rfl)
      HSEQ.out (Below.refl _ _) (fun j e => by have := HS3.out; omega) (fun _ => rfl)
      (fun x A l' o h hl => ⟨h.1, by obtain ⟨a', e, hi⟩ := h.2; exact ⟨a', e, by have := bools_putObj (o := o) hi hl; simpa using this⟩⟩)
      (fun pre Wr => Boxed Wr w1.heap.size 3 (.int .i64 (minW m zs (pre.map (·.2)))) ∧ But (fun j => j = w1.heap.size) W3 Wr)
      (fun _ _ => False)
      ?own (fun _ _ _ _ h _ _ => h) ⟨HP1.out, But.refl _ _⟩
      (fun x a' _ => a' = { tmps := #[.agg #[.int .i64 (m : Int), .slice a zs.length c], .pointer (some ⟨w.heap.size, 0, none⟩), .int .i64 0, .bool false, .pointer (some ⟨w1.heap.size, 0, none⟩), x.1, .agg #[.int .i64 (m : Int), .slice a zs.length c], .bool true, .bool false, .pointer (some ⟨w.heap.size, 0, none⟩), .int .i64 (m : Int), .pointer (some ⟨w.heap.size, 0, none⟩), .int .i64 (m : Int), .slice (some ⟨w1.heap.size + 1, 0, none⟩) 2 2, .func (.func 81) #[] #[.pointer (some ⟨w1.heap.size + 1 + 1, 0, none⟩), .pointer (some ⟨w1.heap.size + 1 + 1 + 1, 0, none⟩)], x.1, undef, undef, undef, undef, undef, undef], defers := [] })
      (fun _ _ _ _ _ h _ => h) ?assign ?body ?done (fun _ _ _ _ _ h _ => h.elim)
    case own =>
      rintro s A C row ⟨hj, hb⟩ hg hr
      have hs3 := HS3.out
      refine ⟨HasBlk.kept hj hg (fun e => by have := hr _ e; omega), ?_⟩
      exact ⟨hg.os.trans hb.os, hg.tape.trans hb.tape, hg.output.trans hb.output, Nat.le_trans hb.size hg.size, fun i hi hX => (hg.block i (Nat.lt_of_lt_of_le hi hb.size) (fun e => by have := hr i e.symm; omega)).trans (hb.same i hi hX)⟩
    case assign =>
      rintro l1 pre ⟨x1, x2⟩ Wr K hI ⟨hlen, a', ha', hints⟩ hsz hK
      dsimp only at ha' hlen hints
      subst ha'
      gi_wp2
      exact hK _ _ (But.refl _ _) hI ⟨hlen, _, rfl, hints⟩ rfl
    case body =>
      rintro l1 pre ⟨x1, x2⟩ a2 Wr hl1' ⟨hj, hb⟩ ⟨hlen, a', ha', hbools⟩ rfl hlt
      dsimp only at ha' hlen hbools
      subst ha'
      have hMB := minW_bound (m := m) HZ64.out (pre.map (·.2))
      have hUB := unvI_bound (cs := x2) HZ64.out
      have hMS := minW_snoc m zs (pre.map (·.2)) x2
      have hsW : W3.heap.size ≤ Wr.heap.size := hb.size
      have hbw : Below w.heap.size w Wr := HB3.out.trans (hb.below (B := w.heap.size) HB3.out.size (fun j e => by have := HZ1.out; omega))
      have hp0 : HasBlk Wr w.heap.size #[.int .i64 (m : Int), .slice a zs.length c] 25 := (hb.same w.heap.size (lt_of_some HP0.out) (fun e => by have := HZ1.out; omega)).trans HP0.out
      have x0 := (blk_cell hp0 0).trans (cell2_0 _ _)
      have y0 := (blk_cell hp0 1).trans (cell2_1 _ _)
      have HUN := Lib.hid (uneven_any m hm6 (m : Int) a c zs a' m x2 hlen Wr.drew (show Ints Wr Wr.heap.size a zs from (HA0.out.below hbw).mono hbw.size) hx HSET.out hbools (show Tab Wr from HT.out.below hbw hT1))
      obtain ⟨U, hU⟩ : ∃ U, U = unvI x2 zs := ⟨_, rfl⟩
      obtain ⟨M, hM⟩ : ∃ M, M = minW m zs (pre.map (·.2)) := ⟨_, rfl⟩
      rw [← hU] at HUN hUB hMS
      rw [← hM] at hj hMB hMS
      have HMS : Hid (minW m zs (((pre ++ [((Value.slice a' m m, x2) : Value × List Bool)]).map (fun y => y.2))) = min M U) := Lib.hid (by rw [List.map_append]; exact hMS)
      obtain ⟨hM0, hM6⟩ := hMB
      obtain ⟨hU0, hU6⟩ := hUB
      have c1 := hj.cell
      have hlW : w1.heap.size < Wr.drew.heap.size := hj.lt
      have hlX : w.heap.size < Wr.drew.heap.size := lt_of_some hp0
      have HJ := Lib.hid hj
      have HB := Lib.hid hb
      clear hj hb hMS hU hM hbools hbw hp0
      gi_wp2
      gi_region_with_o (refine ⟨trivial, ?_⟩; gi_at_call 45; refine (CallsIn.inRound l1 (callsIn_wide.2 HUN.out)).mono ?_; rintro e w5 ⟨rfl, hb5⟩; have c2 := (hb5.cell (p := ⟨w1.heap.size, 0, none⟩) hlW).trans c1; have hj5 : Boxed w5 w1.heap.size 3 (.int .i64 M) := (hb5.block _ hlW).trans HJ.out; have g5 := hj5.frozen)
      all_goals
        have HJ5 := Lib.hid hj5
        have HB5 := Lib.hid hb5
        clear hb5 hj5
        have HBS : Hid (But (fun j => j = w1.heap.size) Wr (w5.setCell ⟨w1.heap.size, 0, none⟩ (.int .i64 (min M U)))) := Lib.hid ((But.of_below (W := Wr) (show Below Wr.heap.size Wr w5 from (Below.refl _ Wr).drew.trans HB5.out)).trans (But.setCell _ _ _ _ (fun _ => rfl)))
        refine ⟨HBS.out, ?_, HB.out.trans HBS.out⟩
        rw [HMS.out]
        exact HJ5.out.set _
    case done =>
      rintro E xs Wr hE hS ⟨hj, hb⟩ hK
      rw [hS] at hj
      have hMB := minW_bound (m := m) HZ64.out (wordsL [false, true] m)
      obtain ⟨M, hM⟩ : ∃ M, M = minW m zs (wordsL [false, true] m) := ⟨_, rfl⟩
      rw [← hM] at hj HZ
      have c1 := hj.cell
      have HK := Lib.hid hK
      have HBB : Hid (Below w.heap.size w Wr) := Lib.hid (HB3.out.trans (hb.below (B := w.heap.size) HB3.out.size (fun j e => by have := HZ1.out; omega)))
      have HE : Hid (w.heap.size ≤ E) := Lib.hid (Nat.le_trans HB3.out.size hE)
      clear hj hb hK hS hM hMB
      gi_wp2
      refine ⟨by simp, .inl ⟨_, _, rfl, run_takeDeferred HK.out, ?_⟩⟩
      refine ⟨.tuple #[.int .i64 M, .bool true], by simp [results, Tryd.results16, go_sem], ?_, ?_⟩
      · rw [HZ.out]
      · exact HBB.out.grown (grownBy_putObj' Wr E _) HBB.out.size (fun g e => by injection e with e; subst e; exact HE.out)

end Go.Proofs.YtckbhhaigpajpaaDoor
