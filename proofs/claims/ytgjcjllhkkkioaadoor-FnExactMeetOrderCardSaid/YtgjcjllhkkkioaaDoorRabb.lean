/- It is proved what tiedInClubs returns for sets of at most eight members; conditions: those of each statement. -/
import Derived.RowKit
import Derived.Laws.CopyRow
import Derived.Lib.SlBuf
import Derived.Deep.QuietTactic
import Derived.RangeFuncNested
import Derived.RangeFuncBound
import Derived.RangeFuncCalls
import Derived.RangeFuncLeaves
import Derived.RangeFuncBox
import Derived.RangeFuncWrites
import Derived.StillTailTactics
import Derived.Maps.OwnIn
import Derived.Maps.Ext
import Derived.DeepKeys4
import Derived.MapKept
import Derived.Test.YtgjcjllhkkkioaaDoorRows
import Derived.WalkKit
import Derived.WalkSpells
import Derived.ProofKit
import Derived.OpenShut
import Derived.ShutString
import Derived.ChangeOld
import Derived.Below
import Derived.Deep.RegionHeld3
import Derived.BigQuiet
import Derived.Lib.Hide
import Derived.Lib.SmallJoins
import Derived.Outline
import Derived.Laws.MakeOwn
import Derived.Laws.OwnMore
import Derived.IntWalk
import Derived.Lib.AppendZeros
import Derived.Maps.AppendAt
import Derived.Deep.AppendLies
import Derived.OwnWalk
import Derived.Lib.SlicesCompact
import Derived.Lib.OwnBridge
import Derived.OrdersIn
import Derived.TacticsIn
import Derived.Shelf.Sort.Plain
import Derived.Shelf.Slices.In.SortNone
import Derived.Shelf.Slices.CompactI
import Derived.Ground.Names2Prog
import Derived.Lib.SliceRun
import Derived.Laws.BitsAllLaws
import Derived.Shelf.RegionOpen
import Derived.Shelf.Abstract
import Derived.OwnWalkIn
import Derived.TacticsInMore
import Derived.LoopNIn
import Derived.LoopIn
import Derived.StillTail
import Derived.StillTactics
import Derived.Shelf.Spec.TrailingZeros
import Derived.Test.YtgjcjllhkkkioaaDoorRaaa
import Derived.Test.YtgjcjllhkkkioaaDoorRaab
import Derived.Test.YtgjcjllhkkkioaaDoorRaad
import Derived.Test.YtgjcjllhkkkioaaDoorRaaf
import Derived.Test.YtgjcjllhkkkioaaDoorRaar
import Derived.Test.YtgjcjllhkkkioaaDoorIb
import Derived.Test.YtgjcjllhkkkioaaDoorId
import Derived.Test.YtgjcjllhkkkioaaDoorRaav
import Derived.Test.YtgjcjllhkkkioaaDoorRaay
import Derived.Test.YtgjcjllhkkkioaaDoorRaac
namespace Go.Proofs.YtgjcjllhkkkioaaDoor
open Go.RowKit Go.Shelf

attribute [local go_sem] Oper.semAt_some

set_option maxRecDepth 100000 in
set_option maxHeartbeats 4000000 in
theorem tiedIn8_any (k : Nat) (hk8 : k ≤ 8) (a : Option Addr) (c : Nat) (zs : List Int) (w : World) (ha : Ints w w.heap.size a zs) (h8 : zs.length ≤ 8) (hz : Sets k zs) (hT : Tab w) :
    Calls Tryd.prog 43 #[.agg #[.int .i64 (k : Int), .slice a zs.length c]] w fun e w' => e = .returned (.bool (tcB k zs)) ∧ Below w.heap.size w w' := by
  have hT1 := hT.lt
  have h16 : 1 ≤ 6 := by omega
  obtain ⟨W2, hW2, q0, q1, hs2, hb2⟩ : ∃ W2, (w.alloc (.cells #[.int .i64 (k : Int), .slice a zs.length c] 26)).alloc (.cells #[.bool false] 4) = W2 ∧ HasBlk W2 w.heap.size #[.int .i64 (k : Int), .slice a zs.length c] 26 ∧ HasBlk W2 (w.heap.size + 1) #[.bool false] 4 ∧ W2.heap.size = w.heap.size + 1 + 1 ∧ Below w.heap.size w W2 :=
    ⟨_, rfl, alloc2_0 w _ _, alloc2_1 w _ _, by simp, below2 w _ _⟩
  obtain ⟨W4, hW4, r3, hs4, hb4⟩ : ∃ W4, (W2.alloc (.cells #[.int .i64 (k : Int), .slice a zs.length c] 26)).alloc (.cells #[.int .i64 ((2 ^ k - 1 : Nat) : Int)] 59) = W4 ∧ HasBlk W4 (w.heap.size + 1 + 1 + 1) #[.int .i64 ((2 ^ k - 1 : Nat) : Int)] 59 ∧ W4.heap.size = W2.heap.size + 1 + 1 ∧ Below W2.heap.size W2 W4 :=
    ⟨_, rfl, by have := alloc2_1 W2 (.cells #[.int .i64 (k : Int), .slice a zs.length c] 26) (.cells #[.int .i64 ((2 ^ k - 1 : Nat) : Int)] 59); rwa [hs2] at this, by simp, below2 W2 _ _⟩
  have hb04 := hb2.trans (hb4.mono (show w.heap.size ≤ W2.heap.size by omega))
  have HQ0 : Hid (HasBlk W4 w.heap.size #[.int .i64 (k : Int), .slice a zs.length c] 26) := Lib.hid ((hb4.block _ (by omega)).trans q0)
  have HQ1 : Hid (HasBlk W4 (w.heap.size + 1) #[.bool false] 4) := Lib.hid ((hb4.block _ (by omega)).trans q1)
  have HQ2 : Hid (HasBlk W4 (w.heap.size + 1 + 1 + 1) #[.int .i64 ((2 ^ k - 1 : Nat) : Int)] 59) := Lib.hid r3
  have hst := partsF_stops (6 - 1) (by omega) (w.heap.size + 1 + 1 + 1) k hk8 ((2 ^ k - 1 : Nat) : Int) rfl W4 (by omega) ((blk_cell r3 0).trans (cell1_0 _))
  have HST := Lib.hid hst
  have HB4 := Lib.hid hb04
  have HI := Lib.hid ha
  have HLO : Hid (∀ s W, s < 256 → Below w.heap.size w W → Calls Tryd.prog 68 #[.agg #[.int .i64 (k : Int), .slice a zs.length c], .int .i64 ((s : Nat) : Int)] W fun e w' => e = .returned (.bool (looB zs s)) ∧ Below W.heap.size W w') := Lib.hid fun s W hs hb => loose8_any k hk8 a c zs s hs W ((ha.below hb).mono hb.size) h8 hz (hT.below hb hT1)
  have hq0 := (blk_cell q0 0).trans (cell2_0 _ _)
  have hq1 := (blk_cell q0 1).trans (cell2_1 _ _)
  rw [← hW2] at hq0 hq1
  have HW2 := Lib.hid hW2
  have HW4 := Lib.hid hW4
  have HS2 := Lib.hid hs2
  have HS4 := Lib.hid hs4
  clear ha q0 q1 r3 hb2 hb4 hb04 hst hW2 hW4 hs2 hs4 hT hz
  refine (callsIn_wide (n := 6)).1 ?_
  refine callsIn_of_wp_marks Tryd.func43 rfl trivial ?_ rfl
  simp only [Tryd.ntmps43, List.size_toArray, List.length_cons, List.length_nil, Nat.reduceAdd, Nat.reduceSub, Array.replicate_succ, Array.replicate_zero, List.push_toArray, List.append_toArray, List.nil_append, List.cons_append]
  gi_wp2_with (first
    | (refine ⟨trivial, ?_⟩; gi_at_call 67; refine (callsIn_wide.2 (full8_any _ _ _ _ _ hk8)).mono ?_; rintro e w' ⟨rfl, rfl⟩)
    | (refine ⟨trivial, ?_⟩; gi_at_call 55; refine (callsIn_wide.2 (partsW_any _ _)).mono ?_; rintro e w' ⟨rfl, rfl⟩))
  rw [HW2.out, HW4.out]
  clear hq0 hq1
  refine wpIn_rangeFunc_ownG rfl h16 (gf := 75) (lb := #[.pointer (some ⟨w.heap.size + 1 + 1 + 1, 0, none⟩)]) rfl trivial (enters_of Tryd.func75 (by kernel_rfl) rfl)
    HST.out (fun h k e => k (h e)) ?keepc (Below.refl _ _) (fun _ => rfl)
    (fun pre W => ((∀ u ∈ valsF pre, looB zs u = false) ∧ HasBlk W w.heap.size #[.int .i64 (k : Int), .slice a zs.length c] 26 ∧ HasBlk W (w.heap.size + 1) #[.bool false] 4 ∧ HasBlk W (w.heap.size + 1 + 1 + 1) #[.int .i64 ((2 ^ k - 1 : Nat) : Int)] 59) ∧ Below w.heap.size w W)
    (fun c' pre W => (c' = .ret ∧ ∃ v ∈ valsF pre, looB zs v = true ∧ HasBlk W (w.heap.size + 1) #[.bool false] 4) ∧ Below w.heap.size w W)
    ?own ?ownx
    ⟨⟨by simp [valsF], HQ0.out, HQ1.out, HQ2.out⟩, HB4.out⟩
    (fun x => { tmps := #[.agg #[.int .i64 (k : Int), .slice a zs.length c], .pointer (some ⟨w.heap.size, 0, none⟩), .pointer (some ⟨w.heap.size + 1, 0, none⟩), .int .i64 (x.1 : Int), .agg #[.int .i64 (k : Int), .slice a zs.length c], .int .i64 ((2 ^ k - 1 : Nat) : Int), .func (.func 75) #[] #[.pointer (some ⟨w.heap.size + 1 + 1 + 1, 0, none⟩)], .int .i64 (x.1 : Int), undef, undef, undef], defers := [] }) ?assign ?body ?done ?stop
  case keepc =>
    intro W' l' o o' hl' ho hoc _ hc
    have hne : w.heap.size + 1 + 1 + 1 ≠ l' := by have := HS4.out; have := HS2.out; omega
    rw [← hc]
    exact World.cell?_of_block (World.putObj_heap_other hne)
  case own =>
    rintro s A B row ⟨⟨h1, h2, h3, h4⟩, h5⟩ hg hr
    have hr' : ∀ (b : Nat) (cs : Array Value) (t : TypeId), HasBlk A b cs t → row ≠ some b := fun b cs t hb e => by
      obtain ⟨-, o, ho, hc⟩ := hr b e
      rw [show A.heap[b]? = _ from hb] at ho; cases ho; cases hc
    exact ⟨⟨h1, h2.kept hg (hr' _ _ _ h2), h3.kept hg (hr' _ _ _ h3), h4.kept hg (hr' _ _ _ h4)⟩, h5.grown hg (by have := h5.size; omega) (fun r e => by have := (hr r e).1; have := HS2.out; have := HS4.out; omega)⟩
  case ownx =>
    rintro c' s A B row ⟨⟨h1, v, h2, h3, h4⟩, h5⟩ hg hr
    have hr' : ∀ (b : Nat) (cs : Array Value) (t : TypeId), HasBlk A b cs t → row ≠ some b := fun b cs t hb e => by
      obtain ⟨-, o, ho, hc⟩ := hr b e
      rw [show A.heap[b]? = _ from hb] at ho; cases ho; cases hc
    exact ⟨⟨h1, v, h2, h3, h4.kept hg (hr' _ _ _ h4)⟩, h5.grown hg (by have := h5.size; omega) (fun r e => by have := (hr r e).1; have := HS2.out; have := HS4.out; omega)⟩
  case assign =>
    intro l x W K hK
    gi_wp2
    exact hK
  case body =>
    rintro l pre ⟨x, hxN⟩ W ⟨⟨hno, h1, h2, h3⟩, hB⟩ hlt
    obtain ⟨xx, hxx⟩ : ∃ xx : PrtF (2 ^ k), xx = ⟨x, hxN⟩ := ⟨_, rfl⟩
    have hx256 : x < 256 := p256 hk8 hxN
    have HVS : Hid (valsF (pre ++ [xx]) = valsF pre ++ [x]) := Lib.hid (by rw [valsF_snoc, hxx])
    have x0 := (blk_cell h1 0).trans (cell2_0 _ _)
    have x1 := (blk_cell h1 1).trans (cell2_1 _ _)
    have HC := Lib.hid (HLO.out x W hx256 hB)
    have HNO := Lib.hid hno
    have H1 := Lib.hid h1
    have H2 := Lib.hid h2
    have H3 := Lib.hid h3
    have HB := Lib.hid hB
    dsimp only
    rw [← hxx]
    clear h1 h2 h3 hB hxN hxx hno
    cases hl : looB zs x
    · have HL := Lib.hid hl
      rw [hl] at HC
      clear hl
      gi_wp2_with (refine ⟨trivial, ?_⟩; gi_at_call 68; refine (CallsIn.inRound l (callsIn_wide.2 HC.out)).mono ?_; rintro e w5 ⟨rfl, hb5⟩; have HB5 := Lib.hid hb5; clear hb5)
      have hks : KeepsFrom W4.heap.size W w5 := ⟨HB5.out.size, fun k o _ hk _ => (HB5.out.block k (lt_of_some hk)).trans hk⟩
      have hbw5 : Below w.heap.size W w5 := HB5.out.mono HB.out.size
      have h3' := (HB5.out.block _ (lt_of_some H3.out)).trans H3.out
      refine ⟨hks, fun _ => (blk_cell h3' 0).trans (cell1_0 _), ⟨fun u hu => ?_, (HB5.out.block _ (lt_of_some H1.out)).trans H1.out, (HB5.out.block _ (lt_of_some H2.out)).trans H2.out, h3'⟩, HB.out.trans hbw5⟩
      rw [HVS.out] at hu
      rcases List.mem_append.1 hu with h | h
      · exact HNO.out u h
      · rw [List.mem_singleton.1 h]; exact HL.out
    · have HL := Lib.hid hl
      rw [hl] at HC
      clear hl
      gi_wp2_with (refine ⟨trivial, ?_⟩; gi_at_call 68; refine (CallsIn.inRound l (callsIn_wide.2 HC.out)).mono ?_; rintro e w5 ⟨rfl, hb5⟩; have HB5 := Lib.hid hb5; have h2' : HasBlk w5 (w.heap.size + 1) #[.bool false] 4 := (HB5.out.block _ (lt_of_some H2.out)).trans H2.out; have H2' := Lib.hid h2'; have e0 := (blk_cell h2' 0).trans (cell1_0 _); have e1 := blk_frozen h2' 0; clear hb5 h2')
      have hks : KeepsFrom W4.heap.size W w5 := ⟨HB5.out.size, fun k o _ hk _ => (HB5.out.block k (lt_of_some hk)).trans hk⟩
      have hbw5 : Below w.heap.size W w5 := HB5.out.mono HB.out.size
      refine ⟨hks.trans ((KeepsOthers.setCell _ _ _).from _), ⟨rfl, x, by rw [HVS.out]; simp, HL.out, Boxed.set _ H2'.out⟩, (HB.out.trans hbw5).setCell (p := ⟨w.heap.size + 1, 0, none⟩) (by show w.heap.size ≤ w.heap.size + 1; omega) _⟩
  case done =>
    rintro E ys W hE hys ⟨⟨hno, h1, h2, h3⟩, hB⟩ hK
    rw [hys] at hno
    have HF : Hid (tcB k zs = true) := Lib.hid (List.all_eq_true.2 fun s hs => by rw [hno s hs]; rfl)
    have e0 := (blk_cell h2 0).trans (cell1_0 _)
    have e1 := blk_frozen h2 0
    have hK2 := (KeepsOthers.setCell W ⟨w.heap.size + 1, 0, none⟩ (.bool true)).same E _ hK rfl
    have hne2 : w.heap.size + 1 ≠ E := fun e => by subst e; rw [show W.heap[w.heap.size + 1]? = _ from h2] at hK; cases hK
    have hb3 : HasBlk ((W.setCell ⟨w.heap.size + 1, 0, none⟩ (.bool true)).putObj E (.deferred none)) (w.heap.size + 1) #[.bool true] 4 := (World.putObj_heap_other (by first | exact hne2 | exact Ne.symm hne2)).trans (Boxed.set _ h2)
    have g1 := (blk_cell hb3 0).trans (cell1_0 _)
    have HB := Lib.hid (hB.setCell (p := ⟨w.heap.size + 1, 0, none⟩) (by show w.heap.size ≤ w.heap.size + 1; omega) (.bool true))
    have HK2 := Lib.hid hK2
    have HEs : Hid (w.heap.size ≤ E) := Lib.hid (by have := HS2.out; have := HS4.out; omega)
    clear hno h1 h2 h3 hB hK hK2 hb3 hys
    gi_wp2
    refine ⟨by simp, .inl ⟨_, _, rfl, run_takeDeferred HK2.out, ?_⟩⟩
    exact ⟨.bool true, by simp [results, Tryd.f43, go_sem, g1], by rw [HF.out], HB.out.trans (belowK_b (w := w) (Nat.le_refl _) _ E _ _ HEs.out HK2.out rfl rfl)⟩
  case stop =>
    rintro E c' pre W hE hp ⟨⟨rfl, v, hv, hf, h3⟩, hB⟩ hK
    have HF : Hid (tcB k zs = false) := Lib.hid (by
      obtain ⟨j, hj, hr⟩ := hp
      refine List.all_eq_false.2 ⟨v, ?_, by rw [hf]; simp⟩
      rw [hr] at hv
      have := List.mem_range.1 hv
      exact List.mem_range.2 (by omega))
    have hne2 : w.heap.size + 1 ≠ E := fun e => by subst e; rw [show W.heap[w.heap.size + 1]? = _ from h3] at hK; cases hK
    have hb3 : HasBlk (W.putObj E (.deferred none)) (w.heap.size + 1) #[.bool false] 4 := (World.putObj_heap_other (by first | exact hne2 | exact Ne.symm hne2)).trans h3
    have g1 := (blk_cell hb3 0).trans (cell1_0 _)
    have HB := Lib.hid hB
    have HK2 := Lib.hid hK
    have HEs : Hid (w.heap.size ≤ E) := Lib.hid (by have := HS2.out; have := HS4.out; omega)
    clear hv hf h3 hB hK hb3 hp
    gi_wp2
    refine ⟨by simp, .inl ⟨_, _, rfl, run_takeDeferred HK2.out, ?_⟩⟩
    exact ⟨.bool false, by simp [results, Tryd.f43, go_sem, g1], by rw [HF.out], HB.out.trans (belowK_b (w := w) (Nat.le_refl _) _ E _ _ HEs.out HK2.out rfl rfl)⟩

end Go.Proofs.YtgjcjllhkkkioaaDoor

/- It is proved what CoverIn of the program and of the reference model returns; conditions: those of each statement. -/
namespace Go.Proofs.YtgjcjllhkkkioaaDoor
open Go.RowKit

theorem fam_nat2 {m : Int} {zs : List Int} (h : famIn m zs = true) : ∃ k : Nat, m = (k : Int) ∧ 1 ≤ k ∧ k ≤ 6 ∧ Sets k zs ∧ zs.length ≤ 8 := by
  obtain ⟨h1, h2, h3, -⟩ := famIn_out h
  obtain ⟨k, rfl⟩ : ∃ k : Nat, m = (k : Int) := ⟨m.toNat, by omega⟩
  exact ⟨k, rfl, by omega, by omega, sets_of_fam h, h3⟩

end Go.Proofs.YtgjcjllhkkkioaaDoor
