/- It is proved what SpeakerBad of the program and of the reference model returns; conditions: those of each statement. -/
import Derived.RowKit
import Derived.Laws.CopyRow
import Derived.Lib.SlBuf
import Derived.Deep.QuietTactic
import Derived.RangeFuncNested
import Derived.RangeFuncBound
import Derived.RangeFuncCalls
import Derived.RangeFuncLeaves
import Derived.RangeFuncBox
import Derived.RangeFuncWrites
import Derived.StillTailTactics
import Derived.Maps.OwnIn
import Derived.Maps.Ext
import Derived.DeepKeys4
import Derived.MapKept
import Derived.Test.YtnkedijlddakbaaDoorRows
import Derived.WalkKit
import Derived.WalkSpells
import Derived.ProofKit
import Derived.OpenShut
import Derived.ShutString
import Derived.ChangeOld
import Derived.Below
import Derived.Deep.RegionHeld3
import Derived.BigQuiet
import Derived.Lib.Hide
import Derived.Lib.SmallJoins
import Derived.Outline
import Derived.Laws.MakeOwn
import Derived.Laws.OwnMore
import Derived.IntWalk
import Derived.Maps.AppendAt
import Derived.Lib.AppendZeros
import Derived.Deep.AppendLies
import Derived.OwnWalk
import Derived.Lib.SlicesCompact
import Derived.Lib.OwnBridge
import Derived.OrdersIn
import Derived.TacticsIn
import Derived.Shelf.Sort.Plain
import Derived.Shelf.Slices.In.SortNone
import Derived.Shelf.Slices.CompactI
import Derived.Ground.Names2Prog
import Derived.Lib.SliceRun
import Derived.Shelf.RegionOpen
import Derived.Shelf.Abstract
import Derived.OwnWalkIn
import Derived.TacticsInMore
import Derived.LoopNIn
import Derived.LoopIn
import Derived.StillTail
import Derived.StillTactics
import Derived.Shelf.Spec.TrailingZeros
import Derived.Test.YtnkedijlddakbaaDoorMraa
import Derived.Test.YtnkedijlddakbaaDoorMrab
import Derived.Test.YtnkedijlddakbaaDoorMrad
import Derived.Test.YtnkedijlddakbaaDoorMrag
import Derived.Test.YtnkedijlddakbaaDoorMrah
import Derived.Test.YtnkedijlddakbaaDoorMrak
import Derived.Test.YtnkedijlddakbaaDoorMb
import Derived.Test.YtnkedijlddakbaaDoorMrac
import Derived.Test.YtnkedijlddakbaaDoorMraf
namespace Go.Proofs.YtnkedijlddakbaaDoor
open Go.RowKit Go.Shelf

attribute [local go_sem] Oper.semAt_some

/-- The first bad one of some sets of places. -/
def badF (zs : List Int) (qs : List Nat) : Option Nat := qs.find? fun q => decide (0 < overP zs q)

theorem badF_snoc (zs : List Int) (qs : List Nat) (q : Nat) (h : badF zs qs = none) : badF zs (qs ++ [q]) = if 0 < overP zs q then some q else none := by
  unfold badF at h ⊢
  rw [List.find?_append, h, Option.none_or, List.find?_singleton]
  by_cases hq : 0 < overP zs q <;> simp [hq]

theorem badF_pre {zs : List Int} {j N x : Nat} (hj : j ≤ N) (h : badF zs (List.range j) = some x) : badF zs (List.range N) = some x := by
  obtain ⟨d, rfl⟩ : ∃ d, N = j + d := ⟨N - j, by omega⟩
  unfold badF at h ⊢
  rw [List.range_add, List.find?_append, h]
  rfl

theorem badF_lt {zs : List Int} {N x : Nat} (h : badF zs (List.range N) = some x) : x < N := List.mem_range.1 (List.mem_of_find?_eq_some h)
def badB (m : Int) (zs : List Int) : Bool := famIn m zs && (badF zs (List.range (2 ^ zs.length))).isSome
def badZ (m : Int) (zs : List Int) : Int := if famIn m zs then (((badF zs (List.range (2 ^ zs.length))).getD 0 : Nat) : Int) else 0
set_option maxRecDepth 100000 in
set_option maxHeartbeats 4000000 in
theorem implSpeakerBad_any (m : Int) (a : Option Addr) (c : Nat) (zs : List Int) (w : World) (ha : Ints w w.heap.size a zs) (hT : Tab w) (hx : zs.length ≤ 1048576) :
    Calls Tryd.prog 10 #[.agg #[.int .i64 m, .slice a zs.length c]] w (RetIB w (badZ m zs) (badB m zs)) := by
  have HA0 := Lib.hid ha
  obtain ⟨W0, hW0, p0, p1, p2, hs0, hb0⟩ : ∃ W0, ((w.alloc (.cells #[.int .i64 m, .slice a zs.length c] 25)).alloc (.cells #[.int .i64 0] 3)).alloc (.cells #[.bool false] 4) = W0 ∧ HasBlk W0 w.heap.size #[.int .i64 m, .slice a zs.length c] 25 ∧ HasBlk W0 (w.heap.size + 1) #[.int .i64 0] 3 ∧ HasBlk W0 (w.heap.size + 1 + 1) #[.bool false] 4 ∧ W0.heap.size = w.heap.size + 1 + 1 + 1 ∧ Below w.heap.size w W0 :=
    ⟨_, rfl, alloc3_0 w _ _ _, alloc3_1 w _ _ _, alloc3_2 w _ _ _, by simp, below3 w _ _ _⟩
  have HFI := Lib.hid (implFamilyIn_any m a c zs W0 ((ha.below hb0).mono (by omega)) hx)
  have x0 := (blk_cell p0 0).trans (cell2_0 _ _)
  have x1 := (blk_cell p0 1).trans (cell2_1 _ _)
  have P0 := Lib.hid p0
  have P1 := Lib.hid p1
  have P2 := Lib.hid p2
  have HS0 := Lib.hid hs0
  have HB0 := Lib.hid hb0
  have HW0 := Lib.hid hW0
  clear ha p0 p1 p2 hs0 hb0
  unfold badZ badB
  cases hf : famIn m zs
  · have HF := Lib.hid hf
    clear hf
    go_enter Tryd.func10, Tryd.ntmps10
    go_wp2_with fail
    refine HFI.out.mono ?_
    rintro e w1 ⟨rfl, hb⟩
    rw [HF.out]
    have q1 : HasBlk w1 (w.heap.size + 1) #[.int .i64 0] 3 := (hb.block _ (lt_of_some P1.out)).trans P1.out
    have q2 : HasBlk w1 (w.heap.size + 1 + 1) #[.bool false] 4 := (hb.block _ (lt_of_some P2.out)).trans P2.out
    have HB := Lib.hid (HB0.out.trans (hb.mono (by have := HS0.out; omega)))
    have y0 := (blk_cell q1 0).trans (cell1_0 _)
    have y1 := (blk_cell q2 0).trans (cell1_0 _)
    have f0 := blk_frozen q1 0
    have f1 := blk_frozen q2 0
    have Q1 := Lib.hid q1
    have Q2 := Lib.hid q2
    clear hb q1 q2 hW0
    go_wp2
    have r1 : HasBlk ((w1.setCell ⟨w.heap.size + 1, 0, none⟩ (.int .i64 0)).setCell ⟨w.heap.size + 1 + 1, 0, none⟩ (.bool false)) (w.heap.size + 1) #[.int .i64 0] 3 := HasBlk.far (Boxed.set _ Q1.out) (show w.heap.size + 1 ≠ w.heap.size + 1 + 1 by omega) _
    have r2 : HasBlk ((w1.setCell ⟨w.heap.size + 1, 0, none⟩ (.int .i64 0)).setCell ⟨w.heap.size + 1 + 1, 0, none⟩ (.bool false)) (w.heap.size + 1 + 1) #[.bool false] 4 := Boxed.set _ (HasBlk.far Q2.out (show w.heap.size + 1 + 1 ≠ w.heap.size + 1 by omega) _)
    have g0 := (blk_cell r1 0).trans (cell1_0 _)
    have g1 := (blk_cell r2 0).trans (cell1_0 _)
    refine bodyPost_ret (v := .tuple #[.int .i64 0, .bool false]) (by simp [results, Tryd.results10, go_sem, g0, g1]) rfl ?_
    exact ⟨rfl, (HB.out.setCell (p := ⟨w.heap.size + 1, 0, none⟩) (by show w.heap.size ≤ w.heap.size + 1; omega) _).setCell (p := ⟨w.heap.size + 1 + 1, 0, none⟩) (by show w.heap.size ≤ w.heap.size + 1 + 1; omega) _⟩
  · have HF := Lib.hid hf
    obtain ⟨k, rfl, hk1, hk6, hset, hl8⟩ := fam_nat2 hf
    have HSET := Lib.hid hset
    obtain ⟨n, hn⟩ : ∃ n, n = zs.length := ⟨_, rfl⟩
    have HN := Lib.hid hn
    have hT1 := hT.lt
    have HT := Lib.hid hT
    have h16 : 1 ≤ 6 := by omega
    have hn8 : n ≤ 8 := by omega
    obtain ⟨R, hR⟩ : ∃ R, R = badF zs (List.range (2 ^ n)) := ⟨_, rfl⟩
    have HR := Lib.hid hR
    rw [← hn, ← hR]
    rw [← hn] at P0 HFI HW0 hW0 x1
    clear hf hset hn hT hR
    refine (callsIn_wide (n := 6)).1 ?_
    refine callsIn_of_wp_marks Tryd.func10 rfl trivial ?_ rfl
    simp only [Tryd.ntmps10, List.size_toArray, List.length_cons, List.length_nil, Nat.reduceAdd, Nat.reduceSub, Array.replicate_succ, Array.replicate_zero, List.push_toArray, List.append_toArray, List.nil_append, List.cons_append]
    gi_wp2_with fail
    refine ⟨trivial, ?_⟩
    refine (callsIn_wide.2 HFI.out).mono ?_
    rintro e w1 ⟨rfl, hb⟩
    rw [HF.out]
    have q0 : HasBlk w1 w.heap.size #[.int .i64 (k : Int), .slice a n c] 25 := (hb.block _ (lt_of_some P0.out)).trans P0.out
    have q1 : HasBlk w1 (w.heap.size + 1) #[.int .i64 0] 3 := (hb.block _ (lt_of_some P1.out)).trans P1.out
    have q2 : HasBlk w1 (w.heap.size + 1 + 1) #[.bool false] 4 := (hb.block _ (lt_of_some P2.out)).trans P2.out
    have y0 := (blk_cell q0 0).trans (cell2_0 _ _)
    have y1 := (blk_cell q0 1).trans (cell2_1 _ _)
    have z1 : w.heap.size + 1 + 1 < w1.heap.size := lt_of_some q2
    obtain ⟨W4, hW4, r1, hs4, hb4⟩ : ∃ W4, (w1.alloc (.cells #[.int .i64 (k : Int), .slice a n c] 25)).alloc (.cells #[.int .i64 ((2 ^ n - 1 : Nat) : Int)] 41) = W4 ∧ HasBlk W4 (w1.heap.size + 1) #[.int .i64 ((2 ^ n - 1 : Nat) : Int)] 41 ∧ W4.heap.size = w1.heap.size + 1 + 1 ∧ Below w1.heap.size w1 W4 :=
      ⟨_, rfl, alloc2_1 w1 _ _, by simp, below2 w1 _ _⟩
    have hst := partsF_stops (6 - 1) (by omega) (w1.heap.size + 1) n hn8 ((2 ^ n - 1 : Nat) : Int) rfl W4 (by omega) ((blk_cell r1 0).trans (cell1_0 _))
    have HST := Lib.hid hst
    have HQ0 : Hid (HasBlk W4 w.heap.size #[.int .i64 (k : Int), .slice a n c] 25) := Lib.hid ((hb4.block _ (by omega)).trans q0)
    have HQ1 : Hid (HasBlk W4 (w.heap.size + 1) #[.int .i64 0] 3) := Lib.hid ((hb4.block _ (by omega)).trans q1)
    have HQ2 : Hid (HasBlk W4 (w.heap.size + 1 + 1) #[.bool false] 4) := Lib.hid ((hb4.block _ (by omega)).trans q2)
    have HQ3 := Lib.hid r1
    have HB1 := Lib.hid (HB0.out.trans (hb.mono (by have := HS0.out; omega)))
    have HB4 := Lib.hid (HB1.out.trans (hb4.mono (by omega)))
    have HW4 := Lib.hid hW4
    have HS4 := Lib.hid hs4
    have Z1 := Lib.hid z1
    clear hb q0 q1 q2 hW4 r1 hs4 hb4 hst z1 hW0 x0 x1
    gi_wp2_with (first
      | (refine ⟨trivial, ?_⟩; gi_at_call 27; refine (callsIn_wide.2 (places_any _ _ _ _ _ hn8)).mono ?_; rintro e w' ⟨rfl, rfl⟩)
      | (refine ⟨trivial, ?_⟩; gi_at_call 28; refine (callsIn_wide.2 (partsW_any _ _)).mono ?_; rintro e w' ⟨rfl, rfl⟩))
    rw [HW4.out]
    refine wpIn_rangeFunc_ownG rfl h16 (gf := 51) (lb := #[.pointer (some ⟨w1.heap.size + 1, 0, none⟩)]) rfl trivial (enters_of Tryd.func51 (by kernel_rfl) rfl)
      HST.out (fun h k e => k (h e)) ?keepc (Below.refl _ _) (fun _ => rfl)
      (fun pre W => (badF zs (valsF pre) = none ∧ HasBlk W (w.heap.size + 1) #[.int .i64 0] 3 ∧ HasBlk W (w.heap.size + 1 + 1) #[.bool false] 4 ∧ HasBlk W w.heap.size #[.int .i64 (k : Int), .slice a n c] 25 ∧ HasBlk W (w1.heap.size + 1) #[.int .i64 ((2 ^ n - 1 : Nat) : Int)] 41) ∧ Below w.heap.size w W)
      (fun c' pre W => (c' = .ret ∧ ∃ x : Nat, badF zs (valsF pre) = some x ∧ HasBlk W (w.heap.size + 1) #[.int .i64 (x : Int)] 3 ∧ HasBlk W (w.heap.size + 1 + 1) #[.bool true] 4) ∧ Below w.heap.size w W)
      ?own ?ownx
      ⟨⟨rfl, HQ1.out, HQ2.out, HQ0.out, HQ3.out⟩, HB4.out⟩
      (fun x => { tmps := #[.agg #[.int .i64 (k : Int), .slice a n c], .pointer (some ⟨w.heap.size, 0, none⟩), .pointer (some ⟨w.heap.size + 1, 0, none⟩), .pointer (some ⟨w.heap.size + 1 + 1, 0, none⟩), .int .i64 (x.1 : Int), .agg #[.int .i64 (k : Int), .slice a n c], .bool true, .bool false, .agg #[.int .i64 (k : Int), .slice a n c], .int .i64 ((2 ^ n - 1 : Nat) : Int), .func (.func 51) #[] #[.pointer (some ⟨w1.heap.size + 1, 0, none⟩)], .int .i64 (x.1 : Int), undef, undef, undef, undef, undef], defers := [] }) ?assign ?body ?done ?stop
    case keepc =>
      intro W' l' o o' hl' ho hoc _ hc
      have hne : w1.heap.size + 1 ≠ l' := by have := HS4.out; omega
      rw [← hc]
      exact World.cell?_of_block (World.putObj_heap_other hne)
    case own =>
      rintro s A B row ⟨⟨h0, h1, h2, h3, h4⟩, h5⟩ hg hr
      have hr' : ∀ (b : Nat) (cs : Array Value) (t : TypeId), HasBlk A b cs t → row ≠ some b := fun b cs t hb e => by
        obtain ⟨-, o, ho, hc⟩ := hr b e
        rw [show A.heap[b]? = _ from hb] at ho; cases ho; cases hc
      exact ⟨⟨h0, h1.kept hg (hr' _ _ _ h1), h2.kept hg (hr' _ _ _ h2), h3.kept hg (hr' _ _ _ h3), h4.kept hg (hr' _ _ _ h4)⟩, h5.grown hg (by have := h5.size; omega) (fun r e => by have := (hr r e).1; have := HS4.out; have := Z1.out; omega)⟩
    case ownx =>
      rintro c' s A B row ⟨⟨h0, x, hx, h1, h2⟩, h5⟩ hg hr
      have hr' : ∀ (b : Nat) (cs : Array Value) (t : TypeId), HasBlk A b cs t → row ≠ some b := fun b cs t hb e => by
        obtain ⟨-, o, ho, hc⟩ := hr b e
        rw [show A.heap[b]? = _ from hb] at ho; cases ho; cases hc
      exact ⟨⟨h0, x, hx, h1.kept hg (hr' _ _ _ h1), h2.kept hg (hr' _ _ _ h2)⟩, h5.grown hg (by have := h5.size; omega) (fun r e => by have := (hr r e).1; have := HS4.out; have := Z1.out; omega)⟩
    case assign =>
      intro l x W K hK
      gi_wp2
      exact hK
    case body =>
      rintro l pre ⟨x, hxN⟩ W ⟨⟨h0, h1, h2, h3, h4⟩, hB⟩ hlt
      obtain ⟨xx, hxx⟩ : ∃ xx : PrtF (2 ^ n), xx = ⟨x, hxN⟩ := ⟨_, rfl⟩
      have hov := over_any k hk6 a c zs x W ((HA0.out.below hB).mono hB.size) (by rw [← HN.out]; exact hn8) HSET.out (by rw [← HN.out]; exact hxN) (HT.out.below hB hT1)
      rw [← HN.out] at hov
      have HSN : Hid (badF zs (valsF (pre ++ [xx])) = if 0 < overP zs x then some x else none) := Lib.hid (by rw [valsF_snoc, hxx, badF_snoc _ _ _ h0])
      obtain ⟨ho0, ho8⟩ := overP_bound zs x
      obtain ⟨V, hV⟩ : ∃ V, V = overP zs x := ⟨_, rfl⟩
      rw [← hV] at HSN ho0 ho8 hov
      have HOV := Lib.hid hov
      have x0 := (blk_cell h3 0).trans (cell2_0 _ _)
      have x1 := (blk_cell h3 1).trans (cell2_1 _ _)
      have H1 := Lib.hid h1
      have H2 := Lib.hid h2
      have H3 := Lib.hid h3
      have H4 := Lib.hid h4
      have HB := Lib.hid hB
      dsimp only
      rw [← hxx]
      clear h0 h1 h2 h3 h4 hB hxx hov hV
      by_cases hv : 0 < V
      · have HS2 : Hid (badF zs (valsF (pre ++ [xx])) = some x) := Lib.hid (by rw [HSN.out, if_pos hv])
        gi_wp2_with fail
        refine ⟨trivial, ?_⟩
        refine (CallsIn.inRound l (callsIn_wide.2 HOV.out)).mono ?_
        rintro e w2 ⟨rfl, hb2⟩
        have HB2 := Lib.hid hb2
        have h1' : HasBlk w2 (w.heap.size + 1) #[.int .i64 0] 3 := (hb2.block _ (lt_of_some H1.out)).trans H1.out
        have h2' : HasBlk w2 (w.heap.size + 1 + 1) #[.bool false] 4 := (hb2.block _ (lt_of_some H2.out)).trans H2.out
        have c1 := (blk_cell h1' 0).trans (cell1_0 _)
        have c2 := (blk_cell h2' 0).trans (cell1_0 _)
        have f1 := blk_frozen h1' 0
        have f2 := blk_frozen h2' 0
        have H1' := Lib.hid h1'
        have H2' := Lib.hid h2'
        clear hb2 h1' h2' x0 x1
        gi_wp2
        have hks : KeepsFrom W4.heap.size W w2 := ⟨HB2.out.size, fun k o _ hk _ => (HB2.out.block k (lt_of_some hk)).trans hk⟩
        exact ⟨hks.trans (((KeepsOthers.setCell _ _ _).trans (KeepsOthers.setCell _ _ _)).from _), ⟨rfl, x, HS2.out, HasBlk.far (Boxed.set _ H1'.out) (show w.heap.size + 1 ≠ w.heap.size + 1 + 1 by omega) _, Boxed.set _ (HasBlk.far H2'.out (show w.heap.size + 1 + 1 ≠ w.heap.size + 1 by omega) _)⟩, ((HB.out.trans (HB2.out.mono HB.out.size)).setCell (p := ⟨w.heap.size + 1, 0, none⟩) (by show w.heap.size ≤ w.heap.size + 1; omega) _).setCell (p := ⟨w.heap.size + 1 + 1, 0, none⟩) (by show w.heap.size ≤ w.heap.size + 1 + 1; omega) _⟩
      · have HS2 : Hid (badF zs (valsF (pre ++ [xx])) = none) := Lib.hid (by rw [HSN.out, if_neg hv])
        gi_wp2_with fail
        refine ⟨trivial, ?_⟩
        refine (CallsIn.inRound l (callsIn_wide.2 HOV.out)).mono ?_
        rintro e w2 ⟨rfl, hb2⟩
        have HB2 := Lib.hid hb2
        clear hb2 x0 x1
        gi_wp2
        have h1' : HasBlk w2 (w.heap.size + 1) #[.int .i64 0] 3 := (HB2.out.block _ (lt_of_some H1.out)).trans H1.out
        have h2' : HasBlk w2 (w.heap.size + 1 + 1) #[.bool false] 4 := (HB2.out.block _ (lt_of_some H2.out)).trans H2.out
        have h3' : HasBlk w2 w.heap.size #[.int .i64 (k : Int), .slice a n c] 25 := (HB2.out.block _ (lt_of_some H3.out)).trans H3.out
        have h4' : HasBlk w2 (w1.heap.size + 1) #[.int .i64 ((2 ^ n - 1 : Nat) : Int)] 41 := (HB2.out.block _ (lt_of_some H4.out)).trans H4.out
        exact ⟨⟨HB2.out.size, fun k o _ hk _ => (HB2.out.block k (lt_of_some hk)).trans hk⟩, fun _ => (blk_cell h4' 0).trans (cell1_0 _), ⟨HS2.out, h1', h2', h3', h4'⟩, HB.out.trans (HB2.out.mono HB.out.size)⟩
    case done =>
      rintro E ys W hE hys ⟨⟨h0, h1, h2, -, -⟩, hB⟩ hK
      rw [hys] at h0
      have HRN : Hid (R = none) := Lib.hid (by rw [HR.out]; exact h0)
      have c1 := (blk_cell h1 0).trans (cell1_0 _)
      have c2 := (blk_cell h2 0).trans (cell1_0 _)
      have f1 := blk_frozen h1 0
      have f2 := blk_frozen h2 0
      have hK2 := ((KeepsOthers.setCell W ⟨w.heap.size + 1, 0, none⟩ (.int .i64 0)).trans (KeepsOthers.setCell _ ⟨w.heap.size + 1 + 1, 0, none⟩ (.bool false))).same E _ hK rfl
      have hne1 : w.heap.size + 1 ≠ E := fun e => by subst e; rw [show W.heap[w.heap.size + 1]? = _ from h1] at hK; cases hK
      have hne2 : w.heap.size + 1 + 1 ≠ E := fun e => by subst e; rw [show W.heap[w.heap.size + 1 + 1]? = _ from h2] at hK; cases hK
      have r1 : HasBlk (((W.setCell ⟨w.heap.size + 1, 0, none⟩ (.int .i64 0)).setCell ⟨w.heap.size + 1 + 1, 0, none⟩ (.bool false)).putObj E (.deferred none)) (w.heap.size + 1) #[.int .i64 0] 3 := (World.putObj_heap_other (by first | exact hne1 | exact Ne.symm hne1)).trans (HasBlk.far (Boxed.set _ h1) (show w.heap.size + 1 ≠ w.heap.size + 1 + 1 by omega) _)
      have r2 : HasBlk (((W.setCell ⟨w.heap.size + 1, 0, none⟩ (.int .i64 0)).setCell ⟨w.heap.size + 1 + 1, 0, none⟩ (.bool false)).putObj E (.deferred none)) (w.heap.size + 1 + 1) #[.bool false] 4 := (World.putObj_heap_other (by first | exact hne2 | exact Ne.symm hne2)).trans (Boxed.set _ (HasBlk.far h2 (show w.heap.size + 1 + 1 ≠ w.heap.size + 1 by omega) _))
      have g1 := (blk_cell r1 0).trans (cell1_0 _)
      have g2 := (blk_cell r2 0).trans (cell1_0 _)
      have HB := Lib.hid ((hB.setCell (p := ⟨w.heap.size + 1, 0, none⟩) (by show w.heap.size ≤ w.heap.size + 1; omega) (.int .i64 0)).setCell (p := ⟨w.heap.size + 1 + 1, 0, none⟩) (by show w.heap.size ≤ w.heap.size + 1 + 1; omega) (.bool false))
      have HK2 := Lib.hid hK2
      have HEs : Hid (w.heap.size ≤ E) := Lib.hid (by have := HS4.out; have := Z1.out; omega)
      clear h0 h1 h2 hB hK hK2 r1 r2 hys
      gi_wp2
      refine ⟨by simp, .inl ⟨_, _, rfl, run_takeDeferred HK2.out, ?_⟩⟩
      exact ⟨.tuple #[.int .i64 0, .bool false], by simp [results, Tryd.results10, go_sem, g1, g2], by rw [HRN.out]; rfl, HB.out.trans (belowK_b (w := w) (Nat.le_refl _) _ E _ _ HEs.out HK2.out rfl rfl)⟩
    case stop =>
      rintro E c' pre W hE ⟨j, hj, hp⟩ ⟨⟨rfl, x, hx2, h1, h2⟩, hB⟩ hK
      rw [hp] at hx2
      have HRN : Hid (R = some x) := Lib.hid (by rw [HR.out]; exact badF_pre hj hx2)
      have hne1 : w.heap.size + 1 ≠ E := fun e => by subst e; rw [show W.heap[w.heap.size + 1]? = _ from h1] at hK; cases hK
      have hne2 : w.heap.size + 1 + 1 ≠ E := fun e => by subst e; rw [show W.heap[w.heap.size + 1 + 1]? = _ from h2] at hK; cases hK
      have r1 : HasBlk (W.putObj E (.deferred none)) (w.heap.size + 1) #[.int .i64 (x : Int)] 3 := (World.putObj_heap_other (by first | exact hne1 | exact Ne.symm hne1)).trans h1
      have r2 : HasBlk (W.putObj E (.deferred none)) (w.heap.size + 1 + 1) #[.bool true] 4 := (World.putObj_heap_other (by first | exact hne2 | exact Ne.symm hne2)).trans h2
      have g1 := (blk_cell r1 0).trans (cell1_0 _)
      have g2 := (blk_cell r2 0).trans (cell1_0 _)
      have HB := Lib.hid hB
      have HK2 := Lib.hid hK
      have HEs : Hid (w.heap.size ≤ E) := Lib.hid (by have := HS4.out; have := Z1.out; omega)
      clear hx2 h1 h2 hB hK r1 r2 hp
      gi_wp2
      refine ⟨by simp, .inl ⟨_, _, rfl, run_takeDeferred HK2.out, ?_⟩⟩
      exact ⟨.tuple #[.int .i64 (x : Int), .bool true], by simp [results, Tryd.results10, go_sem, g1, g2], by rw [HRN.out]; rfl, HB.out.trans (belowK_b (w := w) (Nat.le_refl _) _ E _ _ HEs.out HK2.out rfl rfl)⟩

end Go.Proofs.YtnkedijlddakbaaDoor
