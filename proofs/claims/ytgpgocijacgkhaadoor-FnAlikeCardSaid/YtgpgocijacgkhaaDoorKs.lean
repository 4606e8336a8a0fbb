/- It is proved what CoverPack of the program returns; conditions: those of each statement. -/
import Derived.StillTailTactics
import Derived.RowKit
import Derived.Laws.CopyRow
import Derived.Lib.SlBuf
import Derived.Deep.QuietTactic
import Derived.RangeFuncNested
import Derived.RangeFuncBound
import Derived.RangeFuncCalls
import Derived.RangeFuncLeaves
import Derived.RangeFuncBox
import Derived.RangeFuncWrites
import Derived.Maps.OwnIn
import Derived.Maps.Ext
import Derived.DeepKeys4
import Derived.MapKept
import Derived.Test.YtgpgocijacgkhaaDoorRows
import Derived.WalkKit
import Derived.WalkSpells
import Derived.ProofKit
import Derived.OpenShut
import Derived.ShutString
import Derived.ChangeOld
import Derived.Below
import Derived.Deep.RegionHeld3
import Derived.BigQuiet
import Derived.Lib.Hide
import Derived.Lib.SmallJoins
import Derived.Outline
import Derived.Laws.MakeOwn
import Derived.Laws.OwnMore
import Derived.IntWalk
import Derived.Lib.AppendZeros
import Derived.Maps.AppendAt
import Derived.Deep.AppendLies
import Derived.OwnWalk
import Derived.Lib.SlicesCompact
import Derived.Lib.OwnBridge
import Derived.OrdersIn
import Derived.TacticsIn
import Derived.Shelf.Sort.Plain
import Derived.Shelf.Slices.In.SortNone
import Derived.Shelf.Slices.CompactI
import Derived.Ground.Names2Prog
import Derived.Lib.SliceRun
import Derived.Shelf.Abstract
import Derived.Shelf.RegionOpen
import Derived.OwnWalkIn
import Derived.TacticsInMore
import Derived.LoopNIn
import Derived.LoopIn
import Derived.StillTail
import Derived.StillTactics
import Derived.Shelf.Spec.TrailingZeros
import Derived.Test.YtgpgocijacgkhaaDoorRaaa
import Derived.Test.YtgpgocijacgkhaaDoorRaab
import Derived.Test.YtgpgocijacgkhaaDoorRaah
import Derived.Test.YtgpgocijacgkhaaDoorRaan
import Derived.Test.YtgpgocijacgkhaaDoorRaap
import Derived.Test.YtgpgocijacgkhaaDoorRaas
import Derived.Test.YtgpgocijacgkhaaDoorRaau
import Derived.Test.YtgpgocijacgkhaaDoorKr
import Derived.Test.YtgpgocijacgkhaaDoorRaai
import Derived.Test.YtgpgocijacgkhaaDoorRaac
import Derived.Test.YtgpgocijacgkhaaDoorRaal
import Derived.Test.YtgpgocijacgkhaaDoorTb
namespace Go.Proofs.YtgpgocijacgkhaaDoor
open Go.RowKit Go.Shelf

attribute [local go_sem] Oper.semAt_some

theorem n08 {n : Nat} (h : n ≤ 8) : n = 0 ∨ n = 1 ∨ n = 2 ∨ n = 3 ∨ n = 4 ∨ n = 5 ∨ n = 6 ∨ n = 7 ∨ n = 8 := by omega
set_option maxRecDepth 100000 in
theorem places_any (m : Int) (a : Option Addr) (n c : Nat) (w : World) (hn : n ≤ 8) :
    Calls Tryd.prog 69 #[.agg #[.int .i64 m, .slice a n c]] w fun e w' => e = .returned (.int .i64 ((2 ^ n - 1 : Nat) : Int)) ∧ w' = w.alloc (.cells #[.int .i64 m, .slice a n c] 25) := by
  rcases n08 hn with rfl | rfl | rfl | rfl | rfl | rfl | rfl | rfl | rfl
  all_goals
    go_enter Tryd.func69, Tryd.ntmps69
    go_wp2
    go_ret
    exact ⟨rfl, rfl⟩

/-- The greatest pack of some sets of places. -/
def mostOf (zs : List Int) (qs : List Nat) : Nat := qs.foldl (fun b q => if packB zs (memK zs.length q) 0 then max b (memK zs.length q).length else b) 0

theorem mostOf_snoc (zs : List Int) (qs : List Nat) (q : Nat) : mostOf zs (qs ++ [q]) = if packB zs (memK zs.length q) 0 then max (mostOf zs qs) (memK zs.length q).length else mostOf zs qs := by
  simp [mostOf]

theorem mostOf_all (zs : List Int) : mostOf zs (List.range (2 ^ zs.length)) = packM zs 0 := most_all zs
def packZ (m : Int) (zs : List Int) : Int := if famIn m zs then ((packM zs 0 : Nat) : Int) else 0
set_option maxRecDepth 100000 in
set_option maxHeartbeats 4000000 in
theorem implCoverPack_any (m : Int) (a : Option Addr) (c : Nat) (zs : List Int) (w : World) (ha : Ints w w.heap.size a zs) (hT : Tab w) (hx : zs.length ≤ 1048576) :
    Calls Tryd.prog 36 #[.agg #[.int .i64 m, .slice a zs.length c]] w (RetIB w (packZ m zs) (famIn m zs)) := by
  have HB0 := Lib.hid (below1 w (.cells #[.int .i64 m, .slice a zs.length c] 25))
  have HA := Lib.hid (ha.below HB0.out)
  have HA0 := Lib.hid ha
  clear ha
  cases hf : famIn m zs
  · have HF := Lib.hid hf
    have HZ : Hid (packZ m zs = 0) := Lib.hid (by unfold packZ; rw [hf]; rfl)
    clear hf
    go_enter Tryd.func36, Tryd.ntmps36
    go_wp2_with fail
    refine (implFamilyIn_any _ _ _ zs _ (HA.out.mono (by simp)) hx).mono ?_
    rintro e w1 ⟨rfl, hb⟩
    rw [HF.out]
    have HB := Lib.hid (HB0.out.trans (hb.mono (by simp)))
    clear hb
    go_wp2
    go_ret2
    exact ⟨by rw [HZ.out]; rfl, HB.out⟩
  · have HF := Lib.hid hf
    obtain ⟨k, rfl, hk1, hk6, hset, hl8⟩ := fam_nat2 hf
    have HZ : Hid (packZ (k : Int) zs = ((packM zs 0 : Nat) : Int)) := Lib.hid (by unfold packZ; rw [hf]; rfl)
    have HSET := Lib.hid hset
    have HFI := Lib.hid (implFamilyIn_any (k : Int) a c zs _ (HA.out.mono (show w.heap.size ≤ (w.alloc (.cells #[.int .i64 (k : Int), .slice a zs.length c] 25)).heap.size by simp)) hx)
    obtain ⟨n, hn⟩ : ∃ n, n = zs.length := ⟨_, rfl⟩
    have HN := Lib.hid hn
    have hT1 := hT.lt
    have HT := Lib.hid hT
    have h16 : 1 ≤ 6 := by omega
    have hmx : Tryd.prog.follows .mixedOrders = true := by kernel_rfl
    have hn8 : n ≤ 8 := by omega
    rw [← hn] at HA HB0 HFI ⊢
    clear hf hset hn hT
    refine (callsIn_wide (n := 6)).1 ?_
    refine callsIn_of_wp_marks Tryd.func36 rfl trivial ?_ rfl
    simp only [Tryd.ntmps36, List.size_toArray, List.length_cons, List.length_nil, Nat.reduceAdd, Nat.reduceSub, Array.replicate_succ, Array.replicate_zero, List.push_toArray, List.append_toArray, List.nil_append, List.cons_append]
    gi_wp2_with fail
    refine ⟨trivial, ?_⟩
    refine (callsIn_wide.2 HFI.out).mono ?_
    rintro e w1 ⟨rfl, hb⟩
    rw [HF.out]
    have b0 : w1.heap[w.heap.size]? = some (.cells #[.int .i64 (k : Int), .slice a n c] 25 (0, 0)) := (hb.block _ (by simp)).trans (alloc_new w _)
    have z1 : w.heap.size < w1.heap.size := lt_of_some b0
    obtain ⟨W2, hW2, q0, q1, hs2, hb2⟩ : ∃ W2, w1.alloc (.cells #[.int .i64 0] 3) = W2 ∧ HasBlk W2 w.heap.size #[.int .i64 (k : Int), .slice a n c] 25 ∧ HasBlk W2 w1.heap.size #[.int .i64 0] 3 ∧ W2.heap.size = w1.heap.size + 1 ∧ Below w1.heap.size w1 W2 :=
      ⟨_, rfl, HasBlk.alloc b0 _, alloc_new w1 _, by simp, below1 w1 _⟩
    have y0 := (blk_cell q0 0).trans (cell2_0 _ _)
    have y1 := (blk_cell q0 1).trans (cell2_1 _ _)
    rw [← hW2] at y0 y1
    obtain ⟨W4, hW4, r1, hs4, hb4⟩ : ∃ W4, (W2.alloc (.cells #[.int .i64 (k : Int), .slice a n c] 25)).alloc (.cells #[.int .i64 ((2 ^ n - 1 : Nat) : Int)] 54) = W4 ∧ HasBlk W4 (w1.heap.size + 1 + 1) #[.int .i64 ((2 ^ n - 1 : Nat) : Int)] 54 ∧ W4.heap.size = W2.heap.size + 1 + 1 ∧ Below W2.heap.size W2 W4 :=
      ⟨_, rfl, by have := alloc2_1 W2 (.cells #[.int .i64 (k : Int), .slice a n c] 25) (.cells #[.int .i64 ((2 ^ n - 1 : Nat) : Int)] 54); rwa [hs2] at this, by simp, below2 W2 _ _⟩
    have hb14 := hb2.trans (hb4.mono (show w1.heap.size ≤ W2.heap.size by omega))
    have hst := partsF_stops (6 - 1) (by omega) (w1.heap.size + 1 + 1) n hn8 ((2 ^ n - 1 : Nat) : Int) rfl W4 (by omega) ((blk_cell r1 0).trans (cell1_0 _))
    have HST := Lib.hid hst
    have HQ0 : Hid (HasBlk W4 w.heap.size #[.int .i64 (k : Int), .slice a n c] 25) := Lib.hid ((hb4.block _ (by omega)).trans q0)
    have HQ1 : Hid (HasBlk W4 w1.heap.size #[.int .i64 0] 3) := Lib.hid ((hb4.block _ (by omega)).trans q1)
    have HQ2 := Lib.hid r1
    have HB1 := Lib.hid (HB0.out.trans (hb.mono (by simp)))
    have HB4 := Lib.hid (HB1.out.trans (hb14.mono (by omega)))
    have HI := Lib.hid (((HA.out.below (hb.mono (by simp))).below (hb14.mono (by omega))))
    have HW2 := Lib.hid hW2
    have HW4 := Lib.hid hW4
    have HS2 := Lib.hid hs2
    have HS4 := Lib.hid hs4
    have Z1 := Lib.hid z1
    clear hb b0 hW2 q0 q1 hs2 hb2 hW4 r1 hs4 hb4 hb14 hst z1
    gi_wp2_with (first
      | (refine ⟨trivial, ?_⟩; gi_at_call 69; refine (callsIn_wide.2 (places_any _ _ _ _ _ hn8)).mono ?_; rintro e w' ⟨rfl, rfl⟩)
      | (refine ⟨trivial, ?_⟩; gi_at_call 70; refine (callsIn_wide.2 (partsW_any _ _)).mono ?_; rintro e w' ⟨rfl, rfl⟩))
    rw [HW2.out, HW4.out]
    refine wpIn_rangeFunc_ownG rfl h16 (gf := 92) (lb := #[.pointer (some ⟨w1.heap.size + 1 + 1, 0, none⟩)]) rfl trivial (enters_of Tryd.func92 (by kernel_rfl) rfl)
      HST.out (fun h k e => k (h e)) ?keepc (Below.refl _ _) (fun _ => rfl)
      (fun pre W => (HasBlk W w1.heap.size #[.int .i64 ((mostOf zs (valsF pre) : Nat) : Int)] 3 ∧ HasBlk W w.heap.size #[.int .i64 (k : Int), .slice a n c] 25 ∧ HasBlk W (w1.heap.size + 1 + 1) #[.int .i64 ((2 ^ n - 1 : Nat) : Int)] 54) ∧ Below w.heap.size w W)
      (fun _ _ _ => False)
      ?own
      (fun _ _ _ _ _ hs _ _ => hs)
      ⟨⟨HQ1.out, HQ0.out, HQ2.out⟩, HB4.out⟩
      (fun x => { tmps := #[.agg #[.int .i64 (k : Int), .slice a n c], .pointer (some ⟨w.heap.size, 0, none⟩), .int .i64 0, .bool false, .pointer (some ⟨w1.heap.size, 0, none⟩), .int .i64 (x.1 : Int), .agg #[.int .i64 (k : Int), .slice a n c], .bool true, .bool false, .agg #[.int .i64 (k : Int), .slice a n c], .int .i64 ((2 ^ n - 1 : Nat) : Int), .func (.func 92) #[] #[.pointer (some ⟨w1.heap.size + 1 + 1, 0, none⟩)], .int .i64 (x.1 : Int), undef, undef, undef, undef, undef, undef, undef, undef], defers := [] }) ?assign ?body ?done ?stop
    case keepc =>
      intro W' l' o o' hl' ho hoc _ hc
      have hne : w1.heap.size + 1 + 1 ≠ l' := by have := HS4.out; have := HS2.out; omega
      rw [← hc]
      exact World.cell?_of_block (World.putObj_heap_other hne)
    case own =>
      rintro s A B row ⟨⟨h1, h2, h3⟩, h5⟩ hg hr
      have hr' : ∀ (b : Nat) (cs : Array Value) (t : TypeId), HasBlk A b cs t → row ≠ some b := fun b cs t hb e => by
        obtain ⟨-, o, ho, hc⟩ := hr b e
        rw [show A.heap[b]? = _ from hb] at ho; cases ho; cases hc
      exact ⟨⟨h1.kept hg (hr' _ _ _ h1), h2.kept hg (hr' _ _ _ h2), h3.kept hg (hr' _ _ _ h3)⟩, h5.grown hg (by have := h5.size; omega) (fun r e => by have := (hr r e).1; have := HS2.out; have := HS4.out; have := Z1.out; omega)⟩
    case assign =>
      intro l x W K hK
      gi_wp2
      exact hK
    case body =>
      rintro l pre ⟨x, hxN⟩ W ⟨⟨h1, h2, h3⟩, hB⟩ hlt
      obtain ⟨xx, hxx⟩ : ∃ xx : PrtF (2 ^ n), xx = ⟨x, hxN⟩ := ⟨_, rfl⟩
      have hxv : xx.1 = x := by rw [hxx]
      have hx256 : x < 256 := by have := Nat.pow_le_pow_right (n := 2) (by decide) hn8; omega
      obtain ⟨M, hM⟩ : ∃ M, M = mostOf zs (valsF pre) := ⟨_, rfl⟩
      have HSN : Hid (mostOf zs (valsF (pre ++ [xx])) = if packB zs (memK n x) 0 then max M (memK n x).length else M) := Lib.hid (by
        rw [valsF_snoc, mostOf_snoc, hM, ← HN.out, hxv])
      rw [← hM] at h1
      have hpk := packed_any k hk6 a c zs x W ((HA0.out.below hB).mono hB.size) (by rw [← HN.out]; exact hn8) HSET.out (by rw [← HN.out]; exact hxN) (HT.out.below hB hT1)
      rw [← HN.out] at hpk
      have HPK := Lib.hid hpk
      have x0 := (blk_cell h2 0).trans (cell2_0 _ _)
      have x1 := (blk_cell h2 1).trans (cell2_1 _ _)
      have H1 := Lib.hid h1
      have H2 := Lib.hid h2
      have H3 := Lib.hid h3
      have HB := Lib.hid hB
      have hlen : (memK n x).length ≤ 8 := Nat.le_trans (memK_len n x) hn8
      have HM8 : Hid (memK 8 x = memK n x) := Lib.hid (memW_is hn8 hxN)
      dsimp only
      rw [← hxx]
      clear h1 h2 h3 hB hxx hxv hpk hM
      cases hp : packB zs (memK n x) 0
      · have HP := Lib.hid hp
        have HSN2 : Hid (mostOf zs (valsF (pre ++ [xx])) = M) := Lib.hid (by rw [HSN.out, hp]; rfl)
        clear hp
        gi_wp2_with (refine ⟨trivial, ?_⟩; gi_at_call 76; refine (CallsIn.inRound l (callsIn_wide.2 HPK.out)).mono ?_; rintro e w2 ⟨rfl, hb2⟩; rw [HP.out])
        have h3' := (hb2.block _ (lt_of_some H3.out)).trans H3.out
        exact ⟨⟨hb2.size, fun k o _ hk _ => (hb2.block k (lt_of_some hk)).trans hk⟩, fun _ => (blk_cell h3' 0).trans (cell1_0 _), ⟨by rw [HSN2.out]; exact (hb2.block _ (lt_of_some H1.out)).trans H1.out, (hb2.block _ (lt_of_some H2.out)).trans H2.out, h3'⟩, HB.out.trans (hb2.mono HB.out.size)⟩
      · have HP := Lib.hid hp
        have HSN2 : Hid (mostOf zs (valsF (pre ++ [xx])) = max M (memK n x).length) := Lib.hid (by rw [HSN.out, hp]; rfl)
        clear hp
        gi_wp2_with fail
        refine ⟨trivial, ?_⟩
        refine (CallsIn.inRound l (callsIn_wide.2 HPK.out)).mono ?_
        rintro e w2 ⟨rfl, hb2⟩
        rw [HP.out]
        have h1' : HasBlk w2 w1.heap.size #[.int .i64 (M : Int)] 3 := (hb2.block _ (lt_of_some H1.out)).trans H1.out
        have m0 := (blk_cell h1' 0).trans (cell1_0 _)
        have m1 := blk_frozen h1' 0
        have H1' := Lib.hid h1'
        have HB2 := Lib.hid hb2
        clear h1' hb2
        gi_wp2
        refine wpIn_region_still_tail_o (Fence.Open.wide.inRound l) 4 hmx (by kernel_rfl) (by kernel_rfl) ?_
        simp only [List.take_succ_cons, List.take_zero, List.drop_succ_cons, List.drop_zero]
        repeat still_step
        still_call ((sizeW_any x _ hx256).mono fun _ _ h => ⟨by rw [h.1, HM8.out], h.2.symm⟩)
        repeat still_step
        refine wpStill_nil ?_
        change wpListIn _ _ _ _ _ _ _ w2.drew
        have m0' : w2.drew.cell? ⟨w1.heap.size, 0, none⟩ = some (.int .i64 (M : Int)) := m0
        have m1' : w2.drew.frozen? ⟨w1.heap.size, 0, none⟩ = false := m1
        gi_wp2
        have h3' : HasBlk w2 (w1.heap.size + 1 + 1) #[.int .i64 ((2 ^ n - 1 : Nat) : Int)] 54 := (HB2.out.block _ (lt_of_some H3.out)).trans H3.out
        have h3s : HasBlk (w2.drew.setCell ⟨w1.heap.size, 0, none⟩ (.int .i64 (max (M : Int) ((memK n x).length : Int)))) (w1.heap.size + 1 + 1) #[.int .i64 ((2 ^ n - 1 : Nat) : Int)] 54 := HasBlk.far (show HasBlk w2.drew _ _ _ from h3') (show w1.heap.size + 1 + 1 ≠ w1.heap.size by omega) _
        have h2' : HasBlk w2 w.heap.size #[.int .i64 (k : Int), .slice a n c] 25 := (HB2.out.block _ (lt_of_some H2.out)).trans H2.out
        have hks : KeepsFrom W4.heap.size W w2 := ⟨HB2.out.size, fun k o _ hk _ => (HB2.out.block k (lt_of_some hk)).trans hk⟩
        refine ⟨hks.trans ((KeepsOthers.drew w2).trans (KeepsOthers.setCell _ _ _) |>.from _), fun _ => (blk_cell h3s 0).trans (cell1_0 _), ⟨?_, HasBlk.far (show HasBlk w2.drew _ _ _ from h2') (show w.heap.size ≠ w1.heap.size by have := Z1.out; omega) _, h3s⟩, (HB.out.trans (HB2.out.mono HB.out.size)).drew.setCell (p := ⟨w1.heap.size, 0, none⟩) (by have := Z1.out; show w.heap.size ≤ w1.heap.size; omega) _⟩
        rw [HSN2.out, show ((max M (memK n x).length : Nat) : Int) = max (M : Int) ((memK n x).length : Int) by omega]
        exact Boxed.set _ (show Boxed w2.drew _ _ _ from H1'.out)
    case done =>
      rintro E ys W hE hys ⟨⟨h1, -, -⟩, hB⟩ hK
      rw [hys, HN.out, mostOf_all] at h1
      have c0 := (blk_cell h1 0).trans (cell1_0 _)
      have HB := Lib.hid hB
      have HK := Lib.hid hK
      have HEs : Hid (w.heap.size ≤ E) := Lib.hid (by have := HS2.out; have := HS4.out; have := Z1.out; omega)
      clear h1 hB hK hys
      gi_wp2
      refine ⟨by simp, .inl ⟨_, _, rfl, run_takeDeferred HK.out, ?_⟩⟩
      exact ⟨.tuple #[.int .i64 ((packM zs 0 : Nat) : Int), .bool true], by simp [results, Tryd.results36, go_sem], by rw [HZ.out], HB.out.trans (belowK_b (w := w) (Nat.le_refl _) W E _ _ HEs.out HK.out rfl rfl)⟩
    case stop =>
      rintro D c pre W _ _ h _
      exact h.elim

end Go.Proofs.YtgpgocijacgkhaaDoor
