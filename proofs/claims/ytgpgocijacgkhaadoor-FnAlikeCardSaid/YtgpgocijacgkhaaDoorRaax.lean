/- It is proved what MeetMost of the program returns; conditions: those of each statement. -/
import Derived.RowKit
import Derived.Laws.CopyRow
import Derived.Lib.SlBuf
import Derived.Deep.QuietTactic
import Derived.RangeFuncNested
import Derived.RangeFuncBound
import Derived.RangeFuncCalls
import Derived.RangeFuncLeaves
import Derived.RangeFuncBox
import Derived.RangeFuncWrites
import Derived.StillTailTactics
import Derived.Maps.OwnIn
import Derived.Maps.Ext
import Derived.DeepKeys4
import Derived.MapKept
import Derived.Test.YtgpgocijacgkhaaDoorRows
import Derived.WalkKit
import Derived.WalkSpells
import Derived.ProofKit
import Derived.OpenShut
import Derived.ShutString
import Derived.ChangeOld
import Derived.Below
import Derived.Deep.RegionHeld3
import Derived.BigQuiet
import Derived.Lib.Hide
import Derived.Lib.SmallJoins
import Derived.Outline
import Derived.Laws.MakeOwn
import Derived.Laws.OwnMore
import Derived.IntWalk
import Derived.Lib.AppendZeros
import Derived.Maps.AppendAt
import Derived.Deep.AppendLies
import Derived.OwnWalk
import Derived.Lib.SlicesCompact
import Derived.Lib.OwnBridge
import Derived.OrdersIn
import Derived.TacticsIn
import Derived.Shelf.Sort.Plain
import Derived.Shelf.Slices.In.SortNone
import Derived.Shelf.Slices.CompactI
import Derived.Ground.Names2Prog
import Derived.Lib.SliceRun
import Derived.Laws.BitsAllLaws
import Derived.Shelf.RegionOpen
import Derived.Shelf.Abstract
import Derived.OwnWalkIn
import Derived.TacticsInMore
import Derived.LoopNIn
import Derived.LoopIn
import Derived.StillTail
import Derived.StillTactics
import Derived.Shelf.Spec.TrailingZeros
import Derived.Test.YtgpgocijacgkhaaDoorRaaa
import Derived.Test.YtgpgocijacgkhaaDoorRaab
import Derived.Test.YtgpgocijacgkhaaDoorRaah
import Derived.Test.YtgpgocijacgkhaaDoorIb
import Derived.Test.YtgpgocijacgkhaaDoorRaat
import Derived.Test.YtgpgocijacgkhaaDoorRaan
import Derived.Test.YtgpgocijacgkhaaDoorRaap
import Derived.Test.YtgpgocijacgkhaaDoorRaas
import Derived.Test.YtgpgocijacgkhaaDoorRaau
import Derived.Test.YtgpgocijacgkhaaDoorKs
import Derived.Test.YtgpgocijacgkhaaDoorRaai
import Derived.Test.YtgpgocijacgkhaaDoorRaac
import Derived.Test.YtgpgocijacgkhaaDoorRaal
import Derived.Test.YtgpgocijacgkhaaDoorTb
import Derived.Test.YtgpgocijacgkhaaDoorUb
namespace Go.Proofs.YtgpgocijacgkhaaDoor
open Go.RowKit Go.Shelf

attribute [local go_sem] Oper.semAt_some

/-- The greatest tied set of some sets of places. -/
def tmOf (zs : List Int) (qs : List Nat) : Nat := qs.foldl (fun b q => if tieB zs q then max b (memK 8 q).length else b) 0

theorem tmOf_snoc (zs : List Int) (qs : List Nat) (q : Nat) : tmOf zs (qs ++ [q]) = if tieB zs q then max (tmOf zs qs) (memK 8 q).length else tmOf zs qs := by
  simp [tmOf]

def tmZ (m : Int) (zs : List Int) : Int := if famIn m zs then ((tmOf (duZ m.toNat zs) (List.range (2 ^ zs.length)) : Nat) : Int) else 0
set_option maxRecDepth 100000 in
set_option maxHeartbeats 4000000 in
theorem implMost_any (m : Int) (a : Option Addr) (c : Nat) (zs : List Int) (w : World) (ha : Ints w w.heap.size a zs) (hT : Tab w) (hx : zs.length ≤ 1048576) :
    Calls Tryd.prog 33 #[.agg #[.int .i64 m, .slice a zs.length c]] w (RetIB w (tmZ m zs) (famIn m zs)) := by
  have HB0 := Lib.hid (below1 w (.cells #[.int .i64 m, .slice a zs.length c] 25))
  have HA := Lib.hid (ha.below HB0.out)
  have HA0 := Lib.hid ha
  clear ha
  cases hf : famIn m zs
  · have HF := Lib.hid hf
    have HZ : Hid (tmZ m zs = 0) := Lib.hid (by unfold tmZ; rw [hf]; rfl)
    clear hf
    go_enter Tryd.func33, Tryd.ntmps33
    go_wp2_with fail
    refine (implFamilyIn_any _ _ _ zs _ (HA.out.mono (by simp)) hx).mono ?_
    rintro e w1 ⟨rfl, hb⟩
    rw [HF.out]
    have HB := Lib.hid (HB0.out.trans (hb.mono (by simp)))
    clear hb
    go_wp2
    go_ret2
    exact ⟨by rw [HZ.out]; rfl, HB.out⟩
  · have HF := Lib.hid hf
    obtain ⟨k, rfl, hk1, hk6, hset, hl8⟩ := fam_nat2 hf
    have HZ : Hid (tmZ (k : Int) zs = ((tmOf (duZ k zs) (List.range (2 ^ zs.length)) : Nat) : Int)) := Lib.hid (by unfold tmZ; rw [hf]; rfl)
    have HFI := Lib.hid (implFamilyIn_any (k : Int) a c zs _ (HA.out.mono (show w.heap.size ≤ (w.alloc (.cells #[.int .i64 (k : Int), .slice a zs.length c] 25)).heap.size by simp)) hx)
    have HTU : Hid (∀ W, Below w.heap.size w W → Calls Tryd.prog 50 #[.agg #[.int .i64 (k : Int), .slice a zs.length c]] W fun e w' => ∃ g : Nat, e = .returned (.agg #[.int .i64 (zs.length : Int), .slice (some ⟨g, 0, none⟩) k k]) ∧ OwnI w' W.heap.size (.slice (some ⟨g, 0, none⟩) k k) (duZ k zs) ∧ Below W.heap.size W w') := Lib.hid fun W hb =>
      turned_any k hk6 a c zs W ((HA0.out.below hb).mono hb.size) (hT.below hb hT.lt) hl8 (club_all hset hl8)
    have HTI : Hid (∀ (g q : Nat) (W : World), q < 256 → Ints W W.heap.size (some ⟨g, 0, none⟩) (duZ k zs) → Tab W → Calls Tryd.prog 71 #[.agg #[.int .i64 (zs.length : Int), .slice (some ⟨g, 0, none⟩) k k], .int .i64 (q : Int)] W fun e w' => e = .returned (.bool (tieB (duZ k zs) q)) ∧ Below W.heap.size W w') := Lib.hid fun g q W hq hi ht => by
      have h := tied8_any zs.length hl8 (some ⟨g, 0, none⟩) k (duZ k zs) q hq W hi (by rw [duZ_len]; omega) (duZ_sets k zs) ht
      rw [duZ_len] at h
      exact h
    obtain ⟨D, hD⟩ : ∃ D, D = duZ k zs := ⟨_, rfl⟩
    obtain ⟨n, hn⟩ : ∃ n, n = zs.length := ⟨_, rfl⟩
    have hT1 := hT.lt
    have HT := Lib.hid hT
    have h16 : 1 ≤ 6 := by omega
    have hmx : Tryd.prog.follows .mixedOrders = true := by kernel_rfl
    have hn8 : n ≤ 8 := by omega
    rw [← hD] at HTI HTU HZ
    rw [← hn] at HA HB0 HFI HTU HTI HZ ⊢
    clear hf hset hn hT hD hl8
    refine (callsIn_wide (n := 6)).1 ?_
    refine callsIn_of_wp_marks Tryd.func33 rfl trivial ?_ rfl
    simp only [Tryd.ntmps33, List.size_toArray, List.length_cons, List.length_nil, Nat.reduceAdd, Nat.reduceSub, Array.replicate_succ, Array.replicate_zero, List.push_toArray, List.append_toArray, List.nil_append, List.cons_append]
    gi_wp2_with fail
    refine ⟨trivial, ?_⟩
    refine (callsIn_wide.2 HFI.out).mono ?_
    rintro e w1 ⟨rfl, hb⟩
    rw [HF.out]
    have b0 : HasBlk w1 w.heap.size #[.int .i64 (k : Int), .slice a n c] 25 := (hb.block _ (by simp)).trans (alloc_new w _)
    have z1 : w.heap.size < w1.heap.size := lt_of_some b0
    have x0 := (blk_cell b0 0).trans (cell2_0 _ _)
    have x1 := (blk_cell b0 1).trans (cell2_1 _ _)
    have HB1 := Lib.hid (HB0.out.trans (hb.mono (by simp)))
    have Q0 := Lib.hid b0
    have Z1 := Lib.hid z1
    clear hb b0 z1
    gi_wp2_with fail
    refine ⟨trivial, ?_⟩
    refine (callsIn_wide.2 (HTU.out w1 HB1.out)).mono ?_
    rintro e w2 ⟨g, rfl, ho, hb2⟩
    have HO := Lib.hid ho
    have HB2 := Lib.hid (HB1.out.trans (hb2.mono HB1.out.size))
    have Q2 : Hid (HasBlk w2 w.heap.size #[.int .i64 (k : Int), .slice a n c] 25) := Lib.hid ((hb2.block _ (lt_of_some Q0.out)).trans Q0.out)
    have y0 := (blk_cell Q2.out 0).trans (cell2_0 _ _)
    have y1 := (blk_cell Q2.out 1).trans (cell2_1 _ _)
    obtain ⟨W3, hW3, p0, p1, p2, hs3, hb3⟩ : ∃ W3, (w2.alloc (.cells #[.int .i64 0] 3)).alloc (.cells #[.int .i64 (n : Int), .slice (some ⟨g, 0, none⟩) k k] 25) = W3 ∧ HasBlk W3 w.heap.size #[.int .i64 (k : Int), .slice a n c] 25 ∧ HasBlk W3 w2.heap.size #[.int .i64 0] 3 ∧ HasBlk W3 (w2.heap.size + 1) #[.int .i64 (n : Int), .slice (some ⟨g, 0, none⟩) k k] 25 ∧ W3.heap.size = w2.heap.size + 1 + 1 ∧ Below w2.heap.size w2 W3 :=
      ⟨_, rfl, (Q2.out.alloc _).alloc _, alloc2_0 w2 _ _, alloc2_1 w2 _ _, by simp, below2 w2 _ _⟩
    obtain ⟨W4, hW4, r1, hs4, hb4⟩ : ∃ W4, (W3.alloc (.cells #[.int .i64 (k : Int), .slice a n c] 25)).alloc (.cells #[.int .i64 ((2 ^ n - 1 : Nat) : Int)] 54) = W4 ∧ HasBlk W4 (w2.heap.size + 1 + 1 + 1) #[.int .i64 ((2 ^ n - 1 : Nat) : Int)] 54 ∧ W4.heap.size = W3.heap.size + 1 + 1 ∧ Below W3.heap.size W3 W4 :=
      ⟨_, rfl, by have := alloc2_1 W3 (.cells #[.int .i64 (k : Int), .slice a n c] 25) (.cells #[.int .i64 ((2 ^ n - 1 : Nat) : Int)] 54); rwa [hs3] at this, by simp, below2 W3 _ _⟩
    have hb24 := hb3.trans (hb4.mono (show w2.heap.size ≤ W3.heap.size by omega))
    have hst := partsF_stops (6 - 1) (by omega) (w2.heap.size + 1 + 1 + 1) n hn8 ((2 ^ n - 1 : Nat) : Int) rfl W4 (by omega) ((blk_cell r1 0).trans (cell1_0 _))
    have HST := Lib.hid hst
    have HQ1 : Hid (HasBlk W4 w2.heap.size #[.int .i64 0] 3) := Lib.hid ((hb4.block _ (by omega)).trans p1)
    have HQ2 : Hid (HasBlk W4 (w2.heap.size + 1) #[.int .i64 (n : Int), .slice (some ⟨g, 0, none⟩) k k] 25) := Lib.hid ((hb4.block _ (by omega)).trans p2)
    have HQ3 := Lib.hid r1
    have HB4 := Lib.hid hb24
    have HI := Lib.hid (own_ints ho)
    have HTW : Hid (∀ W, Below w2.heap.size w2 W → Tab W) := Lib.hid fun W hb => (HT.out.below HB2.out hT1).below hb (by have := HB2.out.size; omega)
    have HZ2 : Hid (w.heap.size ≤ w2.heap.size) := Lib.hid HB2.out.size
    have y0 := (blk_cell p0 0).trans (cell2_0 _ _)
    have y1 := (blk_cell p0 1).trans (cell2_1 _ _)
    rw [← hW3] at y0 y1
    have HW3 := Lib.hid hW3
    have HW4 := Lib.hid hW4
    have HS3 := Lib.hid hs3
    have HS4 := Lib.hid hs4
    clear ho hb2 x0 x1 hW3 hW4 p0 p1 p2 hs3 hb3 hs4 hb4 r1 hb24 hst
    gi_wp2_with (first
      | (refine ⟨trivial, ?_⟩; gi_at_call 69; refine (callsIn_wide.2 (places_any _ _ _ _ _ hn8)).mono ?_; rintro e w' ⟨rfl, rfl⟩)
      | (refine ⟨trivial, ?_⟩; gi_at_call 70; refine (callsIn_wide.2 (partsW_any _ _)).mono ?_; rintro e w' ⟨rfl, rfl⟩))
    rw [HW3.out, HW4.out]
    clear y0 y1
    refine wpIn_rangeFunc_ownG rfl h16 (gf := 92) (lb := #[.pointer (some ⟨w2.heap.size + 1 + 1 + 1, 0, none⟩)]) rfl trivial (enters_of Tryd.func92 (by kernel_rfl) rfl)
      HST.out (fun h k e => k (h e)) ?keepc (Below.refl _ _) (fun _ => rfl)
      (fun pre W => (HasBlk W w2.heap.size #[.int .i64 ((tmOf D (valsF pre) : Nat) : Int)] 3 ∧ HasBlk W (w2.heap.size + 1) #[.int .i64 (n : Int), .slice (some ⟨g, 0, none⟩) k k] 25 ∧ HasBlk W (w2.heap.size + 1 + 1 + 1) #[.int .i64 ((2 ^ n - 1 : Nat) : Int)] 54) ∧ Below w2.heap.size w2 W)
      (fun _ _ _ => False)
      ?own
      (fun _ _ _ _ _ hs _ _ => hs)
      ⟨⟨HQ1.out, HQ2.out, HQ3.out⟩, HB4.out⟩
      (fun x => { tmps := #[.agg #[.int .i64 (k : Int), .slice a n c], .pointer (some ⟨w.heap.size, 0, none⟩), .int .i64 0, .bool false, .pointer (some ⟨w2.heap.size, 0, none⟩), .pointer (some ⟨w2.heap.size + 1, 0, none⟩), .int .i64 (x.1 : Int), .agg #[.int .i64 (k : Int), .slice a n c], .bool true, .bool false, .agg #[.int .i64 (k : Int), .slice a n c], .agg #[.int .i64 (n : Int), .slice (some ⟨g, 0, none⟩) k k], .agg #[.int .i64 (k : Int), .slice a n c], .int .i64 ((2 ^ n - 1 : Nat) : Int), .func (.func 92) #[] #[.pointer (some ⟨w2.heap.size + 1 + 1 + 1, 0, none⟩)], .int .i64 (x.1 : Int), undef, undef, undef, undef, undef, undef, undef, undef], defers := [] }) ?assign ?body ?done ?stop
    case keepc =>
      intro W' l' o o' hl' ho hoc _ hc
      have hne : w2.heap.size + 1 + 1 + 1 ≠ l' := by have := HS4.out; have := HS3.out; omega
      rw [← hc]
      exact World.cell?_of_block (World.putObj_heap_other hne)
    case own =>
      rintro s A B row ⟨⟨h1, h2, h3⟩, h5⟩ hg hr
      have hr' : ∀ (b : Nat) (cs : Array Value) (t : TypeId), HasBlk A b cs t → row ≠ some b := fun b cs t hb e => by
        obtain ⟨-, o, ho, hc⟩ := hr b e
        rw [show A.heap[b]? = _ from hb] at ho; cases ho; cases hc
      exact ⟨⟨h1.kept hg (hr' _ _ _ h1), h2.kept hg (hr' _ _ _ h2), h3.kept hg (hr' _ _ _ h3)⟩, h5.grown hg (by have := h5.size; omega) (fun r e => by have := (hr r e).1; have := HS3.out; have := HS4.out; omega)⟩
    case assign =>
      intro l x W K hK
      gi_wp2
      exact hK
    case body =>
      rintro l pre ⟨x, hxN⟩ W ⟨⟨h1, h2, h3⟩, hB⟩ hlt
      obtain ⟨xx, hxx⟩ : ∃ xx : PrtF (2 ^ n), xx = ⟨x, hxN⟩ := ⟨_, rfl⟩
      have hxv : xx.1 = x := by rw [hxx]
      have hx256 : x < 256 := by have := Nat.pow_le_pow_right (n := 2) (by decide) hn8; omega
      obtain ⟨M, hM⟩ : ∃ M, M = tmOf D (valsF pre) := ⟨_, rfl⟩
      have HSN : Hid (tmOf D (valsF (pre ++ [xx])) = if tieB D x then max M (memK 8 x).length else M) := Lib.hid (by
        rw [valsF_snoc, tmOf_snoc, hM, hxv])
      rw [← hM] at h1
      have hpk := HTI.out g x W hx256 ((HI.out.below hB).mono hB.size) (HTW.out W hB)
      have HPK := Lib.hid hpk
      have x0 := (blk_cell h2 0).trans (cell2_0 _ _)
      have x1 := (blk_cell h2 1).trans (cell2_1 _ _)
      have H1 := Lib.hid h1
      have H2 := Lib.hid h2
      have H3 := Lib.hid h3
      have HB := Lib.hid hB
      have hlen : (memK 8 x).length ≤ 8 := memK_len 8 x
      dsimp only
      rw [← hxx]
      clear h1 h2 h3 hB hxx hxv hpk hM
      cases hp : tieB D x
      · have HP := Lib.hid hp
        have HSN2 : Hid (tmOf D (valsF (pre ++ [xx])) = M) := Lib.hid (by rw [HSN.out, hp]; rfl)
        clear hp
        gi_wp2_with (refine ⟨trivial, ?_⟩; gi_at_call 71; refine (CallsIn.inRound l (callsIn_wide.2 HPK.out)).mono ?_; rintro e w5 ⟨rfl, hb5⟩; rw [HP.out])
        have h3' := (hb5.block _ (lt_of_some H3.out)).trans H3.out
        exact ⟨⟨hb5.size, fun k o _ hk _ => (hb5.block k (lt_of_some hk)).trans hk⟩, fun _ => (blk_cell h3' 0).trans (cell1_0 _), ⟨by rw [HSN2.out]; exact (hb5.block _ (lt_of_some H1.out)).trans H1.out, (hb5.block _ (lt_of_some H2.out)).trans H2.out, h3'⟩, HB.out.trans (hb5.mono HB.out.size)⟩
      · have HP := Lib.hid hp
        have HSN2 : Hid (tmOf D (valsF (pre ++ [xx])) = max M (memK 8 x).length) := Lib.hid (by rw [HSN.out, hp]; rfl)
        clear hp
        gi_wp2_with fail
        refine ⟨trivial, ?_⟩
        refine (CallsIn.inRound l (callsIn_wide.2 HPK.out)).mono ?_
        rintro e w5 ⟨rfl, hb5⟩
        rw [HP.out]
        have h1' : HasBlk w5 w2.heap.size #[.int .i64 (M : Int)] 3 := (hb5.block _ (lt_of_some H1.out)).trans H1.out
        have m0 := (blk_cell h1' 0).trans (cell1_0 _)
        have m1 := blk_frozen h1' 0
        have H1' := Lib.hid h1'
        have HB5 := Lib.hid hb5
        clear h1' hb5
        gi_wp2
        refine wpIn_region_still_tail_o (Fence.Open.wide.inRound l) 4 hmx (by kernel_rfl) (by kernel_rfl) ?_
        simp only [List.take_succ_cons, List.take_zero, List.drop_succ_cons, List.drop_zero]
        repeat still_step
        still_call ((sizeW_any x _ hx256).mono fun _ _ h => ⟨by rw [h.1], h.2.symm⟩)
        repeat still_step
        refine wpStill_nil ?_
        change wpListIn _ _ _ _ _ _ _ w5.drew
        have m0' : w5.drew.cell? ⟨w2.heap.size, 0, none⟩ = some (.int .i64 (M : Int)) := m0
        have m1' : w5.drew.frozen? ⟨w2.heap.size, 0, none⟩ = false := m1
        gi_wp2
        have h3' : HasBlk w5 (w2.heap.size + 1 + 1 + 1) #[.int .i64 ((2 ^ n - 1 : Nat) : Int)] 54 := (HB5.out.block _ (lt_of_some H3.out)).trans H3.out
        have h3s : HasBlk (w5.drew.setCell ⟨w2.heap.size, 0, none⟩ (.int .i64 (max (M : Int) ((memK 8 x).length : Int)))) (w2.heap.size + 1 + 1 + 1) #[.int .i64 ((2 ^ n - 1 : Nat) : Int)] 54 := HasBlk.far (show HasBlk w5.drew _ _ _ from h3') (show w2.heap.size + 1 + 1 + 1 ≠ w2.heap.size by omega) _
        have h2' : HasBlk w5 (w2.heap.size + 1) #[.int .i64 (n : Int), .slice (some ⟨g, 0, none⟩) k k] 25 := (HB5.out.block _ (lt_of_some H2.out)).trans H2.out
        have hks : KeepsFrom W4.heap.size W w5 := ⟨HB5.out.size, fun k o _ hk _ => (HB5.out.block k (lt_of_some hk)).trans hk⟩
        refine ⟨hks.trans ((KeepsOthers.drew w5).trans (KeepsOthers.setCell _ _ _) |>.from _), fun _ => (blk_cell h3s 0).trans (cell1_0 _), ⟨?_, HasBlk.far (show HasBlk w5.drew _ _ _ from h2') (show w2.heap.size + 1 ≠ w2.heap.size by omega) _, h3s⟩, (HB.out.trans (HB5.out.mono HB.out.size)).drew.setCell (p := ⟨w2.heap.size, 0, none⟩) (by show w2.heap.size ≤ w2.heap.size; omega) _⟩
        rw [HSN2.out, show ((max M (memK 8 x).length : Nat) : Int) = max (M : Int) ((memK 8 x).length : Int) by omega]
        exact Boxed.set _ (show Boxed w5.drew _ _ _ from H1'.out)
    case done =>
      rintro E ys W hE hys ⟨⟨h1, -, -⟩, hB⟩ hK
      rw [hys] at h1
      have c0 := (blk_cell h1 0).trans (cell1_0 _)
      have HB := Lib.hid (HB2.out.trans (hB.mono HB2.out.size))
      have HK := Lib.hid hK
      have HEs : Hid (w.heap.size ≤ E) := Lib.hid (by have := HS3.out; have := HS4.out; have := HZ2.out; omega)
      clear h1 hB hK hys
      gi_wp2
      refine ⟨by simp, .inl ⟨_, _, rfl, run_takeDeferred HK.out, ?_⟩⟩
      exact ⟨.tuple #[.int .i64 ((tmOf D (List.range (2 ^ n)) : Nat) : Int), .bool true], by simp [results, Tryd.results33, go_sem], by rw [HZ.out], HB.out.trans (belowK_b (w := w) (Nat.le_refl _) W E _ _ HEs.out HK.out rfl rfl)⟩
    case stop =>
      rintro D c pre W _ _ h _
      exact h.elim

end Go.Proofs.YtgpgocijacgkhaaDoor

/- It is proved that the most clubs that get a member of a set are all clubs but as many as the worst set of places falls short by; conditions: those of each statement. -/
namespace Go.Proofs.YtgpgocijacgkhaaDoor
open Go.RowKit

/-- How many of the first k numbers a set has. -/
def cntK (k s : Nat) : Nat := (memK k s).length

theorem flt_ie (p q : Nat → Bool) : ∀ l : List Nat, (l.filter fun i => p i || q i).length + (l.filter fun i => p i && q i).length = (l.filter p).length + (l.filter q).length
  | [] => rfl
  | x :: l => by
    have ih := flt_ie p q l
    simp only [List.filter_cons]
    cases p x <;> cases q x <;> simp <;> omega

theorem cnt_ie (k a b : Nat) : cntK k (a ||| b) + cntK k (a &&& b) = cntK k a + cntK k b := by
  unfold cntK memK
  simp only [Nat.testBit_or, Nat.testBit_and]
  exact flt_ie _ _ _

end Go.Proofs.YtgpgocijacgkhaaDoor
