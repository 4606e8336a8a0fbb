/- It is proved what CoverMany of the program returns; conditions: those of each statement. -/
import Derived.RowKit
import Derived.Laws.CopyRow
import Derived.Lib.SlBuf
import Derived.Deep.QuietTactic
import Derived.RangeFuncNested
import Derived.RangeFuncBound
import Derived.RangeFuncCalls
import Derived.RangeFuncLeaves
import Derived.RangeFuncBox
import Derived.RangeFuncWrites
import Derived.StillTailTactics
import Derived.Maps.OwnIn
import Derived.Maps.Ext
import Derived.DeepKeys4
import Derived.MapKept
import Derived.Test.YtcmpjegfikdofaaDoorRows
import Derived.WalkKit
import Derived.WalkSpells
import Derived.ProofKit
import Derived.OpenShut
import Derived.ShutString
import Derived.ChangeOld
import Derived.Below
import Derived.Deep.RegionHeld3
import Derived.BigQuiet
import Derived.Lib.Hide
import Derived.Lib.SmallJoins
import Derived.Outline
import Derived.Laws.MakeOwn
import Derived.Laws.OwnMore
import Derived.IntWalk
import Derived.Lib.AppendZeros
import Derived.Maps.AppendAt
import Derived.Deep.AppendLies
import Derived.OwnWalk
import Derived.Lib.SlicesCompact
import Derived.Lib.OwnBridge
import Derived.OrdersIn
import Derived.TacticsIn
import Derived.Shelf.Sort.Plain
import Derived.Shelf.Slices.In.SortNone
import Derived.Shelf.Slices.CompactI
import Derived.Ground.Names2Prog
import Derived.Lib.SliceRun
import Derived.Shelf.Abstract
import Derived.Shelf.RegionOpen
import Derived.OwnWalkIn
import Derived.TacticsInMore
import Derived.LoopNIn
import Derived.LoopIn
import Derived.StillTail
import Derived.StillTactics
import Derived.Shelf.Spec.TrailingZeros
import Derived.Test.YtcmpjegfikdofaaDoorMrar
import Derived.Test.YtcmpjegfikdofaaDoorMraa
import Derived.Test.YtcmpjegfikdofaaDoorMrae
import Derived.Test.YtcmpjegfikdofaaDoorMraf
import Derived.Test.YtcmpjegfikdofaaDoorMrag
import Derived.Test.YtcmpjegfikdofaaDoorKa
import Derived.Test.YtcmpjegfikdofaaDoorKc
import Derived.Test.YtcmpjegfikdofaaDoorMraw
import Derived.Test.YtcmpjegfikdofaaDoorMras
import Derived.Test.YtcmpjegfikdofaaDoorKg
import Derived.Test.YtcmpjegfikdofaaDoorKh
import Derived.Test.YtcmpjegfikdofaaDoorKl
import Derived.Test.YtcmpjegfikdofaaDoorMrbd
import Derived.Test.YtcmpjegfikdofaaDoorMrab
namespace Go.Proofs.YtcmpjegfikdofaaDoor
open Go.RowKit Go.Shelf

attribute [local go_sem] Oper.semAt_some

/-- The number of covers. -/
def manyC (k : Nat) (zs : List Int) : Nat := ((List.range (2 ^ k)).filter (covB zs)).length

def coverZ (m : Int) (zs : List Int) : Int := if famIn m zs then ((manyC m.toNat zs : Nat) : Int) else 0
set_option maxRecDepth 100000 in
set_option maxHeartbeats 4000000 in
theorem implCoverMany_any (m : Int) (a : Option Addr) (c : Nat) (zs : List Int) (w : World) (ha : Ints w w.heap.size a zs) (hx : zs.length ≤ 1048576) :
    Calls Tryd.prog 36 #[.agg #[.int .i64 m, .slice a zs.length c]] w (RetIB w (coverZ m zs) (famIn m zs)) := by
  have HB0 := Lib.hid (below1 w (.cells #[.int .i64 m, .slice a zs.length c] 25))
  have HA := Lib.hid (ha.below HB0.out)
  have HA0 := Lib.hid ha
  clear ha
  cases hf : famIn m zs
  · have HF := Lib.hid hf
    have HZ : Hid (coverZ m zs = 0) := Lib.hid (by unfold coverZ; rw [hf]; rfl)
    clear hf
    go_enter Tryd.func36, Tryd.ntmps36
    go_wp2_with fail
    refine (implFamilyIn_any _ _ _ zs _ (HA.out.mono (by simp)) hx).mono ?_
    rintro e w1 ⟨rfl, hb⟩
    rw [HF.out]
    have HB := Lib.hid (HB0.out.trans (hb.mono (by simp)))
    clear hb
    go_wp2
    go_ret2
    exact ⟨by rw [HZ.out]; rfl, HB.out⟩
  · have HF := Lib.hid hf
    obtain ⟨k, rfl, hk1, hk6, hset, hl8⟩ := fam_nat2 hf
    have HZ : Hid (coverZ (k : Int) zs = ((manyC k zs : Nat) : Int)) := Lib.hid (by unfold coverZ; rw [hf]; rfl)
    have HFI := Lib.hid (implFamilyIn_any (k : Int) a c zs _ (HA.out.mono (show w.heap.size ≤ (w.alloc (.cells #[.int .i64 (k : Int), .slice a zs.length c] 25)).heap.size by simp)) hx)
    have h16 : 1 ≤ 6 := by omega
    have hp64 : 2 ^ k ≤ 64 := Nat.pow_le_pow_right (n := 2) (by decide) hk6
    clear hf
    refine (callsIn_wide (n := 6)).1 ?_
    refine callsIn_of_wp_marks Tryd.func36 rfl trivial ?_ rfl
    simp only [Tryd.ntmps36, List.size_toArray, List.length_cons, List.length_nil, Nat.reduceAdd, Nat.reduceSub, Array.replicate_succ, Array.replicate_zero, List.push_toArray, List.append_toArray, List.nil_append, List.cons_append]
    gi_wp2_with fail
    refine ⟨trivial, ?_⟩
    refine (callsIn_wide.2 HFI.out).mono ?_
    rintro e w1 ⟨rfl, hb⟩
    rw [HF.out]
    have b0 : w1.heap[w.heap.size]? = some (.cells #[.int .i64 (k : Int), .slice a zs.length c] 25 (0, 0)) := (hb.block _ (by simp)).trans (alloc_new w _)
    have z1 : w.heap.size < w1.heap.size := lt_of_some b0
    obtain ⟨W2, hW2, q0, q1, hs2, hb2⟩ : ∃ W2, w1.alloc (.cells #[.int .i64 0] 3) = W2 ∧ HasBlk W2 w.heap.size #[.int .i64 (k : Int), .slice a zs.length c] 25 ∧ HasBlk W2 w1.heap.size #[.int .i64 0] 3 ∧ W2.heap.size = w1.heap.size + 1 ∧ Below w1.heap.size w1 W2 :=
      ⟨_, rfl, HasBlk.alloc b0 _, alloc_new w1 _, by simp, below1 w1 _⟩
    have y0 := (blk_cell q0 0).trans (cell2_0 _ _)
    have y1 := (blk_cell q0 1).trans (cell2_1 _ _)
    rw [← hW2] at y0 y1
    obtain ⟨W4, hW4, r1, hs4, hb4⟩ : ∃ W4, W2.alloc (.cells #[.int .i64 (k : Int), .slice a zs.length c] 25) = W4 ∧ HasBlk W4 (w1.heap.size + 1) #[.int .i64 (k : Int), .slice a zs.length c] 25 ∧ W4.heap.size = W2.heap.size + 1 ∧ Below W2.heap.size W2 W4 :=
      ⟨_, rfl, by have := alloc_new W2 (.cells #[.int .i64 (k : Int), .slice a zs.length c] 25); rwa [hs2] at this, by simp, below1 W2 _⟩
    have hb14 := hb2.trans (hb4.mono (show w1.heap.size ≤ W2.heap.size by omega))
    have hb04 := (HB0.out.trans (hb.mono (by simp))).trans (hb14.mono (show w.heap.size ≤ w1.heap.size by omega))
    have hst := covers1_in (6 - 1) w.heap.size w1.heap.size (w1.heap.size + 1) k hk1 hk6 a c zs (by omega) hset W4 r1 (by omega) (by omega) (by omega) (by omega) (HA0.out.below hb04)
    have HST := Lib.hid hst
    have HQ1 : Hid (HasBlk W4 w1.heap.size #[.int .i64 0] 3) := Lib.hid ((hb4.block _ (by omega)).trans q1)
    have HB4 := Lib.hid hb04
    have HW2 := Lib.hid hW2
    have HW4 := Lib.hid hW4
    have HS2 := Lib.hid hs2
    have HS4 := Lib.hid hs4
    have Z1 := Lib.hid z1
    clear hb b0 hW2 q0 q1 hs2 hb2 hW4 r1 hs4 hb4 hb14 hst z1 hb04
    gi_wp2_with (refine ⟨trivial, ?_⟩; gi_at_call 71; refine (callsIn_wide.2 (covers_any _ _ _ _ _)).mono ?_; rintro e w' ⟨rfl, rfl⟩)
    rw [HW2.out, HW4.out]
    refine wpIn_rangeFunc_fam (n := 6) h16 (gf := 90) (lb := #[.pointer (some ⟨w1.heap.size + 1, 0, none⟩)]) rfl (enters_of Tryd.func90 (by kernel_rfl) rfl)
      HST.out (Below.refl _ _) (by have := HS2.out; have := HS4.out; omega) (fun _ => rfl)
      (fun pre W => HasBlk W w1.heap.size #[.int .i64 ((pre.length : Nat) : Int)] 3 ∧ Below w.heap.size w W)
      (fun _ _ => False)
      ?own
      (fun _ _ _ _ hs _ _ => hs)
      ⟨HQ1.out, HB4.out⟩
      (fun x => { tmps := #[.agg #[.int .i64 (k : Int), .slice a zs.length c], .pointer (some ⟨w.heap.size, 0, none⟩), .int .i64 0, .bool false, .pointer (some ⟨w1.heap.size, 0, none⟩), .agg #[.int .i64 (k : Int), .slice a zs.length c], .bool true, .bool false, .agg #[.int .i64 (k : Int), .slice a zs.length c], .func (.func 90) #[] #[.pointer (some ⟨w1.heap.size + 1, 0, none⟩)], .int .i64 (x.1 : Int), undef, undef, undef], defers := [] }) ?assign ?body ?done ?stop
    case own =>
      rintro s A B row ⟨h1, h5⟩ hg hr
      exact ⟨h1.kept hg (fun e => by have := (hr _ e).1; have := HS2.out; have := HS4.out; omega), h5.grown hg (by have := h5.size; omega) (fun r e => by have := (hr r e).1; have := HS2.out; have := HS4.out; have := Z1.out; omega)⟩
    case assign =>
      intro l x W K hK
      gi_wp2
      simp
      exact hK
    case body =>
      rintro l pre x W ⟨h1, hB⟩ hlt
      obtain ⟨N, hN⟩ : ∃ N, N = pre.length := ⟨_, rfl⟩
      have HN : Hid ((pre ++ [x]).length = N + 1) := Lib.hid (by rw [hN]; simp)
      have hN64 : N < 64 := by omega
      rw [← hN] at h1
      have m0 := (blk_cell h1 0).trans (cell1_0 _)
      have m1 := blk_frozen h1 0
      have H1 := Lib.hid h1
      have HB := Lib.hid hB
      have hN0 : (0 : Int) ≤ (N : Int) := by omega
      have hN1 : (N : Int) ≤ 64 := by omega
      clear h1 hB hN hlt
      gi_wp2
      refine ⟨ButF.of_but (But.setCell (X := fun b => b = w1.heap.size) W w1.heap.size 0 _ (fun _ => rfl)) (fun b e => .inr e), ?_, HB.out.setCell (p := ⟨w1.heap.size, 0, none⟩) (by have := Z1.out; show w.heap.size ≤ w1.heap.size; omega) _⟩
      rw [HN.out, show ((N + 1 : Nat) : Int) = (N : Int) + 1 by omega]
      exact Boxed.set _ H1.out
    case done =>
      rintro E ys W hE hys ⟨h1, hB⟩ hK
      have hl : ys.length = manyC k zs := by
        have := congrArg List.length hys
        unfold valsF at this
        rw [List.length_map] at this
        exact this
      rw [hl] at h1
      have c0 := (blk_cell h1 0).trans (cell1_0 _)
      have HB := Lib.hid hB
      have HK := Lib.hid hK
      have HEs : Hid (w.heap.size ≤ E) := Lib.hid (by have := HS2.out; have := HS4.out; have := Z1.out; omega)
      clear h1 hB hK hys hl
      gi_wp2
      refine ⟨by simp, .inl ⟨_, _, rfl, run_takeDeferred HK.out, ?_⟩⟩
      exact ⟨.tuple #[.int .i64 ((manyC k zs : Nat) : Int), .bool true], by simp [results, Tryd.results36, go_sem], by rw [HZ.out], HB.out.trans (belowK_b (w := w) (Nat.le_refl _) W E _ _ HEs.out HK.out rfl rfl)⟩
    case stop =>
      rintro E pre W hE hp h hK
      exact h.elim

end Go.Proofs.YtcmpjegfikdofaaDoor
