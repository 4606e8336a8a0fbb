/- It is proved what the FamilySizes of the program returns; conditions: those of each statement. -/
import Derived.Test.YtckbhhaigpajpaaDoorRows
import Derived.WalkKit
import Derived.WalkSpells
import Derived.ProofKit
import Derived.OpenShut
import Derived.ShutString
import Derived.ChangeOld
import Derived.Below
import Derived.Deep.RegionHeld3
import Derived.Deep.QuietTactic
import Derived.BigQuiet
import Derived.Lib.Hide
import Derived.Lib.SmallJoins
import Derived.Outline
import Derived.Laws.MakeOwn
import Derived.Laws.OwnMore
import Derived.IntWalk
import Derived.RangeFuncNested
import Derived.RangeFuncBound
import Derived.RangeFuncCalls
import Derived.RangeFuncLeaves
import Derived.RangeFuncBox
import Derived.Shelf.Abstract
import Derived.Shelf.RegionOpen
import Derived.OwnWalkIn
import Derived.TacticsInMore
import Derived.LoopNIn
import Derived.LoopIn
import Derived.Maps.AppendAt
import Derived.Deep.AppendLies
import Derived.OwnWalk
import Derived.Test.YtckbhhaigpajpaaDoorRaaa
import Derived.Test.YtckbhhaigpajpaaDoorRaab
import Derived.Test.YtckbhhaigpajpaaDoorRaae
import Derived.Test.YtckbhhaigpajpaaDoorRaad
import Derived.Test.YtckbhhaigpajpaaDoorRaal
import Derived.Test.YtckbhhaigpajpaaDoorZb
import Derived.Test.YtckbhhaigpajpaaDoorZd
namespace Go.Proofs.YtckbhhaigpajpaaDoor
open Go.RowKit Go.Shelf

attribute [local go_sem] Oper.semAt_some

theorem sizes_end {w W w2 : World} {f : Int → Int} {n M G B b0 t0 : Nat} {c0 : Array Value} {pre : List (Nat × Int)} {x : Nat × Int} (hWs : w.heap.size ≤ W.heap.size) (hGM : G < M) (hG : w.heap.size ≤ G) (hlt : pre.length < n)
    (hb2 : Below W.drew.heap.size W.drew w2) (hv : Boxed W M 23 (.slice (some ⟨G, 0, none⟩) pre.length n))
    (hrow : W.ownsRow w.heap.size 3 1 (.slice (some ⟨G, 0, none⟩) pre.length n) pre.length ((pre.map fun p => f p.2).map (Value.int .i64))) (hB : Below w.heap.size w W)
    (q0 : HasBlk W b0 c0 t0) (h0 : b0 < G) :
    KeepsFrom B W (((w2.setCell ⟨G, pre.length, none⟩ (.int .i64 (f x.2))).setCell ⟨M, 0, none⟩ (.slice (some ⟨G, 0, none⟩) (pre.length + 1) n)).alloc (.cells #[.int .i64 (f x.2)] 3)) ∧
    Below w.heap.size W (((w2.setCell ⟨G, pre.length, none⟩ (.int .i64 (f x.2))).setCell ⟨M, 0, none⟩ (.slice (some ⟨G, 0, none⟩) (pre.length + 1) n)).alloc (.cells #[.int .i64 (f x.2)] 3)) ∧
    ((∃ v, Boxed (((w2.setCell ⟨G, pre.length, none⟩ (.int .i64 (f x.2))).setCell ⟨M, 0, none⟩ (.slice (some ⟨G, 0, none⟩) (pre.length + 1) n)).alloc (.cells #[.int .i64 (f x.2)] 3)) M 23 v ∧
      (((w2.setCell ⟨G, pre.length, none⟩ (.int .i64 (f x.2))).setCell ⟨M, 0, none⟩ (.slice (some ⟨G, 0, none⟩) (pre.length + 1) n)).alloc (.cells #[.int .i64 (f x.2)] 3)).ownsRow w.heap.size 3 1 v (pre ++ [x]).length (((pre ++ [x]).map fun p => f p.2).map (Value.int .i64)) ∧
      v = .slice (some ⟨G, 0, none⟩) (pre ++ [x]).length n) ∧
      HasBlk (((w2.setCell ⟨G, pre.length, none⟩ (.int .i64 (f x.2))).setCell ⟨M, 0, none⟩ (.slice (some ⟨G, 0, none⟩) (pre.length + 1) n)).alloc (.cells #[.int .i64 (f x.2)] 3)) b0 c0 t0) ∧
    Below w.heap.size w (((w2.setCell ⟨G, pre.length, none⟩ (.int .i64 (f x.2))).setCell ⟨M, 0, none⟩ (.slice (some ⟨G, 0, none⟩) (pre.length + 1) n)).alloc (.cells #[.int .i64 (f x.2)] 3)) := by
  obtain ⟨k1, k2, ⟨k3, k4, _⟩, k5⟩ := mapped_end (B := B) (x := x) (f := f) hWs hGM hG hlt hb2 hv hrow hB q0 h0 q0 h0 q0 h0
  exact ⟨k1, k2, ⟨k3, k4⟩, k5⟩

theorem made1_0 {w w1 : World} (hg : w.grownBy w1 none) {b : Nat} {o : Obj} (h : w.heap[b]? = some o) : w1.heap[b]? = some o := (hg.block b (lt_of_some h) (by simp)).trans h
set_option maxRecDepth 100000 in
set_option maxHeartbeats 1600000 in
theorem implSizes_no (m : Int) (a : Option Addr) (c : Nat) (zs : List Int) (w : World) (ha : Ints w w.heap.size a zs) (hx : zs.length ≤ 1048576) (hf : famIn m zs = false) :
    Calls Tryd.prog 18 #[.agg #[.int .i64 m, .slice a zs.length c]] w (RetSB w [] false) := by
  have HB0 := Lib.hid (below1 w (.cells #[.int .i64 m, .slice a zs.length c] 25))
  have HA := Lib.hid (ha.below HB0.out)
  have HF := Lib.hid hf
  clear hf ha
  go_enter Tryd.func18, Tryd.ntmps18
  go_wp2_with fail
  refine (implFamilyIn_any _ _ _ zs _ (HA.out.mono (by simp)) hx).mono ?_
  rintro e w1 ⟨rfl, hb⟩
  rw [HF.out]
  have HB := Lib.hid (HB0.out.trans (hb.mono (by simp)))
  clear hb
  go_wp2
  go_ret2
  exact ⟨_, _, rfl, own_nil _ _, HB.out⟩

set_option maxRecDepth 100000 in
set_option maxHeartbeats 4000000 in
theorem sizes_any (m : Int) (a : Option Addr) (c : Nat) (zs : List Int) (w : World) (ha : Ints w w.heap.size a zs) (hx : zs.length ≤ 1048576) (hz : ∀ z ∈ zs, 0 ≤ z ∧ z ≤ 63) :
    Calls Tryd.prog 48 #[.agg #[.int .i64 m, .slice a zs.length c]] w (RetInts w (zs.map pop)) := by
  obtain ⟨i0, hi0, hz0, hz1, hz2⟩ := info_parts Tryd.info3
  obtain ⟨g, hgK, hgP⟩ := size_fn
  have hmapg : zs.map g = zs.map pop := List.map_congr_left fun z hzm => hgP z (hz z hzm).1 (by have := (hz z hzm).2; omega)
  have HMAP := Lib.hid hmapg
  obtain ⟨w0, hw0, p0, hse, hb0⟩ : ∃ w0, w.alloc (.cells #[.int .i64 m, .slice a zs.length c] 25) = w0 ∧ HasBlk w0 w.heap.size #[.int .i64 m, .slice a zs.length c] 25 ∧ w0.heap.size = w.heap.size + 1 ∧ Below w.heap.size w w0 := ⟨_, rfl, alloc_new w _, by simp, below1 w _⟩
  have HIN := Lib.hid ha
  have HK := Lib.hid hgK
  have x1 := blk_cell p0 1
  simp only [cell2_1] at x1
  have hs0 : w.heap.size + 1 ≤ w0.heap.size := by omega
  clear hse
  have HB1 := Lib.hid hb0
  have P0 := Lib.hid p0
  have HW0 := Lib.hid hw0
  clear ha hgK hgP hmapg hb0 p0
  rw [← hw0] at x1
  clear hw0
  refine (callsIn_wide (n := 6)).1 ?_
  refine callsIn_of_wp_marks Tryd.func48 rfl trivial ?_ rfl
  simp only [Tryd.ntmps48, List.size_toArray, List.length_cons, List.length_nil, Nat.reduceAdd, Nat.reduceSub, Array.replicate_succ, Array.replicate_zero, List.push_toArray, List.append_toArray, List.nil_append, List.cons_append]
  gi_wp2_with (gi_at_make; refine mark_make ?_)
  rw [HW0.out]
  refine unmark_make ?_
  refine wpListIn_make_own _ rfl _ _ 23 rfl w0.heap.size 3 i0 (.int .i64 0) 1 Tryd.underlying23 hi0 hz0 hz1 .i64 .i64 _ zs.length rfl rfl rfl (by rw [hz2]; omega) (by simp only [maxLen]; omega) (Nat.le_refl _) ?_
  intro w1 hown hg
  have q0 := made1_0 hg P0.out
  have y0 := blk_cell (w := w1.alloc (.cells #[.slice (some ⟨w0.heap.size, 0, none⟩) 0 zs.length] 23)) ((alloc_old _ _ _ (lt_of_some q0)).trans q0) 0
  have y1 := blk_cell (w := w1.alloc (.cells #[.slice (some ⟨w0.heap.size, 0, none⟩) 0 zs.length] 23)) ((alloc_old _ _ _ (lt_of_some q0)).trans q0) 1
  have hGl : w0.heap.size < w1.heap.size := (World.ownsRow.lt hown _ rfl).2
  have HQ0 := Lib.hid q0
  have HO := Lib.hid hown
  have HG := Lib.hid (HB1.out.trans (((Below.refl w0.heap.size w0).grown hg (Nat.le_refl _) (by simp)).mono (by omega)))
  clear q0 hown hg x1
  simp only [cell2_0, cell2_1] at y0 y1
  gi_wp2_with (refine ⟨trivial, ?_⟩; gi_at_call 50; refine (callsIn_wide.2 (clubs_any _ _ _ _ _)).mono ?_; rintro e w' ⟨rfl, rfl⟩)
  have hle : w.heap.size ≤ w1.heap.size := by omega
  have h16 : 1 ≤ 6 := by omega
  have hmx : Tryd.prog.follows .mixedOrders = true := by kernel_rfl
  have bA := Boxed.new w1 23 (.slice (some ⟨w0.heap.size, 0, none⟩) 0 zs.length)
  have HBB : Hid (Below w.heap.size w ((w1.alloc (.cells #[.slice (some ⟨w0.heap.size, 0, none⟩) 0 zs.length] 23)).alloc (.cells #[.int .i64 m, .slice a zs.length c] 25))) := Lib.hid (HG.out.trans ((below2 w1 _ _).mono (by omega)))
  have hst := clubs_stops (6 - 1) (by omega) (w1.heap.size + 1) w.heap.size a c zs hx ((w1.alloc (.cells #[.slice (some ⟨w0.heap.size, 0, none⟩) 0 zs.length] 23)).alloc (.cells #[.int .i64 m, .slice a zs.length c] 25)) (by simp) (by simp; omega)
    (by have := blk_cell (alloc_new (w1.alloc (.cells #[.slice (some ⟨w0.heap.size, 0, none⟩) 0 zs.length] 23)) (.cells #[.int .i64 m, .slice a zs.length c] 25)) 1; simp) (HIN.out.below HBB.out)
  refine wpIn_rangeFunc_ownG rfl h16 (gf := 86) (lb := #[.pointer (some ⟨w1.heap.size + 1, 0, none⟩)]) rfl trivial (enters_of Tryd.func86 (by kernel_rfl) rfl)
    hst belowK_t (belowK_b (by simp; omega)) (Below.refl _ _) (fun _ => rfl)
    (fun pre W => ((∃ v, Boxed W w1.heap.size 23 v ∧ W.ownsRow w.heap.size 3 1 v pre.length ((pre.map fun p => g p.2).map (Value.int .i64)) ∧ v = .slice (some ⟨w0.heap.size, 0, none⟩) pre.length zs.length) ∧ HasBlk W w.heap.size #[.int .i64 m, .slice a zs.length c] 25) ∧ Below w.heap.size w W)
    (fun _ _ _ => False)
    (OwnFrom.and (OwnFrom.and (Own.from (holdsRow_own w.heap.size w1.heap.size 23 3 1 (fun (pre : List (Nat × Int)) => pre.length) (fun (pre : List (Nat × Int)) => (pre.map fun p => g p.2).map (Value.int .i64)) (fun (pre : List (Nat × Int)) v => v = .slice (some ⟨w0.heap.size, 0, none⟩) pre.length zs.length)) _) (Own.from (hasBlk_own _ _ _) _)) (ownFrom_below (Nat.le_refl _) (by simp; omega)))
    (fun _ _ _ _ _ hs _ _ => hs)
    ⟨⟨⟨_, bA.alloc _, by have := ownsRow_base HO.out (B := w.heap.size) (by omega); simpa using (this.alloc _).alloc _, rfl⟩, (HasBlk.alloc HQ0.out _).alloc _⟩, HBB.out⟩
    (fun x => { tmps := #[.agg #[.int .i64 m, .slice a zs.length c], .pointer (some ⟨w.heap.size, 0, none⟩), .slice none 0 0, .pointer (some ⟨w1.heap.size, 0, none⟩), undef, .int .i64 x.2, .pointer (some ⟨w.heap.size, 1, none⟩), .slice a zs.length c, .int .i64 zs.length, .slice (some ⟨w0.heap.size, 0, none⟩) 0 zs.length, .agg #[.int .i64 m, .slice a zs.length c], .func (.func 86) #[] #[.pointer (some ⟨w1.heap.size + 1, 0, none⟩)], .int .i64 (x.1 : Int), .int .i64 x.2, undef, undef, undef, undef, undef, undef], defers := [] }) ?assign ?body ?done ?stop
  case assign =>
    intro l x W K hK
    gi_wp2
    exact hK
  case body =>
    rintro l pre x W ⟨⟨⟨v, hv, hrow, rfl⟩, q0⟩, hB⟩ hlt
    have hc := hv.cell
    have HV := Lib.hid hv
    have HR := Lib.hid hrow
    have hWs : w.heap.size ≤ W.heap.size := hB.size
    have HB := Lib.hid hB
    have HQ0' := Lib.hid q0
    clear hv hrow hB q0
    have hGlt : w0.heap.size < w1.heap.size := hGl
    have hMB : w1.heap.size < W.drew.heap.size := HV.out.lt
    gi_wp2
    gi_region_with_o (refine ⟨trivial, ?_⟩; gi_at_call 51; refine (CallsIn.inRound l (callsIn_wide.2 (HK.out _ _))).mono ?_; rintro e w2 ⟨rfl, hb2⟩; obtain ⟨u, hcu, hfu⟩ := spare_cell (own_after HR.out hb2) pre.length hlt; have hlt2 := lt_of_cell hcu; have hcu' := (World.cell?_alloc_lt w2 (.cells #[.int .i64 (g x.2)] 3) _ hlt2).trans hcu; have hc2 := (hb2.cell (p := ⟨w1.heap.size, 0, none⟩) hMB).trans hc; have hf2 := (hb2.frozen (p := ⟨w1.heap.size, 0, none⟩) hMB).trans HV.out.frozen; have hMB2 := lt_of_cell hc2; have hc3 := after_spare (y := .int .i64 (g x.2)) (k := pre.length) (o := .cells #[.int .i64 (g x.2)] 3) hGlt hMB2 hc2; have hf3 := after_spare_f (y := .int .i64 (g x.2)) (k := pre.length) (o := .cells #[.int .i64 (g x.2)] 3) hGlt hMB2 hf2)
    all_goals exact sizes_end (x := x) (f := g) hWs hGlt (by omega) hlt hb2 HV.out HR.out HB.out HQ0'.out (by omega)
  case done =>
    rintro D ys W hD rfl ⟨⟨⟨v, hv, hrow, rfl⟩, q0⟩, hB⟩ hK
    rw [pairs_length] at hv hrow
    have hmap : (pairs zs zs.length).map (fun p => g p.2) = zs.map pop := by
      rw [show (fun p : Nat × Int => g p.2) = g ∘ (fun p => p.2) from rfl, ← List.map_map, pairs_all, HMAP.out]
    rw [hmap] at hrow
    have hc := hv.cell
    have HR := Lib.hid hrow
    have HB := Lib.hid hB
    clear hv hrow hB q0 hmap
    gi_wp2
    refine ⟨by simp, .inl ⟨_, _, rfl, run_takeDeferred hK, ?_⟩⟩
    refine ⟨.slice (some ⟨w0.heap.size, 0, none⟩) zs.length zs.length, by simp [results, Tryd.results48, go_sem], _, _, by rw [List.length_map], ?_, ?_⟩
    · rw [List.length_map]
      unfold OwnI
      rw [List.length_map]
      exact ownsRow_putObj HR.out _ hK rfl
    · exact HB.out.trans (belowK_b (w := w) (Nat.le_refl _) W D _ _ (by simp at hD; omega) hK rfl rfl)
  case stop =>
    rintro D c pre W _ _ h _
    exact h.elim

set_option maxRecDepth 100000 in
set_option maxHeartbeats 1600000 in
theorem implSizes_yes (m : Int) (a : Option Addr) (c : Nat) (zs : List Int) (w : World) (ha : Ints w w.heap.size a zs) (hx : zs.length ≤ 1048576) (hf : famIn m zs = true) :
    Calls Tryd.prog 18 #[.agg #[.int .i64 m, .slice a zs.length c]] w (RetSB w (zs.map pop) true) := by
  have HB0 := Lib.hid (below1 w (.cells #[.int .i64 m, .slice a zs.length c] 25))
  have HA := Lib.hid (ha.below HB0.out)
  have HF := Lib.hid hf
  have HZ : Hid (∀ z ∈ zs, 0 ≤ z ∧ z ≤ 63) := Lib.hid (by
    obtain ⟨hm1, hm6, -, hz⟩ := famIn_out hf
    have hfu := fullI_63 hm1 hm6
    exact fun z hzm => ⟨(hz z hzm).1, by have := (hz z hzm).2; omega⟩)
  clear hf ha
  go_enter Tryd.func18, Tryd.ntmps18
  go_wp2_with fail
  refine (implFamilyIn_any _ _ _ zs _ (HA.out.mono (by simp)) hx).mono ?_
  rintro e w1 ⟨rfl, hb⟩
  rw [HF.out]
  have b0 : HasBlk w1 w.heap.size #[.int .i64 m, .slice a zs.length c] 25 := (hb.block _ (by simp)).trans (alloc_new w _)
  have x0 := (blk_cell b0 0).trans (cell2_0 _ _)
  have x1 := (blk_cell b0 1).trans (cell2_1 _ _)
  have HB := Lib.hid (HB0.out.trans (hb.mono (by simp)))
  have HI1 := Lib.hid ((HA.out.below (hb.mono (by simp))).mono (show w.heap.size ≤ w1.heap.size from Nat.le_of_lt (lt_of_some b0)))
  clear hb b0
  go_wp2_with fail
  refine (sizes_any m a c zs w1 HI1.out hx HZ.out).mono ?_
  rintro e w2 ⟨a2, c2, rfl, ho2, hb2⟩
  have HO2 := Lib.hid ho2
  have HB2 := Lib.hid (HB.out.trans (hb2.mono HB.out.size))
  clear ho2 hb2
  go_wp2
  go_ret2
  exact ⟨a2, c2, by simp, own_mono HO2.out HB.out.size, HB2.out⟩

theorem implSizes_any (m : Int) (a : Option Addr) (c : Nat) (zs : List Int) (w : World) (ha : Ints w w.heap.size a zs) (hx : zs.length ≤ 1048576) :
    Calls Tryd.prog 18 #[.agg #[.int .i64 m, .slice a zs.length c]] w (RetSB w (sizesZ m zs) (famIn m zs)) := by
  unfold sizesZ
  cases hf : famIn m zs
  · exact implSizes_no m a c zs w ha hx hf
  · exact implSizes_yes m a c zs w ha hx hf

end Go.Proofs.YtckbhhaigpajpaaDoor
