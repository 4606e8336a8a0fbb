/- It is proved what the FamilySizes of the program returns; conditions: those of each statement. -/
import Derived.Test.YtcnicdaagknmpaaDoorRows
import Derived.WalkKit
import Derived.WalkSpells
import Derived.ProofKit
import Derived.OpenShut
import Derived.ShutString
import Derived.ChangeOld
import Derived.Below
import Derived.Deep.RegionHeld3
import Derived.Deep.QuietTactic
import Derived.BigQuiet
import Derived.Lib.Hide
import Derived.Lib.SmallJoins
import Derived.Outline
import Derived.Laws.MakeOwn
import Derived.Laws.OwnMore
import Derived.IntWalk
import Derived.RangeFuncNested
import Derived.RangeFuncBound
import Derived.RangeFuncCalls
import Derived.RangeFuncLeaves
import Derived.RangeFuncBox
import Derived.Shelf.Abstract
import Derived.Shelf.RegionOpen
import Derived.OwnWalkIn
import Derived.TacticsInMore
import Derived.LoopNIn
import Derived.LoopIn
import Derived.Maps.AppendAt
import Derived.Deep.AppendLies
import Derived.OwnWalk
import Derived.Test.YtcnicdaagknmpaaDoorGaaa
import Derived.Test.YtcnicdaagknmpaaDoorGaac
import Derived.Test.YtcnicdaagknmpaaDoorGaab
import Derived.Test.YtcnicdaagknmpaaDoorGaaq
import Derived.Test.YtcnicdaagknmpaaDoorGaad
import Derived.RowKit
import Derived.Laws.CopyRow
import Derived.Lib.SlBuf
import Derived.RangeFuncWrites
import Derived.StillTailTactics
import Derived.Maps.OwnIn
import Derived.Maps.Ext
import Derived.DeepKeys4
import Derived.MapKept
import Derived.Sort.MapsRangeIn
import Derived.Deep.RegionLaw
import Derived.Deep.RegionWith
import Derived.Lib.AppendZeros
import Derived.Lib.SlicesCompact
import Derived.Lib.OwnBridge
import Derived.OrdersIn
import Derived.TacticsIn
import Derived.Shelf.Sort.Plain
import Derived.Shelf.Slices.In.SortNone
import Derived.Shelf.Slices.CompactI
import Derived.Ground.Names2Prog
import Derived.Deep.DeepCutAuto
import Derived.StillTail
import Derived.StillTactics
import Derived.Shelf.Spec.TrailingZeros
import Derived.Test.YtcnicdaagknmpaaDoorGaan
import Derived.Test.YtcnicdaagknmpaaDoorGaao
import Derived.Test.YtcnicdaagknmpaaDoorGaap
import Derived.Test.YtcnicdaagknmpaaDoorGaas
import Derived.Test.YtcnicdaagknmpaaDoorQj
import Derived.Test.YtcnicdaagknmpaaDoorGaae
import Derived.Test.YtcnicdaagknmpaaDoorGaar
import Derived.Lib.LaidTab
import Derived.LaidMore
import Derived.Stop.Joined
namespace Go.Proofs.YtcnicdaagknmpaaDoor
open Go.RowKit Go.Shelf

attribute [local go_sem] Oper.semAt_some

theorem sizes_end {w W w2 : World} {f : Int → Int} {n M G B b0 t0 : Nat} {c0 : Array Value} {pre : List (Nat × Int)} {x : Nat × Int} (hWs : w.heap.size ≤ W.heap.size) (hGM : G < M) (hG : w.heap.size ≤ G) (hlt : pre.length < n)
    (hb2 : Below W.drew.heap.size W.drew w2) (hv : Boxed W M 23 (.slice (some ⟨G, 0, none⟩) pre.length n))
    (hrow : W.ownsRow w.heap.size 3 1 (.slice (some ⟨G, 0, none⟩) pre.length n) pre.length ((pre.map fun p => f p.2).map (Value.int .i64))) (hB : Below w.heap.size w W)
    (q0 : HasBlk W b0 c0 t0) (h0 : b0 < G) :
    KeepsFrom B W (((w2.setCell ⟨G, pre.length, none⟩ (.int .i64 (f x.2))).setCell ⟨M, 0, none⟩ (.slice (some ⟨G, 0, none⟩) (pre.length + 1) n)).alloc (.cells #[.int .i64 (f x.2)] 3)) ∧
    Below w.heap.size W (((w2.setCell ⟨G, pre.length, none⟩ (.int .i64 (f x.2))).setCell ⟨M, 0, none⟩ (.slice (some ⟨G, 0, none⟩) (pre.length + 1) n)).alloc (.cells #[.int .i64 (f x.2)] 3)) ∧
    ((∃ v, Boxed (((w2.setCell ⟨G, pre.length, none⟩ (.int .i64 (f x.2))).setCell ⟨M, 0, none⟩ (.slice (some ⟨G, 0, none⟩) (pre.length + 1) n)).alloc (.cells #[.int .i64 (f x.2)] 3)) M 23 v ∧
      (((w2.setCell ⟨G, pre.length, none⟩ (.int .i64 (f x.2))).setCell ⟨M, 0, none⟩ (.slice (some ⟨G, 0, none⟩) (pre.length + 1) n)).alloc (.cells #[.int .i64 (f x.2)] 3)).ownsRow w.heap.size 3 1 v (pre ++ [x]).length (((pre ++ [x]).map fun p => f p.2).map (Value.int .i64)) ∧
      v = .slice (some ⟨G, 0, none⟩) (pre ++ [x]).length n) ∧
      HasBlk (((w2.setCell ⟨G, pre.length, none⟩ (.int .i64 (f x.2))).setCell ⟨M, 0, none⟩ (.slice (some ⟨G, 0, none⟩) (pre.length + 1) n)).alloc (.cells #[.int .i64 (f x.2)] 3)) b0 c0 t0) ∧
    Below w.heap.size w (((w2.setCell ⟨G, pre.length, none⟩ (.int .i64 (f x.2))).setCell ⟨M, 0, none⟩ (.slice (some ⟨G, 0, none⟩) (pre.length + 1) n)).alloc (.cells #[.int .i64 (f x.2)] 3)) := by
  obtain ⟨k1, k2, ⟨k3, k4, _⟩, k5⟩ := mapped_end (B := B) (x := x) (f := f) hWs hGM hG hlt hb2 hv hrow hB q0 h0 q0 h0 q0 h0
  exact ⟨k1, k2, ⟨k3, k4⟩, k5⟩

theorem made1_0 {w w1 : World} (hg : w.grownBy w1 none) {b : Nat} {o : Obj} (h : w.heap[b]? = some o) : w1.heap[b]? = some o := (hg.block b (lt_of_some h) (by simp)).trans h
set_option maxRecDepth 100000 in
set_option maxHeartbeats 1600000 in
theorem implSizes_no (m : Int) (a : Option Addr) (c : Nat) (zs : List Int) (w : World) (ha : Ints w w.heap.size a zs) (hx : zs.length ≤ 1048576) (hf : famIn m zs = false) :
    Calls Tryd.prog 7 #[.agg #[.int .i64 m, .slice a zs.length c]] w (RetSB w [] false) := by
  have HB0 := Lib.hid (below1 w (.cells #[.int .i64 m, .slice a zs.length c] 25))
  have HA := Lib.hid (ha.below HB0.out)
  have HF := Lib.hid hf
  clear hf ha
  go_enter Tryd.func7, Tryd.ntmps7
  go_wp2_with fail
  refine (implFamilyIn_any _ _ _ zs _ (HA.out.mono (by simp)) hx).mono ?_
  rintro e w1 ⟨rfl, hb⟩
  rw [HF.out]
  have HB := Lib.hid (HB0.out.trans (hb.mono (by simp)))
  clear hb
  go_wp2
  go_ret2
  exact ⟨_, _, rfl, own_nil _ _, HB.out⟩

set_option maxRecDepth 100000 in
set_option maxHeartbeats 4000000 in
theorem implSizes_yes (m : Int) (a : Option Addr) (c : Nat) (zs : List Int) (w : World) (ha : Ints w w.heap.size a zs) (hx : zs.length ≤ 1048576) (hf : famIn m zs = true) :
    Calls Tryd.prog 7 #[.agg #[.int .i64 m, .slice a zs.length c]] w (RetSB w (zs.map pop) true) := by
  obtain ⟨i0, hi0, hz0, hz1, hz2⟩ := info_parts Tryd.info3
  obtain ⟨g, hgK, hgP⟩ := size_fn
  have hmapg : zs.map g = zs.map pop := by
    obtain ⟨hm1, hm6, -, hz⟩ := famIn_out hf
    have hfu := fullI_63 hm1 hm6
    exact List.map_congr_left fun z hzm => hgP z (hz z hzm).1 (by have := (hz z hzm).2; omega)
  have HMAP := Lib.hid hmapg
  have HB0 := Lib.hid (below1 w (.cells #[.int .i64 m, .slice a zs.length c] 25))
  have HA := Lib.hid (ha.below HB0.out)
  have HIN := Lib.hid ha
  have HF := Lib.hid hf
  have HK := Lib.hid hgK
  clear hf ha hgK hgP hmapg
  refine (callsIn_wide (n := 6)).1 ?_
  refine callsIn_of_wp_marks Tryd.func7 rfl trivial ?_ rfl
  simp only [Tryd.ntmps7, List.size_toArray, List.length_cons, List.length_nil, Nat.reduceAdd, Nat.reduceSub, Array.replicate_succ, Array.replicate_zero, List.push_toArray, List.append_toArray, List.nil_append, List.cons_append]
  gi_wp2_with fail
  refine ⟨trivial, (callsIn_wide.2 (implFamilyIn_any _ _ _ zs _ (HA.out.mono (by simp)) hx)).mono ?_⟩
  rintro e w0 ⟨rfl, hb⟩
  rw [HF.out]
  have p0 : w0.heap[w.heap.size]? = some (.cells #[.int .i64 m, .slice a zs.length c] 25 (0, 0)) := (hb.block _ (by simp)).trans (alloc_new w _)
  have x1 := blk_cell p0 1
  simp only [cell2_1] at x1
  have hs0 : w.heap.size + 1 ≤ w0.heap.size := by have := hb.size; simpa using this
  have HB1 := Lib.hid (HB0.out.trans (hb.mono (by simp)))
  have HA1 := Lib.hid (HA.out.below (hb.mono (by simp)))
  have P0 := Lib.hid p0
  clear hb p0
  gi_wp2_with (gi_at_make; refine mark_make ?_)
  refine unmark_make ?_
  refine wpListIn_make_own _ rfl _ _ 23 rfl w0.heap.size 3 i0 (.int .i64 0) 1 Tryd.underlying23 hi0 hz0 hz1 .i64 .i64 _ zs.length rfl rfl rfl (by rw [hz2]; omega) (by simp only [maxLen]; omega) (Nat.le_refl _) ?_
  intro w1 hown hg
  have q0 := made1_0 hg P0.out
  have y0 := blk_cell (w := w1.alloc (.cells #[.slice (some ⟨w0.heap.size, 0, none⟩) 0 zs.length] 23)) ((alloc_old _ _ _ (lt_of_some q0)).trans q0) 0
  have y1 := blk_cell (w := w1.alloc (.cells #[.slice (some ⟨w0.heap.size, 0, none⟩) 0 zs.length] 23)) ((alloc_old _ _ _ (lt_of_some q0)).trans q0) 1
  have hGl : w0.heap.size < w1.heap.size := (World.ownsRow.lt hown _ rfl).2
  have HQ0 := Lib.hid q0
  have HO := Lib.hid hown
  have HG := Lib.hid (HB1.out.trans (((Below.refl w0.heap.size w0).grown hg (Nat.le_refl _) (by simp)).mono (by omega)))
  clear q0 hown hg x1
  simp only [cell2_0, cell2_1] at y0 y1
  gi_wp2_with (refine ⟨trivial, ?_⟩; gi_at_call 23; refine (callsIn_wide.2 (clubs_any _ _ _ _ _)).mono ?_; rintro e w' ⟨rfl, rfl⟩)
  have hle : w.heap.size ≤ w1.heap.size := by omega
  have h16 : 1 ≤ 6 := by omega
  have hmx : Tryd.prog.follows .mixedOrders = true := by kernel_rfl
  have bA := Boxed.new w1 23 (.slice (some ⟨w0.heap.size, 0, none⟩) 0 zs.length)
  have HBB : Hid (Below w.heap.size w ((w1.alloc (.cells #[.slice (some ⟨w0.heap.size, 0, none⟩) 0 zs.length] 23)).alloc (.cells #[.int .i64 m, .slice a zs.length c] 25))) := Lib.hid (HG.out.trans ((below2 w1 _ _).mono (by omega)))
  have hst := clubs_stops (6 - 1) (by omega) (w1.heap.size + 1) w.heap.size a c zs hx ((w1.alloc (.cells #[.slice (some ⟨w0.heap.size, 0, none⟩) 0 zs.length] 23)).alloc (.cells #[.int .i64 m, .slice a zs.length c] 25)) (by simp) (by simp; omega)
    (by have := blk_cell (alloc_new (w1.alloc (.cells #[.slice (some ⟨w0.heap.size, 0, none⟩) 0 zs.length] 23)) (.cells #[.int .i64 m, .slice a zs.length c] 25)) 1; simp) (HIN.out.below HBB.out)
  refine wpIn_rangeFunc_ownG rfl h16 (gf := 41) (lb := #[.pointer (some ⟨w1.heap.size + 1, 0, none⟩)]) rfl trivial (enters_of Tryd.func41 (by kernel_rfl) rfl)
    hst belowK_t (belowK_b (by simp; omega)) (Below.refl _ _) (fun _ => rfl)
    (fun pre W => ((∃ v, Boxed W w1.heap.size 23 v ∧ W.ownsRow w.heap.size 3 1 v pre.length ((pre.map fun p => g p.2).map (Value.int .i64)) ∧ v = .slice (some ⟨w0.heap.size, 0, none⟩) pre.length zs.length) ∧ HasBlk W w.heap.size #[.int .i64 m, .slice a zs.length c] 25) ∧ Below w.heap.size w W)
    (fun _ _ _ => False)
    (OwnFrom.and (OwnFrom.and (Own.from (holdsRow_own w.heap.size w1.heap.size 23 3 1 (fun (pre : List (Nat × Int)) => pre.length) (fun (pre : List (Nat × Int)) => (pre.map fun p => g p.2).map (Value.int .i64)) (fun (pre : List (Nat × Int)) v => v = .slice (some ⟨w0.heap.size, 0, none⟩) pre.length zs.length)) _) (Own.from (hasBlk_own _ _ _) _)) (ownFrom_below (Nat.le_refl _) (by simp; omega)))
    (fun _ _ _ _ _ hs _ _ => hs)
    ⟨⟨⟨_, bA.alloc _, by have := ownsRow_base HO.out (B := w.heap.size) (by omega); simpa using (this.alloc _).alloc _, rfl⟩, (HasBlk.alloc HQ0.out _).alloc _⟩, HBB.out⟩
    (fun x => { tmps := #[.agg #[.int .i64 m, .slice a zs.length c], .pointer (some ⟨w.heap.size, 0, none⟩), .slice none 0 0, .bool false, .pointer (some ⟨w1.heap.size, 0, none⟩), undef, .int .i64 x.2, .agg #[.int .i64 m, .slice a zs.length c], .bool true, .bool false, .pointer (some ⟨w.heap.size, 1, none⟩), .slice a zs.length c, .int .i64 zs.length, .slice (some ⟨w0.heap.size, 0, none⟩) 0 zs.length, .agg #[.int .i64 m, .slice a zs.length c], .func (.func 41) #[] #[.pointer (some ⟨w1.heap.size + 1, 0, none⟩)], .int .i64 (x.1 : Int), .int .i64 x.2, undef, undef, undef, undef, undef, undef], defers := [] }) ?assign ?body ?done ?stop
  case assign =>
    intro l x W K hK
    gi_wp2
    exact hK
  case body =>
    rintro l pre x W ⟨⟨⟨v, hv, hrow, rfl⟩, q0⟩, hB⟩ hlt
    have hc := hv.cell
    have HV := Lib.hid hv
    have HR := Lib.hid hrow
    have hWs : w.heap.size ≤ W.heap.size := hB.size
    have HB := Lib.hid hB
    have HQ0' := Lib.hid q0
    clear hv hrow hB q0
    have hGlt : w0.heap.size < w1.heap.size := hGl
    have hMB : w1.heap.size < W.drew.heap.size := HV.out.lt
    gi_wp2
    gi_region_with_o (refine ⟨trivial, ?_⟩; gi_at_call 24; refine (CallsIn.inRound l (callsIn_wide.2 (HK.out _ _))).mono ?_; rintro e w2 ⟨rfl, hb2⟩; obtain ⟨u, hcu, hfu⟩ := spare_cell (own_after HR.out hb2) pre.length hlt; have hlt2 := lt_of_cell hcu; have hcu' := (World.cell?_alloc_lt w2 (.cells #[.int .i64 (g x.2)] 3) _ hlt2).trans hcu; have hc2 := (hb2.cell (p := ⟨w1.heap.size, 0, none⟩) hMB).trans hc; have hf2 := (hb2.frozen (p := ⟨w1.heap.size, 0, none⟩) hMB).trans HV.out.frozen; have hMB2 := lt_of_cell hc2; have hc3 := after_spare (y := .int .i64 (g x.2)) (k := pre.length) (o := .cells #[.int .i64 (g x.2)] 3) hGlt hMB2 hc2; have hf3 := after_spare_f (y := .int .i64 (g x.2)) (k := pre.length) (o := .cells #[.int .i64 (g x.2)] 3) hGlt hMB2 hf2)
    all_goals exact sizes_end (x := x) (f := g) hWs hGlt (by omega) hlt hb2 HV.out HR.out HB.out HQ0'.out (by omega)
  case done =>
    rintro D ys W hD rfl ⟨⟨⟨v, hv, hrow, rfl⟩, q0⟩, hB⟩ hK
    rw [pairs_length] at hv hrow
    have hmap : (pairs zs zs.length).map (fun p => g p.2) = zs.map pop := by
      rw [show (fun p : Nat × Int => g p.2) = g ∘ (fun p => p.2) from rfl, ← List.map_map, pairs_all, HMAP.out]
    rw [hmap] at hrow
    have hc := hv.cell
    have HR := Lib.hid hrow
    have HB := Lib.hid hB
    clear hv hrow hB q0 hmap
    gi_wp2
    refine ⟨by simp, .inl ⟨_, _, rfl, run_takeDeferred hK, ?_⟩⟩
    refine ⟨_, results_tmp2 rfl _ _ _, _, _, by rw [List.length_map]; rfl, ?_, ?_⟩
    · rw [List.length_map]
      unfold OwnI
      rw [List.length_map]
      exact ownsRow_putObj HR.out _ hK rfl
    · exact HB.out.trans (belowK_b (w := w) (Nat.le_refl _) W D _ _ (by simp at hD; omega) hK rfl rfl)
  case stop =>
    rintro D c pre W _ _ h _
    exact h.elim

theorem implSizes_any (m : Int) (a : Option Addr) (c : Nat) (zs : List Int) (w : World) (ha : Ints w w.heap.size a zs) (hx : zs.length ≤ 1048576) :
    Calls Tryd.prog 7 #[.agg #[.int .i64 m, .slice a zs.length c]] w (RetSB w (sizesZ m zs) (famIn m zs)) := by
  unfold sizesZ
  cases hf : famIn m zs
  · exact implSizes_no m a c zs w ha hx hf
  · exact implSizes_yes m a c zs w ha hx hf

end Go.Proofs.YtcnicdaagknmpaaDoor

/- It is proved that the call of the law FnAlike returns true; conditions: those of each statement. -/
namespace Go.Proofs.YtcnicdaagknmpaaDoor
open Go.RowKit

set_option maxRecDepth 100000 in
set_option maxHeartbeats 8000000 in
theorem walkFnAlike (a : Option Addr) (n cap : Nat) (w : World) (hb : Bys w w.heap.size a n) (hT : Tab w) (hn : n ≤ 1048576) (hc : n ≤ cap) (hc2 : cap ≤ 9223372036854775807) :
    Calls Tryd.prog 3 #[.slice a n cap] w fun e w' => e = .returned (.bool true) ∧ Below w.heap.size w w' := by
  have HBy := Lib.hid hb
  have HT := Lib.hid hT
  clear hb hT
  go_enter Tryd.func3, Tryd.ntmps3
  go_wp2_with fail
  refine (drawAlikeIn_any a n cap w HBy.out hn hc hc2).mono ?_
  rintro e w1 ⟨m, af, xs, cf, j, ag, ys, cg, rfl, ⟨hxl9, hyl9⟩, hif, hig, hb1⟩
  have hbx : Below w1.heap.size w1 ((w1.alloc (.cells #[.int .i64 m, .slice af xs.length cf] 25)).alloc (.cells #[.int .i64 j, .slice ag ys.length cg] 25)) := below2 w1 _ _
  have B1 := Lib.hid (hb1.trans (hbx.mono hb1.size))
  have f_1 := Lib.hid ((FB.start (m := m) (c := cf) hif).step (below1 (w1.alloc (.cells #[.int .i64 m, .slice af xs.length cf] 25)) (.cells #[.int .i64 j, .slice ag ys.length cg] 25)))
  have g_1 : Hid (FB (w1.heap.size + 1) j ag ys cg ((w1.alloc (.cells #[.int .i64 m, .slice af xs.length cf] 25)).alloc (.cells #[.int .i64 j, .slice ag ys.length cg] 25))) := Lib.hid (by
    have h := FB.start (w := w1.alloc (.cells #[.int .i64 m, .slice af xs.length cf] 25)) (m := j) (c := cg) (hig.step (below1 w1 _))
    simpa using h)
  have hxl : xs.length ≤ 1048576 := by omega
  have hyl : ys.length ≤ 1048576 := by omega
  clear hif hig hb1 hbx
  obtain ⟨t, ht⟩ : ∃ t, t = alikeB m xs j ys := ⟨_, rfl⟩
  have HTT := Lib.hid ht
  clear ht
  have fx0 := f_1.out.x0
  have fx1 := f_1.out.x1
  have gx0 := g_1.out.x0
  have gx1 := g_1.out.x1
  go_wp2_with fail
  refine (implAIn_any m j af ag cf cg xs ys _ f_1.out.ints g_1.out.ints (HT.out.below B1.out HT.out.lt) hxl hyl).mono ?_
  rw [← HTT.out]
  rintro e w2 ⟨rfl, hb2⟩
  have B2 := Lib.hid (B1.out.trans (hb2.mono B1.out.size))
  have f_2 := Lib.hid (f_1.out.step hb2)
  have g_2 := Lib.hid (g_1.out.step hb2)
  clear hb2 B1 f_1 g_1
  clear fx0 fx1 gx0 gx1
  have fx0 := f_2.out.x0
  have fx1 := f_2.out.x1
  have gx0 := g_2.out.x0
  have gx1 := g_2.out.x1
  go_wp2_with fail
  refine (specAIn_any m j af ag cf cg xs ys _ f_2.out.ints g_2.out.ints hxl hyl).mono ?_
  rw [← HTT.out]
  rintro e w3 ⟨rfl, hb3⟩
  have B3 := Lib.hid (B2.out.trans (hb3.mono B2.out.size))
  have f_3 := Lib.hid (f_2.out.step hb3)
  have g_3 := Lib.hid (g_2.out.step hb3)
  clear hb3 B2 f_2 g_2
  clear fx0 fx1 gx0 gx1
  cases t
  · clear HTT
    go_wp2
    go_ret
    exact ⟨rfl, B3.out⟩
  · obtain ⟨hjm, hfx, hfy, hll, hsz, hdg, hba, hmx, hmy, hot⟩ := alike_facts HTT.out.symm
    have hmj := hjm.symm
    clear hjm
    subst hmj
    obtain ⟨sa, hsa⟩ : ∃ sa, sa = sizesZ m xs := ⟨_, rfl⟩
    obtain ⟨sb, hsb⟩ : ∃ sb, sb = sizesZ m ys := ⟨_, rfl⟩
    obtain ⟨da, hda⟩ : ∃ da, da = famDeg m xs := ⟨_, rfl⟩
    obtain ⟨db, hdb⟩ : ∃ db, db = famDeg m ys := ⟨_, rfl⟩
    obtain ⟨ox, hox⟩ : ∃ ox, ox = otherZ m xs := ⟨_, rfl⟩
    obtain ⟨oy, hoy⟩ : ∃ oy, oy = otherZ m ys := ⟨_, rfl⟩
    have lsa : sa.length ≤ 1048576 := by rw [hsa]; exact sizesZ_len m xs hxl
    have lsb : sb.length ≤ 1048576 := by rw [hsb]; exact sizesZ_len m ys hyl
    have lda : da.length ≤ 1048576 := by rw [hda]; exact famDeg_len m xs
    have ldb : db.length ≤ 1048576 := by rw [hdb]; exact famDeg_len m ys
    have lox : ox.length ≤ 1048576 := by rw [hox]; exact otherZ_len m xs hxl
    have loy : oy.length ≤ 1048576 := by rw [hoy]; exact otherZ_len m ys hyl
    rw [← hsa, ← hsb] at hsz
    rw [← hda, ← hdb] at hdg
    rw [← hox, ← hoy] at hot
    obtain ⟨ss, hss⟩ : ∃ ss, ss = sortZ sa := ⟨_, rfl⟩
    obtain ⟨dd, hdd⟩ : ∃ dd, dd = sortZ da := ⟨_, rfl⟩
    have lss : ss.length ≤ 1048576 := by rw [hss, sortZ_length]; exact lsa
    have ldd : dd.length ≤ 1048576 := by rw [hdd, sortZ_length]; exact lda
    rw [← hss] at hsz
    rw [← hdd] at hdg
    have HSA := Lib.hid hsa
    have HSB := Lib.hid hsb
    have HDA := Lib.hid hda
    have HDB := Lib.hid hdb
    have HOX := Lib.hid hox
    have HOY := Lib.hid hoy
    have HSS := Lib.hid hss
    have HDD := Lib.hid hdd
    have HSZ := Lib.hid hsz
    have HDG := Lib.hid hdg
    have HFX := Lib.hid hfx
    have HFY := Lib.hid hfy
    have HBA := Lib.hid hba
    have HMX := Lib.hid hmx
    have HMY := Lib.hid hmy
    have HOT := Lib.hid hot
    clear hsa hsb hda hdb hox hoy hss hdd hsz hdg hfx hfy hba hmx hmy hot hll HTT
    have fx0 := f_3.out.x0
    have fx1 := f_3.out.x1
    go_wp2_with fail
    refine (implSizes_any m af cf xs _ f_3.out.ints hxl).mono ?_
    rw [← HSA.out, HFX.out]
    rintro e w4 ⟨a4, c4, rfl, ho4, hb4⟩
    have p_4n := Lib.hid (own_ints ho4)
    clear ho4
    have B4 := Lib.hid (B3.out.trans (hb4.mono B3.out.size))
    have f_4 := Lib.hid (f_3.out.step hb4)
    have g_4 := Lib.hid (g_3.out.step hb4)
    clear hb4 B3 f_3 g_3
    clear fx0 fx1
    have gx0 := g_4.out.x0
    have gx1 := g_4.out.x1
    go_wp2_with fail
    refine (implSizes_any m ag cg ys _ g_4.out.ints hyl).mono ?_
    rw [← HSB.out, HFY.out]
    rintro e w5 ⟨a5, c5, rfl, ho5, hb5⟩
    have q_5n := Lib.hid (own_ints ho5)
    clear ho5
    have B5 := Lib.hid (B4.out.trans (hb5.mono B4.out.size))
    have f_5 := Lib.hid (f_4.out.step hb5)
    have g_5 := Lib.hid (g_4.out.step hb5)
    have p_5 := Lib.hid (p_4n.out.step hb5)
    clear hb5 B4 f_4 g_4 p_4n
    clear gx0 gx1
    have fx0 := f_5.out.x0
    have fx1 := f_5.out.x1
    go_wp2_with fail
    refine (implDegrees_any m af cf xs _ f_5.out.ints (HT.out.below B5.out HT.out.lt) hxl).mono ?_
    rw [← HDA.out, HFX.out]
    rintro e w6 ⟨a6, c6, rfl, ho6, hb6⟩
    have r_6n := Lib.hid (own_ints ho6)
    clear ho6
    have B6 := Lib.hid (B5.out.trans (hb6.mono B5.out.size))
    have f_6 := Lib.hid (f_5.out.step hb6)
    have g_6 := Lib.hid (g_5.out.step hb6)
    have p_6 := Lib.hid (p_5.out.step hb6)
    have q_6 := Lib.hid (q_5n.out.step hb6)
    clear hb6 B5 f_5 g_5 p_5 q_5n
    clear fx0 fx1
    have gx0 := g_6.out.x0
    have gx1 := g_6.out.x1
    go_wp2_with fail
    refine (implDegrees_any m ag cg ys _ g_6.out.ints (HT.out.below B6.out HT.out.lt) hyl).mono ?_
    rw [← HDB.out, HFY.out]
    rintro e w7 ⟨a7, c7, rfl, ho7, hb7⟩
    have s_7n := Lib.hid (own_ints ho7)
    clear ho7
    have B7 := Lib.hid (B6.out.trans (hb7.mono B6.out.size))
    have f_7 := Lib.hid (f_6.out.step hb7)
    have g_7 := Lib.hid (g_6.out.step hb7)
    have p_7 := Lib.hid (p_6.out.step hb7)
    have q_7 := Lib.hid (q_6.out.step hb7)
    have r_7 := Lib.hid (r_6n.out.step hb7)
    clear hb7 B6 f_6 g_6 p_6 q_6 r_6n
    clear gx0 gx1
    have fx0 := f_7.out.x0
    have fx1 := f_7.out.x1
    go_wp2_with fail
    refine (implOther_any m af cf xs _ f_7.out.ints hxl).mono ?_
    rw [← HOX.out, HMX.out, HFX.out]
    rintro e w8 ⟨a8, c8, rfl, ho8, hb8⟩
    have u_8n := Lib.hid (FB.start (m := m) (c := c8) (own_ints ho8))
    have hx8 := hb8.trans ((below1 w8 (.cells #[.int .i64 m, .slice a8 ox.length c8] 25)).mono hb8.size)
    clear ho8 hb8
    have B8 := Lib.hid (B7.out.trans (hx8.mono B7.out.size))
    have f_8 := Lib.hid (f_7.out.step hx8)
    have g_8 := Lib.hid (g_7.out.step hx8)
    have p_8 := Lib.hid (p_7.out.step hx8)
    have q_8 := Lib.hid (q_7.out.step hx8)
    have r_8 := Lib.hid (r_7.out.step hx8)
    have s_8 := Lib.hid (s_7n.out.step hx8)
    clear hx8 B7 f_7 g_7 p_7 q_7 r_7 s_7n
    clear fx0 fx1
    have gx0 := g_8.out.x0
    have gx1 := g_8.out.x1
    go_wp2_with fail
    refine (implOther_any m ag cg ys _ g_8.out.ints hyl).mono ?_
    rw [← HOY.out, HMY.out, HFY.out]
    rintro e w9 ⟨a9, c9, rfl, ho9, hb9⟩
    have v_9n := Lib.hid (FB.start (m := m) (c := c9) (own_ints ho9))
    have hx9 := hb9.trans ((below1 w9 (.cells #[.int .i64 m, .slice a9 oy.length c9] 25)).mono hb9.size)
    clear ho9 hb9
    have B9 := Lib.hid (B8.out.trans (hx9.mono B8.out.size))
    have f_9 := Lib.hid (f_8.out.step hx9)
    have g_9 := Lib.hid (g_8.out.step hx9)
    have p_9 := Lib.hid (p_8.out.step hx9)
    have q_9 := Lib.hid (q_8.out.step hx9)
    have r_9 := Lib.hid (r_8.out.step hx9)
    have s_9 := Lib.hid (s_8.out.step hx9)
    have u_9 := Lib.hid (u_8n.out.step hx9)
    clear hx9 B8 f_8 g_8 p_8 q_8 r_8 s_8 u_8n
    clear gx0 gx1
    go_wp2_with fail
    refine (sorted_any a4 c4 sa _ p_9.out lsa).mono ?_
    rw [← HSS.out]
    rintro e w10 ⟨a10, c10, rfl, ho10, hb10⟩
    have k_10n := Lib.hid (own_ints ho10)
    clear ho10
    have B10 := Lib.hid (B9.out.trans (hb10.mono B9.out.size))
    have f_10 := Lib.hid (f_9.out.step hb10)
    have g_10 := Lib.hid (g_9.out.step hb10)
    have p_10 := Lib.hid (p_9.out.step hb10)
    have q_10 := Lib.hid (q_9.out.step hb10)
    have r_10 := Lib.hid (r_9.out.step hb10)
    have s_10 := Lib.hid (s_9.out.step hb10)
    have u_10 := Lib.hid (u_9.out.step hb10)
    have v_10 := Lib.hid (v_9n.out.step hb10)
    clear hb10 B9 f_9 g_9 p_9 q_9 r_9 s_9 u_9 v_9n
    clear p_10
    go_wp2_with fail
    refine (sorted_any a5 c5 sb _ q_10.out lsb).mono ?_
    rw [← HSZ.out]
    rintro e w11 ⟨a11, c11, rfl, ho11, hb11⟩
    have l_11n := Lib.hid (own_ints ho11)
    clear ho11
    have B11 := Lib.hid (B10.out.trans (hb11.mono B10.out.size))
    have f_11 := Lib.hid (f_10.out.step hb11)
    have g_11 := Lib.hid (g_10.out.step hb11)
    have q_11 := Lib.hid (q_10.out.step hb11)
    have r_11 := Lib.hid (r_10.out.step hb11)
    have s_11 := Lib.hid (s_10.out.step hb11)
    have u_11 := Lib.hid (u_10.out.step hb11)
    have v_11 := Lib.hid (v_10.out.step hb11)
    have k_11 := Lib.hid (k_10n.out.step hb11)
    clear hb11 B10 f_10 g_10 q_10 r_10 s_10 u_10 v_10 k_10n
    clear q_11
    go_wp2_with fail
    refine (sameInts_any _ _ _ _ _ _ _ k_11.out l_11n.out lss lss).mono ?_
    rintro e w12 ⟨rfl, hb12⟩
    have B12 := Lib.hid (B11.out.trans (hb12.mono B11.out.size))
    have f_12 := Lib.hid (f_11.out.step hb12)
    have g_12 := Lib.hid (g_11.out.step hb12)
    have r_12 := Lib.hid (r_11.out.step hb12)
    have s_12 := Lib.hid (s_11.out.step hb12)
    have u_12 := Lib.hid (u_11.out.step hb12)
    have v_12 := Lib.hid (v_11.out.step hb12)
    have k_12 := Lib.hid (k_11.out.step hb12)
    have l_12 := Lib.hid (l_11n.out.step hb12)
    clear hb12 B11 f_11 g_11 r_11 s_11 u_11 v_11 k_11 l_11n
    clear k_12 l_12
    rw [sameB_refl]
    go_wp2_with fail
    refine (sorted_any a6 c6 da _ r_12.out lda).mono ?_
    rw [← HDD.out]
    rintro e w13 ⟨a13, c13, rfl, ho13, hb13⟩
    have k_13n := Lib.hid (own_ints ho13)
    clear ho13
    have B13 := Lib.hid (B12.out.trans (hb13.mono B12.out.size))
    have f_13 := Lib.hid (f_12.out.step hb13)
    have g_13 := Lib.hid (g_12.out.step hb13)
    have r_13 := Lib.hid (r_12.out.step hb13)
    have s_13 := Lib.hid (s_12.out.step hb13)
    have u_13 := Lib.hid (u_12.out.step hb13)
    have v_13 := Lib.hid (v_12.out.step hb13)
    clear hb13 B12 f_12 g_12 r_12 s_12 u_12 v_12
    clear r_13
    go_wp2_with fail
    refine (sorted_any a7 c7 db _ s_13.out ldb).mono ?_
    rw [← HDG.out]
    rintro e w14 ⟨a14, c14, rfl, ho14, hb14⟩
    have l_14n := Lib.hid (own_ints ho14)
    clear ho14
    have B14 := Lib.hid (B13.out.trans (hb14.mono B13.out.size))
    have f_14 := Lib.hid (f_13.out.step hb14)
    have g_14 := Lib.hid (g_13.out.step hb14)
    have s_14 := Lib.hid (s_13.out.step hb14)
    have u_14 := Lib.hid (u_13.out.step hb14)
    have v_14 := Lib.hid (v_13.out.step hb14)
    have k_14 := Lib.hid (k_13n.out.step hb14)
    clear hb14 B13 f_13 g_13 s_13 u_13 v_13 k_13n
    clear s_14
    go_wp2_with fail
    refine (sameInts_any _ _ _ _ _ _ _ k_14.out l_14n.out ldd ldd).mono ?_
    rintro e w15 ⟨rfl, hb15⟩
    have B15 := Lib.hid (B14.out.trans (hb15.mono B14.out.size))
    have f_15 := Lib.hid (f_14.out.step hb15)
    have g_15 := Lib.hid (g_14.out.step hb15)
    have u_15 := Lib.hid (u_14.out.step hb15)
    have v_15 := Lib.hid (v_14.out.step hb15)
    have k_15 := Lib.hid (k_14.out.step hb15)
    have l_15 := Lib.hid (l_14n.out.step hb15)
    clear hb15 B14 f_14 g_14 u_14 v_14 k_14 l_14n
    clear k_15 l_15
    rw [sameB_refl]
    have fx0 := f_15.out.x0
    have fx1 := f_15.out.x1
    have gx0 := g_15.out.x0
    have gx1 := g_15.out.x1
    go_wp2_with fail
    refine (implAIn_any m m ag af cg cf ys xs _ g_15.out.ints f_15.out.ints (HT.out.below B15.out HT.out.lt) hyl hxl).mono ?_
    rw [HBA.out]
    rintro e w16 ⟨rfl, hb16⟩
    have B16 := Lib.hid (B15.out.trans (hb16.mono B15.out.size))
    have f_16 := Lib.hid (f_15.out.step hb16)
    have g_16 := Lib.hid (g_15.out.step hb16)
    have u_16 := Lib.hid (u_15.out.step hb16)
    have v_16 := Lib.hid (v_15.out.step hb16)
    clear hb16 B15 f_15 g_15 u_15 v_15
    clear fx0 fx1 gx0 gx1
    clear f_16 g_16
    have ux0 := u_16.out.x0
    have ux1 := u_16.out.x1
    have vx0 := v_16.out.x0
    have vx1 := v_16.out.x1
    go_wp2_with fail
    refine (implAIn_any m m a8 a9 c8 c9 ox oy _ u_16.out.ints v_16.out.ints (HT.out.below B16.out HT.out.lt) lox loy).mono ?_
    rw [HOT.out]
    rintro e w17 ⟨rfl, hb17⟩
    have B17 := Lib.hid (B16.out.trans (hb17.mono B16.out.size))
    have u_17 := Lib.hid (u_16.out.step hb17)
    have v_17 := Lib.hid (v_16.out.step hb17)
    clear hb17 B16 u_16 v_16
    clear ux0 ux1 vx0 vx1
    go_wp2
    go_ret
    exact ⟨rfl, B17.out⟩

end Go.Proofs.YtcnicdaagknmpaaDoor

/- It is proved that what a row lists of the library's tables is what the walks ask of them; conditions: none but the row's. -/
namespace Go.Proofs.YtcnicdaagknmpaaDoor
open Go.ChangeShapes Go.WideShapes Go.ChangeAt Go.RowKit Go.Joins

def laidL : List (String × DataW Unit) := [("math/bits.deBruijn32tab", Rows.laid_math_bits_deBruijn32tab), ("math/bits.deBruijn64tab", Rows.laid_math_bits_deBruijn64tab)]
theorem Tryd.g0 : Tryd.prog.globalNamed "math/bits.deBruijn32tab" = some 0 := by kernel_rfl
theorem Tryd.g1 : Tryd.prog.globalNamed "math/bits.deBruijn64tab" = some 1 := by kernel_rfl
theorem Tryd.tg0 : (Tryd.prog.globals[0]?).map (·.type) = some 109 := by kernel_rfl
theorem Tryd.tg1 : (Tryd.prog.globals[1]?).map (·.type) = some 110 := by kernel_rfl
theorem tab_is : (Rows.laid_math_bits_deBruijn64tab : DataW Unit) = Lib.tabData .u8 (Lib.deBruijn64tab.map fun (n : Nat) => (n : Int)) := rfl
/-- The door's own heap meets the condition: closed facts. -/
theorem door_met (os : Os) (args : Array Value) : laidMetH Tryd.prog laidL ((World.doorLaid Tryd.prog 40 os).forCall (fun _ _ => 0) ⟨#[], args, []⟩).memory :=
  laidMetH_of_parts3 (fuel := 8) (laidMet_of_run' 8 (by kernel_rfl) (by kernel_rfl)) (by kernel_rfl) (by kernel_rfl)

set_option maxRecDepth 100000 in
theorem tab_of_laid {W : World} (h : laidMetH Tryd.prog laidL W) : Tab W := by
  rw [MakeChecks.laidMetH_plain _ _ _ (by kernel_rfl)] at h
  obtain ⟨ps, ⟨g0, t0, cs0, f0, p0, q0, hg0, ht0, hv0, hd0, ⟨g1, t1, cs1, f1, p1, q1, hg1, ht1, hv1, hd1, _, _⟩, _⟩, _, _⟩ := h
  obtain rfl := Option.some.inj (Tryd.g1.symm.trans hg1)
  obtain rfl := Option.some.inj (Tryd.tg1.symm.trans ht1)
  rw [tab_is] at hd1
  have hcs := Lib.cells_of_tab (n := 64) (e := 5) Tryd.underlying110 Tryd.underlying5 (by kernel_rfl) (by kernel_rfl) hd1
  intro j hj
  have h1 := World.var?_cell hg1 hv1 j
  rw [h1, ← Array.getElem?_toList, hcs]
  simp [List.getD, hj]

end Go.Proofs.YtcnicdaagknmpaaDoor
