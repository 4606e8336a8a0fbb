/- It is proved what roads and leastCovers return; conditions: those of each statement. -/
import Derived.RowKit
import Derived.Laws.CopyRow
import Derived.Lib.SlBuf
import Derived.Deep.QuietTactic
import Derived.RangeFuncNested
import Derived.RangeFuncBound
import Derived.RangeFuncCalls
import Derived.RangeFuncLeaves
import Derived.RangeFuncBox
import Derived.RangeFuncWrites
import Derived.StillTailTactics
import Derived.Maps.OwnIn
import Derived.Maps.Ext
import Derived.DeepKeys4
import Derived.MapKept
import Derived.Test.YtlfnjoogcenlhaaDoorRows
import Derived.WalkKit
import Derived.WalkSpells
import Derived.ProofKit
import Derived.OpenShut
import Derived.ShutString
import Derived.ChangeOld
import Derived.Below
import Derived.Deep.RegionHeld3
import Derived.BigQuiet
import Derived.Lib.Hide
import Derived.Lib.SmallJoins
import Derived.Outline
import Derived.Laws.MakeOwn
import Derived.Laws.OwnMore
import Derived.IntWalk
import Derived.Lib.AppendZeros
import Derived.Maps.AppendAt
import Derived.Deep.AppendLies
import Derived.OwnWalk
import Derived.Lib.SlicesCompact
import Derived.Lib.OwnBridge
import Derived.OrdersIn
import Derived.TacticsIn
import Derived.Shelf.Sort.Plain
import Derived.Shelf.Slices.In.SortNone
import Derived.Shelf.Slices.CompactI
import Derived.Ground.Names2Prog
import Derived.Lib.SliceRun
import Derived.Shelf.Abstract
import Derived.Shelf.RegionOpen
import Derived.OwnWalkIn
import Derived.TacticsInMore
import Derived.LoopNIn
import Derived.LoopIn
import Derived.StillTail
import Derived.StillTactics
import Derived.Shelf.Spec.TrailingZeros
import Derived.Test.YtlfnjoogcenlhaaDoorMzaa
import Derived.Test.YtlfnjoogcenlhaaDoorMzad
import Derived.Test.YtlfnjoogcenlhaaDoorMzab
import Derived.Test.YtlfnjoogcenlhaaDoorMzaf
import Derived.Test.YtlfnjoogcenlhaaDoorMzal
import Derived.Test.YtlfnjoogcenlhaaDoorKc
import Derived.Test.YtlfnjoogcenlhaaDoorMzaq
import Derived.Test.YtlfnjoogcenlhaaDoorMzae
import Derived.Test.YtlfnjoogcenlhaaDoorMzac
import Derived.Test.YtlfnjoogcenlhaaDoorMzag
namespace Go.Proofs.YtlfnjoogcenlhaaDoor
open Go.RowKit Go.Shelf

theorem roads_any (w : World) :
    Calls Tryd.prog 62 #[] w fun e w' => e = .returned (.slice (some ⟨w.heap.size, 0, none⟩) 3 3) ∧ w' = w.alloc (.cells #[.func (.func 80) #[] #[], .func (.func 81) #[] #[], .func (.func 82) #[] #[]] 58) := by
  go_enter Tryd.func62, Tryd.ntmps62
  go_wp2
  go_ret
  exact ⟨rfl, rfl⟩

/-- What leastCovers tells. -/
def lcZ (m : Int) (zs : List Int) : List Int := if famIn m zs then lcL m.toNat zs else []

theorem lcZ_len (m : Int) (zs : List Int) : (lcZ m zs).length ≤ 1048576 := by
  unfold lcZ
  cases h : famIn m zs
  · simp
  · obtain ⟨h1, h2, -, -⟩ := famIn_out h
    have := lcL_len (m := m.toNat) (by omega) zs
    simp only [if_true]
    omega

theorem fam_nat {m : Int} {zs : List Int} (h : famIn m zs = true) : ∃ k : Nat, m = (k : Int) ∧ 1 ≤ k ∧ k ≤ 6 ∧ Sets k zs ∧ zs.length ≤ 8 := by
  obtain ⟨h1, h2, h3, -⟩ := famIn_out h
  obtain ⟨k, rfl⟩ : ∃ k : Nat, m = (k : Int) := ⟨m.toNat, by omega⟩
  exact ⟨k, rfl, by omega, by omega, sets_of_fam h, h3⟩

set_option maxRecDepth 100000 in
set_option maxHeartbeats 2000000 in
theorem least0_any (m : Int) (a : Option Addr) (c : Nat) (zs : List Int) (w : World) (ha : Ints w w.heap.size a zs) (hx : zs.length ≤ 1048576) :
    Calls Tryd.prog 38 #[.int .i64 0, .agg #[.int .i64 m, .slice a zs.length c]] w (RetSB w (lcZ m zs) (famIn m zs)) := by
  unfold lcZ
  have HB0 := Lib.hid (below1 w (.cells #[.int .i64 m, .slice a zs.length c] 28))
  have HA := Lib.hid (ha.below HB0.out)
  clear ha
  cases hf : famIn m zs
  · have HF := Lib.hid hf
    clear hf
    go_enter Tryd.func38, Tryd.ntmps38
    go_wp2_with fail
    refine (implFamilyIn_any _ _ _ zs _ (HA.out.mono (by simp)) hx).mono ?_
    rintro e w1 ⟨rfl, hb⟩
    rw [HF.out]
    have HB := Lib.hid (HB0.out.trans (hb.mono (by simp)))
    clear hb
    go_wp2
    go_ret2
    exact ⟨none, 0, rfl, own_nil _ _, HB.out⟩
  · have HF := Lib.hid hf
    obtain ⟨k, rfl, hk1, hk6, hset, hl8⟩ := fam_nat hf
    clear hf
    go_enter Tryd.func38, Tryd.ntmps38
    go_wp2_with fail
    refine (implFamilyIn_any _ _ _ zs _ (HA.out.mono (by simp)) hx).mono ?_
    rintro e w1 ⟨rfl, hb⟩
    rw [HF.out]
    have b0 : w1.heap[w.heap.size]? = some (.cells #[.int .i64 (k : Int), .slice a zs.length c] 28 (0, 0)) := (hb.block _ (by simp)).trans (alloc_new w _)
    have x0 := (blk_cell b0 0).trans (cell2_0 _ _)
    have x1 := (blk_cell b0 1).trans (cell2_1 _ _)
    have z1 : w.heap.size < w1.heap.size := lt_of_some b0
    obtain ⟨W2, hW2, c0, hs2, hb2⟩ : ∃ W2, w1.drew.alloc (.cells #[.func (.func 80) #[] #[], .func (.func 81) #[] #[], .func (.func 82) #[] #[]] 58) = W2 ∧
      HasBlk W2 w1.heap.size #[.func (.func 80) #[] #[], .func (.func 81) #[] #[], .func (.func 82) #[] #[]] 58 ∧ W2.heap.size = w1.heap.size + 1 ∧ Below w1.heap.size w1 W2 :=
      ⟨_, rfl, alloc_new w1.drew _, by simp, (Below.refl _ w1).drew.trans (below1 w1.drew _)⟩
    have y0 := (hb2.cell (p := ⟨w.heap.size, 0, none⟩) z1).trans x0
    have y1 := (hb2.cell (p := ⟨w.heap.size, 1, none⟩) z1).trans x1
    have e0 : W2.cell? ⟨w1.heap.size, 0, none⟩ = some (.func (.func 80) #[] #[]) := (blk_cell c0 0).trans rfl
    have e1 : W2.cell? ⟨w1.heap.size, 1, none⟩ = some (.func (.func 81) #[] #[]) := (blk_cell c0 1).trans rfl
    have e2 : W2.cell? ⟨w1.heap.size, 2, none⟩ = some (.func (.func 82) #[] #[]) := (blk_cell c0 2).trans rfl
    have hI2 : Ints W2 W2.heap.size a zs := ((HA.out.below (hb.mono (by simp))).below (hb2.mono (by omega))).mono (by omega)
    have HC := Lib.hid (triedCovers_any k hk1 hk6 a c zs W2 hI2 (by omega) hset)
    have HB2 := Lib.hid ((HB0.out.trans (hb.mono (by simp))).trans (hb2.mono (by omega)))
    have hff := field_fam
    have HS2 := Lib.hid hs2
    have Z1 := Lib.hid z1
    clear hb b0 c0 hb2 hI2 hs2 z1
    go_wp2_with fail
    go_region_with (first
      | (go_at_call 62; refine (roads_any _).mono ?_; rintro e w3 ⟨rfl, rfl⟩)
      | (go_at_call 80; refine HC.out.mono ?_; rintro e w5 ⟨a5, c5, rfl, ho5, hb5⟩))
    all_goals
      have HO5 := Lib.hid (own_mono ho5 (B' := w.heap.size) (by have := HS2.out; have := Z1.out; omega))
      have HB5 := Lib.hid (HB2.out.trans (hb5.mono (by have := HS2.out; have := Z1.out; omega)))
      clear ho5 hb5
      go_wp2
      go_ret2
      exact ⟨a5, c5, rfl, HO5.out, HB5.out⟩

set_option maxRecDepth 100000 in
theorem implCoverSets_any (m : Int) (a : Option Addr) (c : Nat) (zs : List Int) (w : World) (ha : Ints w w.heap.size a zs) (hx : zs.length ≤ 1048576) :
    Calls Tryd.prog 14 #[.agg #[.int .i64 m, .slice a zs.length c]] w (RetSB w (lcZ m zs) (famIn m zs)) := by
  have HB0 := Lib.hid (below1 w (.cells #[.int .i64 m, .slice a zs.length c] 28))
  have HC := Lib.hid (least0_any m a c zs _ ((ha.below HB0.out).mono (show w.heap.size ≤ (w.alloc (.cells #[.int .i64 m, .slice a zs.length c] 28)).heap.size by simp)) hx)
  clear ha
  go_enter Tryd.func14, Tryd.ntmps14
  go_wp2_with fail
  refine HC.out.mono ?_
  rintro e w1 ⟨a1, c1, rfl, ho, hb⟩
  have HO := Lib.hid (own_mono ho (B' := w.heap.size) (by simp))
  have HB := Lib.hid (HB0.out.trans (hb.mono (by simp)))
  clear ho hb
  go_wp2
  go_ret2
  exact ⟨a1, c1, rfl, HO.out, HB.out⟩

end Go.Proofs.YtlfnjoogcenlhaaDoor

/- It is proved what the method mapped returns, by which closure it may be called; conditions: those of the statement. -/
namespace Go.Proofs.YtlfnjoogcenlhaaDoor
open Go.RowKit Go.Shelf

attribute [local go_sem] Oper.semAt_some

set_option maxRecDepth 100000 in
set_option maxHeartbeats 4000000 in
theorem mapped70 (m : Int) (a : Option Addr) (c : Nat) (zs : List Int) (X : Nat) (f : Int → Int) (w : World) (ha : Ints w w.heap.size a zs) (hx : zs.length ≤ 1048576)
    (hK : ∀ z W, Below w.heap.size w W → Calls Tryd.prog 78 #[.int .i64 z, .pointer (some ⟨X, 0, none⟩)] W fun e W' => e = .returned (.int .i64 (f z)) ∧ Below W.heap.size W W') :
    Calls Tryd.prog 77 #[.agg #[.int .i64 m, .slice a zs.length c], .func (.func 78) #[] #[.pointer (some ⟨X, 0, none⟩)]] w (RetFam w m (zs.map f)) := by
  obtain ⟨i0, hi0, hz0, hz1, hz2⟩ := info_parts Tryd.info3
  have HI := Lib.hid ha
  have HK := Lib.hid hK
  clear ha hK
  have bR3 := Lib.hid (below3 w (.cells #[.int .i64 m, .slice a zs.length c] 28) (.cells #[.func (.func 78) #[] #[.pointer (some ⟨X, 0, none⟩)]] 74) (.cells #[.int .i64 0, .slice none 0 0] 28))
  refine (callsIn_wide (n := 6)).1 ?_
  refine callsIn_of_wp_marks Tryd.func77 rfl trivial ?_ rfl
  simp only [Tryd.ntmps77, List.size_toArray, List.length_cons, List.length_nil, Nat.reduceAdd, Nat.reduceSub, Array.replicate_succ, Array.replicate_zero, List.push_toArray, List.append_toArray, List.nil_append, List.cons_append]
  gi_wp2_with (gi_at_make; refine mark_make ?_)
  refine unmark_make ?_
  refine wpListIn_make_own _ rfl _ _ 22 rfl (w.heap.size + 1 + 1 + 1) 3 i0 (.int .i64 0) 1 Tryd.underlying22 hi0 hz0 hz1 .i64 .i64 _ zs.length rfl rfl rfl (by rw [hz2]; omega) (by simp only [maxLen]; omega) (by simp) ?_
  intro w1 hown hg
  have q0 := made_0 hg
  have q1 := made_1 hg
  have q2 := made_2 hg
  have y0 := blk_cell (w := w1.alloc (.cells #[.slice (some ⟨w.heap.size + 1 + 1 + 1, 0, none⟩) 0 zs.length] 22)) ((alloc_old _ _ _ (lt_of_some q0)).trans q0) 0
  have y1 := blk_cell (w := w1.alloc (.cells #[.slice (some ⟨w.heap.size + 1 + 1 + 1, 0, none⟩) 0 zs.length] 22)) ((alloc_old _ _ _ (lt_of_some q0)).trans q0) 1
  have hsz : w.heap.size + 1 + 1 + 1 ≤ w1.heap.size := by have := hg.size; simp at this; omega
  have HQ0 := Lib.hid q0
  have HQ1 := Lib.hid q1
  have HQ2 := Lib.hid q2
  have hGl : w.heap.size + 1 + 1 + 1 < w1.heap.size := by have := (World.ownsRow.lt hown _ rfl).2; simpa using this
  have HO := Lib.hid hown
  have HG := Lib.hid (bR3.out.trans (below_made hg))
  clear q0 q1 q2 hown hg
  simp only [cell2_0, cell2_1] at y0 y1
  gi_wp2_with (refine ⟨trivial, ?_⟩; gi_at_call 70; refine (callsIn_wide.2 (clubs_any _ _ _ _ _)).mono ?_; rintro e w' ⟨rfl, rfl⟩)
  have hle : w.heap.size ≤ w1.heap.size := by omega
  have h16 : 1 ≤ 6 := by omega
  have hmx : Tryd.prog.follows .mixedOrders = true := by kernel_rfl
  have bA := Boxed.new w1 22 (.slice (some ⟨w.heap.size + 1 + 1 + 1, 0, none⟩) 0 zs.length)
  have HBB : Hid (Below w.heap.size w ((w1.alloc (.cells #[.slice (some ⟨w.heap.size + 1 + 1 + 1, 0, none⟩) 0 zs.length] 22)).alloc (.cells #[.int .i64 m, .slice a zs.length c] 28))) := Lib.hid (HG.out.trans ((below2 w1 _ _).mono (by omega)))
  have hst := clubs_stops (6 - 1) (by omega) (w1.heap.size + 1) w.heap.size a c zs hx ((w1.alloc (.cells #[.slice (some ⟨w.heap.size + 1 + 1 + 1, 0, none⟩) 0 zs.length] 22)).alloc (.cells #[.int .i64 m, .slice a zs.length c] 28)) (by simp) (by simp; omega)
    (by have := blk_cell (alloc_new (w1.alloc (.cells #[.slice (some ⟨w.heap.size + 1 + 1 + 1, 0, none⟩) 0 zs.length] 22)) (.cells #[.int .i64 m, .slice a zs.length c] 28)) 1; simp) (HI.out.below HBB.out)
  refine wpIn_rangeFunc_ownG rfl h16 (gf := 87) (lb := #[.pointer (some ⟨w1.heap.size + 1, 0, none⟩)]) rfl trivial (enters_of Tryd.func87 (by kernel_rfl) rfl)
    hst belowK_t (belowK_b (by simp; omega)) (Below.refl _ _) (fun _ => rfl)
    (fun pre W => ((∃ v, Boxed W w1.heap.size 22 v ∧ W.ownsRow w.heap.size 3 1 v pre.length ((pre.map fun p => f p.2).map (Value.int .i64)) ∧ v = .slice (some ⟨w.heap.size + 1 + 1 + 1, 0, none⟩) pre.length zs.length) ∧ (HasBlk W w.heap.size #[.int .i64 m, .slice a zs.length c] 28 ∧ HasBlk W (w.heap.size + 1) #[.func (.func 78) #[] #[.pointer (some ⟨X, 0, none⟩)]] 74 ∧ HasBlk W (w.heap.size + 1 + 1) #[.int .i64 0, .slice none 0 0] 28)) ∧ Below w.heap.size w W)
    (fun _ _ _ => False)
    (OwnFrom.and (OwnFrom.and (Own.from (holdsRow_own w.heap.size w1.heap.size 22 3 1 (fun (pre : List (Nat × Int)) => pre.length) (fun (pre : List (Nat × Int)) => (pre.map fun p => f p.2).map (Value.int .i64)) (fun (pre : List (Nat × Int)) v => v = .slice (some ⟨w.heap.size + 1 + 1 + 1, 0, none⟩) pre.length zs.length)) _) (OwnFrom.and (Own.from (hasBlk_own _ _ _) _) (OwnFrom.and (Own.from (hasBlk_own _ _ _) _) (Own.from (hasBlk_own _ _ _) _)))) (ownFrom_below (Nat.le_refl _) (by simp; omega)))
    (fun _ _ _ _ _ hs _ _ => hs)
    ⟨⟨⟨_, bA.alloc _, by have := ownsRow_base HO.out (B := w.heap.size) (by omega); simpa using (this.alloc _).alloc _, rfl⟩, (HasBlk.alloc HQ0.out _).alloc _, (HasBlk.alloc HQ1.out _).alloc _, (HasBlk.alloc HQ2.out _).alloc _⟩, HBB.out⟩
    (fun x => { tmps := #[.agg #[.int .i64 m, .slice a zs.length c], .func (.func 78) #[] #[.pointer (some ⟨X, 0, none⟩)], .pointer (some ⟨w.heap.size, 0, none⟩), .pointer (some ⟨w.heap.size + 1, 0, none⟩), .pointer (some ⟨w.heap.size + 1 + 1, 0, none⟩), .pointer (some ⟨w1.heap.size, 0, none⟩), undef, .int .i64 x.2, .pointer (some ⟨w.heap.size, 1, none⟩), .slice a zs.length c, .int .i64 zs.length, .slice (some ⟨w.heap.size + 1 + 1 + 1, 0, none⟩) 0 zs.length, .agg #[.int .i64 m, .slice a zs.length c], .func (.func 87) #[] #[.pointer (some ⟨w1.heap.size + 1, 0, none⟩)], .int .i64 (x.1 : Int), .int .i64 x.2, undef, undef, undef, undef, undef, undef, undef, undef, undef, undef], defers := [] }) ?assign ?body ?done ?stop
  case assign =>
    intro l x W K hK
    gi_wp2
    exact hK
  case body =>
    rintro l pre x W ⟨⟨⟨v, hv, hrow, rfl⟩, q0, q1, q2⟩, hB⟩ hlt
    have hc := hv.cell
    have hd := blk_cell q1 0
    simp only [cell1_0] at hd
    have hBd := Lib.hid hB.drew
    have HV := Lib.hid hv
    have HR := Lib.hid hrow
    have hWs : w.heap.size ≤ W.heap.size := hB.size
    have HB := Lib.hid hB
    have HQ0' := Lib.hid q0
    have HQ1' := Lib.hid q1
    have HQ2' := Lib.hid q2
    clear hv hrow hB q0 q1 q2
    have hGlt : w.heap.size + 1 + 1 + 1 < w1.heap.size := hGl
    have hMB : w1.heap.size < W.drew.heap.size := HV.out.lt
    gi_wp2
    gi_region_with_o (refine ⟨trivial, ?_⟩; gi_at_call 78; refine (CallsIn.inRound l (callsIn_wide.2 (HK.out _ _ hBd.out))).mono ?_; rintro e w2 ⟨rfl, hb2⟩; obtain ⟨u, hcu, hfu⟩ := spare_cell (own_after HR.out hb2) pre.length hlt; have hlt2 := lt_of_cell hcu; have hcu' := (World.cell?_alloc_lt w2 (.cells #[.int .i64 (f x.2)] 3) _ hlt2).trans hcu; have hc2 := (hb2.cell (p := ⟨w1.heap.size, 0, none⟩) hMB).trans hc; have hf2 := (hb2.frozen (p := ⟨w1.heap.size, 0, none⟩) hMB).trans HV.out.frozen; have hMB2 := lt_of_cell hc2; have hc3 := after_spare (y := .int .i64 (f x.2)) (k := pre.length) (o := .cells #[.int .i64 (f x.2)] 3) hGlt hMB2 hc2; have hf3 := after_spare_f (y := .int .i64 (f x.2)) (k := pre.length) (o := .cells #[.int .i64 (f x.2)] 3) hGlt hMB2 hf2)
    all_goals exact mapped_end (x := x) (f := f) hWs hGlt (by omega) hlt hb2 HV.out HR.out HB.out HQ0'.out (by omega) HQ1'.out (by omega) HQ2'.out (by omega)
  case done =>
    rintro D ys W hD rfl ⟨⟨⟨v, hv, hrow, rfl⟩, q0, q1, q2⟩, hB⟩ hK
    rw [pairs_length] at hv hrow
    have hmap : (pairs zs zs.length).map (fun p => f p.2) = zs.map f := by
      rw [show (fun p : Nat × Int => f p.2) = f ∘ (fun p => p.2) from rfl, ← List.map_map, pairs_all]
    rw [hmap] at hrow
    have hc := hv.cell
    have d0 := blk_cell q0 0
    have d2 := blk_cell q2 0
    have d3 := blk_cell q2 1
    have f2 := blk_frozen q2 0
    have f3 := blk_frozen q2 1
    simp only [cell2_0, cell2_1] at d0 d2 d3
    have HR := Lib.hid hrow
    have HB := Lib.hid hB
    have HQ2' := Lib.hid q2
    clear hv hrow hB q0 q1 q2 hmap
    gi_wp2
    have hK' := (KeepsOthers.setCell (W.setCell ⟨w.heap.size + 1 + 1, 0, none⟩ (.int .i64 m)) ⟨w.heap.size + 1 + 1, 1, none⟩ (.slice (some ⟨w.heap.size + 1 + 1 + 1, 0, none⟩) zs.length zs.length)).same D _ ((KeepsOthers.setCell W ⟨w.heap.size + 1 + 1, 0, none⟩ (.int .i64 m)).same D _ hK rfl) rfl
    refine ⟨by simp, .inl ⟨_, _, rfl, run_takeDeferred hK', ?_⟩⟩
    have e0 := cell_kept (World.cell?_setCell_other (W.setCell ⟨w.heap.size + 1 + 1, 0, none⟩ (.int .i64 m)) ⟨w.heap.size + 1 + 1, 1, none⟩ ⟨w.heap.size + 1 + 1, 0, none⟩ (.slice (some ⟨w.heap.size + 1 + 1 + 1, 0, none⟩) zs.length zs.length) (by simp) |>.trans (World.cell?_setCell_same' W ⟨w.heap.size + 1 + 1, 0, none⟩ (.int .i64 m) (by rw [d2]; rfl))) (grownBy_putObj' _ D (.deferred none)) (fun r e => by cases e; exact ⟨_, hK', rfl⟩)
    have e1 := cell_kept (World.cell?_setCell_same' (W.setCell ⟨w.heap.size + 1 + 1, 0, none⟩ (.int .i64 m)) ⟨w.heap.size + 1 + 1, 1, none⟩ (.slice (some ⟨w.heap.size + 1 + 1 + 1, 0, none⟩) zs.length zs.length) (by rw [World.cell?_setCell_other _ _ _ _ (by simp), d3]; rfl)) (grownBy_putObj' _ D (.deferred none)) (fun r e => by cases e; exact ⟨_, hK', rfl⟩)
    refine ⟨.agg #[.int .i64 m, .slice (some ⟨w.heap.size + 1 + 1 + 1, 0, none⟩) zs.length zs.length], by simp [results, Tryd.f77, go_sem, e0, e1], _, _, by rw [List.length_map], ?_, ?_⟩
    · rw [List.length_map]
      have h1 := ownsRow_setCell_ne HR.out (p := ⟨w.heap.size + 1 + 1, 0, none⟩) (by simp [Value.ownBlock]) (.int .i64 m)
      have h2 := ownsRow_setCell_ne h1 (p := ⟨w.heap.size + 1 + 1, 1, none⟩) (by simp [Value.ownBlock]) (.slice (some ⟨w.heap.size + 1 + 1 + 1, 0, none⟩) zs.length zs.length)
      unfold OwnI
      rw [List.length_map]
      exact ownsRow_putObj h2 _ hK' rfl
    · exact ((HB.out.setCell (p := ⟨w.heap.size + 1 + 1, 0, none⟩) (by simp; omega) _).setCell (p := ⟨w.heap.size + 1 + 1, 1, none⟩) (by simp; omega) _).trans (belowK_b (w := w) (Nat.le_refl _) _ D _ _ (by simp at hD; omega) hK' rfl rfl)
  case stop =>
    rintro D c pre W _ _ h _
    exact h.elim

end Go.Proofs.YtlfnjoogcenlhaaDoor
