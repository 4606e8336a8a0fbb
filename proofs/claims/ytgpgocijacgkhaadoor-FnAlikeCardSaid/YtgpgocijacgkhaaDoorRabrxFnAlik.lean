/- It is proved what the method mapped returns, by which closure it may be called; conditions: those of the statement. -/
import Derived.Test.YtgpgocijacgkhaaDoorRows
import Derived.WalkKit
import Derived.WalkSpells
import Derived.ProofKit
import Derived.OpenShut
import Derived.ShutString
import Derived.ChangeOld
import Derived.Below
import Derived.Deep.RegionHeld3
import Derived.Deep.QuietTactic
import Derived.BigQuiet
import Derived.Lib.Hide
import Derived.Lib.SmallJoins
import Derived.Outline
import Derived.Laws.MakeOwn
import Derived.Laws.OwnMore
import Derived.IntWalk
import Derived.RangeFuncNested
import Derived.RangeFuncBound
import Derived.RangeFuncCalls
import Derived.RangeFuncLeaves
import Derived.RangeFuncBox
import Derived.Shelf.Abstract
import Derived.Shelf.RegionOpen
import Derived.OwnWalkIn
import Derived.TacticsInMore
import Derived.LoopNIn
import Derived.LoopIn
import Derived.Maps.AppendAt
import Derived.Deep.AppendLies
import Derived.Test.YtgpgocijacgkhaaDoorRaaa
import Derived.Test.YtgpgocijacgkhaaDoorRaab
import Derived.Test.YtgpgocijacgkhaaDoorRaac
import Derived.OwnWalk
import Derived.Test.YtgpgocijacgkhaaDoorRabfxFnAlik
import Derived.Test.YtgpgocijacgkhaaDoorRaae
import Derived.Deep.RegionLaw
import Derived.Shelf.Spec.TrailingZeros
import Derived.Test.YtgpgocijacgkhaaDoorRabqxFnAlik
import Derived.Test.YtgpgocijacgkhaaDoorRaaz
import Derived.RowKit
import Derived.Laws.CopyRow
import Derived.Lib.SlBuf
import Derived.RangeFuncWrites
import Derived.StillTailTactics
import Derived.Maps.OwnIn
import Derived.Maps.Ext
import Derived.DeepKeys4
import Derived.MapKept
import Derived.Sort.MapsRangeIn
import Derived.Lib.AppendZeros
import Derived.Lib.SlicesCompact
import Derived.Lib.OwnBridge
import Derived.OrdersIn
import Derived.TacticsIn
import Derived.Shelf.Sort.Plain
import Derived.Shelf.Slices.In.SortNone
import Derived.Shelf.Slices.CompactI
import Derived.Ground.Names2Prog
import Derived.StillTail
import Derived.StillTactics
import Derived.Test.YtgpgocijacgkhaaDoorRabdxFnAlik
import Derived.Test.YtgpgocijacgkhaaDoorRabexFnAlik
import Derived.Test.YtgpgocijacgkhaaDoorRabixFnAlik
import Derived.Test.YtgpgocijacgkhaaDoorRabnxFnAlik
import Derived.Test.YtgpgocijacgkhaaDoorRabgxFnAlik
import Derived.Test.YtgpgocijacgkhaaDoorRabmxFnAlik
namespace Go.Proofs.YtgpgocijacgkhaaDoor
open Go.RowKit Go.Shelf

attribute [local go_sem] Oper.semAt_some

set_option maxRecDepth 100000 in
set_option maxHeartbeats 4000000 in
theorem mapped70 (m : Int) (a : Option Addr) (c : Nat) (zs : List Int) (X : Nat) (f : Int → Int) (w : World) (ha : Ints w w.heap.size a zs) (hx : zs.length ≤ 1048576)
    (hK : ∀ z W, Below w.heap.size w W → Calls Tryd.prog 91 #[.int .i64 z, .pointer (some ⟨X, 0, none⟩)] W fun e W' => e = .returned (.int .i64 (f z)) ∧ Below W.heap.size W W') :
    Calls Tryd.prog 53 #[.agg #[.int .i64 m, .slice a zs.length c], .func (.func 91) #[] #[.pointer (some ⟨X, 0, none⟩)]] w (RetFam w m (zs.map f)) := by
  obtain ⟨i0, hi0, hz0, hz1, hz2⟩ := info_parts Tryd.info3
  have HI := Lib.hid ha
  have HK := Lib.hid hK
  clear ha hK
  have bR3 := Lib.hid (below3 w (.cells #[.int .i64 m, .slice a zs.length c] 25) (.cells #[.func (.func 91) #[] #[.pointer (some ⟨X, 0, none⟩)]] 65) (.cells #[.int .i64 0, .slice none 0 0] 25))
  refine (callsIn_wide (n := 6)).1 ?_
  refine callsIn_of_wp_marks Tryd.func53 rfl trivial ?_ rfl
  simp only [Tryd.ntmps53, List.size_toArray, List.length_cons, List.length_nil, Nat.reduceAdd, Nat.reduceSub, Array.replicate_succ, Array.replicate_zero, List.push_toArray, List.append_toArray, List.nil_append, List.cons_append]
  gi_wp2_with (gi_at_make; refine mark_make ?_)
  refine unmark_make ?_
  refine wpListIn_make_own _ rfl _ _ 23 rfl (w.heap.size + 1 + 1 + 1) 3 i0 (.int .i64 0) 1 Tryd.underlying23 hi0 hz0 hz1 .i64 .i64 _ zs.length rfl rfl rfl (by rw [hz2]; omega) (by simp only [maxLen]; omega) (by simp) ?_
  intro w1 hown hg
  have q0 := made_0 hg
  have q1 := made_1 hg
  have q2 := made_2 hg
  have y0 := blk_cell (w := w1.alloc (.cells #[.slice (some ⟨w.heap.size + 1 + 1 + 1, 0, none⟩) 0 zs.length] 23)) ((alloc_old _ _ _ (lt_of_some q0)).trans q0) 0
  have y1 := blk_cell (w := w1.alloc (.cells #[.slice (some ⟨w.heap.size + 1 + 1 + 1, 0, none⟩) 0 zs.length] 23)) ((alloc_old _ _ _ (lt_of_some q0)).trans q0) 1
  have hsz : w.heap.size + 1 + 1 + 1 ≤ w1.heap.size := by have := hg.size; simp at this; omega
  have HQ0 := Lib.hid q0
  have HQ1 := Lib.hid q1
  have HQ2 := Lib.hid q2
  have hGl : w.heap.size + 1 + 1 + 1 < w1.heap.size := by have := (World.ownsRow.lt hown _ rfl).2; simpa using this
  have HO := Lib.hid hown
  have HG := Lib.hid (bR3.out.trans (below_made hg))
  clear q0 q1 q2 hown hg
  simp only [cell2_0, cell2_1] at y0 y1
  gi_wp2_with (refine ⟨trivial, ?_⟩; gi_at_call 45; refine (callsIn_wide.2 (clubs_any _ _ _ _ _)).mono ?_; rintro e w' ⟨rfl, rfl⟩)
  have hle : w.heap.size ≤ w1.heap.size := by omega
  have h16 : 1 ≤ 6 := by omega
  have hmx : Tryd.prog.follows .mixedOrders = true := by kernel_rfl
  have bA := Boxed.new w1 23 (.slice (some ⟨w.heap.size + 1 + 1 + 1, 0, none⟩) 0 zs.length)
  have HBB : Hid (Below w.heap.size w ((w1.alloc (.cells #[.slice (some ⟨w.heap.size + 1 + 1 + 1, 0, none⟩) 0 zs.length] 23)).alloc (.cells #[.int .i64 m, .slice a zs.length c] 25))) := Lib.hid (HG.out.trans ((below2 w1 _ _).mono (by omega)))
  have hst := clubs_stops (6 - 1) (by omega) (w1.heap.size + 1) w.heap.size a c zs hx ((w1.alloc (.cells #[.slice (some ⟨w.heap.size + 1 + 1 + 1, 0, none⟩) 0 zs.length] 23)).alloc (.cells #[.int .i64 m, .slice a zs.length c] 25)) (by simp) (by simp; omega)
    (by have := blk_cell (alloc_new (w1.alloc (.cells #[.slice (some ⟨w.heap.size + 1 + 1 + 1, 0, none⟩) 0 zs.length] 23)) (.cells #[.int .i64 m, .slice a zs.length c] 25)) 1; simp) (HI.out.below HBB.out)
  refine wpIn_rangeFunc_ownG rfl h16 (gf := 77) (lb := #[.pointer (some ⟨w1.heap.size + 1, 0, none⟩)]) rfl trivial (enters_of Tryd.func77 (by kernel_rfl) rfl)
    hst belowK_t (belowK_b (by simp; omega)) (Below.refl _ _) (fun _ => rfl)
    (fun pre W => ((∃ v, Boxed W w1.heap.size 23 v ∧ W.ownsRow w.heap.size 3 1 v pre.length ((pre.map fun p => f p.2).map (Value.int .i64)) ∧ v = .slice (some ⟨w.heap.size + 1 + 1 + 1, 0, none⟩) pre.length zs.length) ∧ (HasBlk W w.heap.size #[.int .i64 m, .slice a zs.length c] 25 ∧ HasBlk W (w.heap.size + 1) #[.func (.func 91) #[] #[.pointer (some ⟨X, 0, none⟩)]] 65 ∧ HasBlk W (w.heap.size + 1 + 1) #[.int .i64 0, .slice none 0 0] 25)) ∧ Below w.heap.size w W)
    (fun _ _ _ => False)
    (OwnFrom.and (OwnFrom.and (Own.from (holdsRow_own w.heap.size w1.heap.size 23 3 1 (fun (pre : List (Nat × Int)) => pre.length) (fun (pre : List (Nat × Int)) => (pre.map fun p => f p.2).map (Value.int .i64)) (fun (pre : List (Nat × Int)) v => v = .slice (some ⟨w.heap.size + 1 + 1 + 1, 0, none⟩) pre.length zs.length)) _) (OwnFrom.and (Own.from (hasBlk_own _ _ _) _) (OwnFrom.and (Own.from (hasBlk_own _ _ _) _) (Own.from (hasBlk_own _ _ _) _)))) (ownFrom_below (Nat.le_refl _) (by simp; omega)))
    (fun _ _ _ _ _ hs _ _ => hs)
    ⟨⟨⟨_, bA.alloc _, by have := ownsRow_base HO.out (B := w.heap.size) (by omega); simpa using (this.alloc _).alloc _, rfl⟩, (HasBlk.alloc HQ0.out _).alloc _, (HasBlk.alloc HQ1.out _).alloc _, (HasBlk.alloc HQ2.out _).alloc _⟩, HBB.out⟩
    (fun x => { tmps := #[.agg #[.int .i64 m, .slice a zs.length c], .func (.func 91) #[] #[.pointer (some ⟨X, 0, none⟩)], .pointer (some ⟨w.heap.size, 0, none⟩), .pointer (some ⟨w.heap.size + 1, 0, none⟩), .pointer (some ⟨w.heap.size + 1 + 1, 0, none⟩), .pointer (some ⟨w1.heap.size, 0, none⟩), undef, .int .i64 x.2, .pointer (some ⟨w.heap.size, 1, none⟩), .slice a zs.length c, .int .i64 zs.length, .slice (some ⟨w.heap.size + 1 + 1 + 1, 0, none⟩) 0 zs.length, .agg #[.int .i64 m, .slice a zs.length c], .func (.func 77) #[] #[.pointer (some ⟨w1.heap.size + 1, 0, none⟩)], .int .i64 (x.1 : Int), .int .i64 x.2, undef, undef, undef, undef, undef, undef, undef, undef, undef, undef], defers := [] }) ?assign ?body ?done ?stop
  case assign =>
    intro l x W K hK
    gi_wp2
    exact hK
  case body =>
    rintro l pre x W ⟨⟨⟨v, hv, hrow, rfl⟩, q0, q1, q2⟩, hB⟩ hlt
    have hc := hv.cell
    have hd := blk_cell q1 0
    simp only [cell1_0] at hd
    have hBd := Lib.hid hB.drew
    have HV := Lib.hid hv
    have HR := Lib.hid hrow
    have hWs : w.heap.size ≤ W.heap.size := hB.size
    have HB := Lib.hid hB
    have HQ0' := Lib.hid q0
    have HQ1' := Lib.hid q1
    have HQ2' := Lib.hid q2
    clear hv hrow hB q0 q1 q2
    have hGlt : w.heap.size + 1 + 1 + 1 < w1.heap.size := hGl
    have hMB : w1.heap.size < W.drew.heap.size := HV.out.lt
    gi_wp2
    gi_region_with_o (refine ⟨trivial, ?_⟩; gi_at_call 91; refine (CallsIn.inRound l (callsIn_wide.2 (HK.out _ _ hBd.out))).mono ?_; rintro e w2 ⟨rfl, hb2⟩; obtain ⟨u, hcu, hfu⟩ := spare_cell (own_after HR.out hb2) pre.length hlt; have hlt2 := lt_of_cell hcu; have hcu' := (World.cell?_alloc_lt w2 (.cells #[.int .i64 (f x.2)] 3) _ hlt2).trans hcu; have hc2 := (hb2.cell (p := ⟨w1.heap.size, 0, none⟩) hMB).trans hc; have hf2 := (hb2.frozen (p := ⟨w1.heap.size, 0, none⟩) hMB).trans HV.out.frozen; have hMB2 := lt_of_cell hc2; have hc3 := after_spare (y := .int .i64 (f x.2)) (k := pre.length) (o := .cells #[.int .i64 (f x.2)] 3) hGlt hMB2 hc2; have hf3 := after_spare_f (y := .int .i64 (f x.2)) (k := pre.length) (o := .cells #[.int .i64 (f x.2)] 3) hGlt hMB2 hf2)
    all_goals exact mapped_end (x := x) (f := f) hWs hGlt (by omega) hlt hb2 HV.out HR.out HB.out HQ0'.out (by omega) HQ1'.out (by omega) HQ2'.out (by omega)
  case done =>
    rintro D ys W hD rfl ⟨⟨⟨v, hv, hrow, rfl⟩, q0, q1, q2⟩, hB⟩ hK
    rw [pairs_length] at hv hrow
    have hmap : (pairs zs zs.length).map (fun p => f p.2) = zs.map f := by
      rw [show (fun p : Nat × Int => f p.2) = f ∘ (fun p => p.2) from rfl, ← List.map_map, pairs_all]
    rw [hmap] at hrow
    have hc := hv.cell
    have d0 := blk_cell q0 0
    have d2 := blk_cell q2 0
    have d3 := blk_cell q2 1
    have f2 := blk_frozen q2 0
    have f3 := blk_frozen q2 1
    simp only [cell2_0, cell2_1] at d0 d2 d3
    have HR := Lib.hid hrow
    have HB := Lib.hid hB
    have HQ2' := Lib.hid q2
    clear hv hrow hB q0 q1 q2 hmap
    gi_wp2
    have hK' := (KeepsOthers.setCell (W.setCell ⟨w.heap.size + 1 + 1, 0, none⟩ (.int .i64 m)) ⟨w.heap.size + 1 + 1, 1, none⟩ (.slice (some ⟨w.heap.size + 1 + 1 + 1, 0, none⟩) zs.length zs.length)).same D _ ((KeepsOthers.setCell W ⟨w.heap.size + 1 + 1, 0, none⟩ (.int .i64 m)).same D _ hK rfl) rfl
    refine ⟨by simp, .inl ⟨_, _, rfl, run_takeDeferred hK', ?_⟩⟩
    have e0 := cell_kept (World.cell?_setCell_other (W.setCell ⟨w.heap.size + 1 + 1, 0, none⟩ (.int .i64 m)) ⟨w.heap.size + 1 + 1, 1, none⟩ ⟨w.heap.size + 1 + 1, 0, none⟩ (.slice (some ⟨w.heap.size + 1 + 1 + 1, 0, none⟩) zs.length zs.length) (by simp) |>.trans (World.cell?_setCell_same' W ⟨w.heap.size + 1 + 1, 0, none⟩ (.int .i64 m) (by rw [d2]; rfl))) (grownBy_putObj' _ D (.deferred none)) (fun r e => by cases e; exact ⟨_, hK', rfl⟩)
    have e1 := cell_kept (World.cell?_setCell_same' (W.setCell ⟨w.heap.size + 1 + 1, 0, none⟩ (.int .i64 m)) ⟨w.heap.size + 1 + 1, 1, none⟩ (.slice (some ⟨w.heap.size + 1 + 1 + 1, 0, none⟩) zs.length zs.length) (by rw [World.cell?_setCell_other _ _ _ _ (by simp), d3]; rfl)) (grownBy_putObj' _ D (.deferred none)) (fun r e => by cases e; exact ⟨_, hK', rfl⟩)
    refine ⟨.agg #[.int .i64 m, .slice (some ⟨w.heap.size + 1 + 1 + 1, 0, none⟩) zs.length zs.length], by simp [results, Tryd.f53, go_sem, e0, e1], _, _, by rw [List.length_map], ?_, ?_⟩
    · rw [List.length_map]
      have h1 := ownsRow_setCell_ne HR.out (p := ⟨w.heap.size + 1 + 1, 0, none⟩) (by simp [Value.ownBlock]) (.int .i64 m)
      have h2 := ownsRow_setCell_ne h1 (p := ⟨w.heap.size + 1 + 1, 1, none⟩) (by simp [Value.ownBlock]) (.slice (some ⟨w.heap.size + 1 + 1 + 1, 0, none⟩) zs.length zs.length)
      unfold OwnI
      rw [List.length_map]
      exact ownsRow_putObj h2 _ hK' rfl
    · exact ((HB.out.setCell (p := ⟨w.heap.size + 1 + 1, 0, none⟩) (by simp; omega) _).setCell (p := ⟨w.heap.size + 1 + 1, 1, none⟩) (by simp; omega) _).trans (belowK_b (w := w) (Nat.le_refl _) _ D _ _ (by simp at hD; omega) hK' rfl rfl)
  case stop =>
    rintro D c pre W _ _ h _
    exact h.elim

end Go.Proofs.YtgpgocijacgkhaaDoor

/- It is proved what the FamilyOther of the program and of the model return; conditions: those of each statement. -/
namespace Go.Proofs.YtgpgocijacgkhaaDoor
open Go.RowKit

theorem full_b (m : Int) (a : Option Addr) (n cap : Nat) (w : World) (h1 : 1 ≤ m) (h2 : m ≤ 6) :
    Calls Tryd.prog 59 #[.agg #[.int .i64 m, .slice a n cap]] w fun e w' => e = .returned (.int .i64 (fullI m)) ∧ Below w.heap.size w w' :=
  (full_any m a n cap w h1 h2).mono fun e w' ⟨he, hw⟩ => ⟨he, by rw [hw]; exact below1 _ _⟩

theorem otherFn_any (m : Int) (a : Option Addr) (n c : Nat) (z : Int) (X : Nat) (W : World) (h0 : W.cell? ⟨X, 0, none⟩ = some (.int .i64 m)) (h1 : W.cell? ⟨X, 1, none⟩ = some (.slice a n c)) (hm1 : 1 ≤ m) (hm6 : m ≤ 6) :
    Calls Tryd.prog 91 #[.int .i64 z, .pointer (some ⟨X, 0, none⟩)] W fun e W' => e = .returned (.int .i64 (bits .andNot .i64 (fullI m) z)) ∧ Below W.heap.size W W' := by
  go_enter Tryd.func91, Tryd.ntmps91
  go_wp2_with (go_at_call 59; refine (full_b _ _ _ _ _ hm1 hm6).mono ?_; rintro e w1 ⟨rfl, hb⟩; have HB := Lib.hid hb; clear hb)
  go_ret
  exact ⟨rfl, HB.out⟩

/-- The method other: no bound of clubs. -/
theorem otherFam_any (m : Int) (a : Option Addr) (c : Nat) (zs : List Int) (w : World) (ha : Ints w w.heap.size a zs) (hx : zs.length ≤ 1048576) (hm1 : 1 ≤ m) (hm6 : m ≤ 6) :
    Calls Tryd.prog 68 #[.agg #[.int .i64 m, .slice a zs.length c]] w (RetFam w m (zs.map fun z => bits .andNot .i64 (fullI m) z)) := by
  have hmf : ∀ (fn : Fn) (first cap : Array Value) (w : World), (Instr.makeFunc fn first cap).run Tryd.prog w = .ok (.func fn first cap) w := fun _ _ _ _ => rfl
  have HB0 := Lib.hid (below2 w (.cells #[.int .i64 m, .slice a zs.length c] 25) (.cells #[.int .i64 0, .slice none 0 0] 25))
  have HA := Lib.hid (ha.below HB0.out)
  have B0 := Lib.hid (alloc2_0 w (.cells #[.int .i64 m, .slice a zs.length c] 25) (.cells #[.int .i64 0, .slice none 0 0] 25))
  have Z1 := Lib.hid (show w.heap.size + 1 < ((w.alloc (.cells #[.int .i64 m, .slice a zs.length c] 25)).alloc (.cells #[.int .i64 0, .slice none 0 0] 25)).heap.size by simp)
  have Z0 := Lib.hid (show w.heap.size < ((w.alloc (.cells #[.int .i64 m, .slice a zs.length c] 25)).alloc (.cells #[.int .i64 0, .slice none 0 0] 25)).heap.size by simp; omega)
  clear ha
  go_enter Tryd.func68, Tryd.ntmps68
  go_wp2_with fail
  refine (mapped70 m a c zs w.heap.size (fun z => bits .andNot .i64 (fullI m) z) _ (HA.out.mono (by simp; omega)) hx (fun z W hW => otherFn_any m a zs.length c z _ W ((hW.cell (p := ⟨w.heap.size, 0, none⟩) Z0.out).trans ((blk_cell B0.out 0).trans (cell2_0 _ _))) ((hW.cell (p := ⟨w.heap.size, 1, none⟩) Z0.out).trans ((blk_cell B0.out 1).trans (cell2_1 _ _))) hm1 hm6)).mono ?_
  rintro e w2 ⟨a2, c2, rfl, ho2, hb2⟩
  have b2' : w2.heap[w.heap.size + 1]? = some (.cells #[.int .i64 0, .slice none 0 0] 25 (0, 0)) := (hb2.block _ (by simp)).trans (alloc2_1 w _ _)
  have d0 := (blk_cell b2' 0).trans (cell2_0 _ _)
  have d1 := (blk_cell b2' 1).trans (cell2_1 _ _)
  have f0 := blk_frozen b2' 0
  have f1 := blk_frozen b2' 1
  have HO2 := Lib.hid ho2
  have HB2 := Lib.hid (HB0.out.trans (hb2.mono (by simp; omega)))
  clear ho2 hb2 b2'
  go_wp2
  refine bodyPost_ret (v := .agg #[.int .i64 m, .slice a2 (zs.map fun z => bits .andNot .i64 (fullI m) z).length c2]) (by simp [results, Tryd.results68, go_sem, d0, d1]) rfl ?_
  refine ⟨a2, c2, rfl, ?_, ?_⟩
  · exact own_mono (ownsRow_setCell_below (ownsRow_setCell_below HO2.out Z1.out _) Z1.out _) (by simp; omega)
  · exact (HB2.out.setCell (p := ⟨w.heap.size + 1, 0, none⟩) (by simp) _).setCell (p := ⟨w.heap.size + 1, 1, none⟩) (by simp) _

set_option maxRecDepth 100000 in
set_option maxHeartbeats 1600000 in
theorem implOther_no (m : Int) (a : Option Addr) (c : Nat) (zs : List Int) (w : World) (ha : Ints w w.heap.size a zs) (hx : zs.length ≤ 1048576) (hf : famIn m zs = false) :
    Calls Tryd.prog 30 #[.agg #[.int .i64 m, .slice a zs.length c]] w (RetFB w 0 [] false) := by
  have HB0 := Lib.hid (below2 w (.cells #[.int .i64 m, .slice a zs.length c] 25) (.cells #[.int .i64 0, .slice none 0 0] 25))
  have HA := Lib.hid (ha.below HB0.out)
  have HF := Lib.hid hf
  clear hf ha
  go_enter Tryd.func30, Tryd.ntmps30
  go_wp2_with fail
  refine (implFamilyIn_any _ _ _ zs _ (HA.out.mono (by simp; omega)) hx).mono ?_
  rintro e w1 ⟨rfl, hb⟩
  rw [HF.out]
  have b2 : w1.heap[w.heap.size + 1]? = some (.cells #[.int .i64 0, .slice none 0 0] 25 (0, 0)) := (hb.block _ (by simp)).trans (alloc2_1 w _ _)
  have d0 := blk_cell b2 0
  have d1 := blk_cell b2 1
  have f0 := blk_frozen b2 0
  have f1 := blk_frozen b2 1
  simp only [cell2_0, cell2_1] at d0 d1
  have HB := Lib.hid (HB0.out.trans (hb.mono (by simp; omega)))
  clear hb b2
  go_wp2
  refine bodyPost_ret (v := .tuple #[.agg #[.int .i64 0, .slice none 0 0], .bool false]) (by simp [results, Tryd.results30, go_sem, d0, d1]) rfl ?_
  exact ⟨none, 0, rfl, own_nil _ _, (HB.out.setCell (p := ⟨w.heap.size + 1, 0, none⟩) (by simp) _).setCell (p := ⟨w.heap.size + 1, 1, none⟩) (by simp) _⟩

set_option maxRecDepth 100000 in
set_option maxHeartbeats 1600000 in
theorem implOther_yes (m : Int) (a : Option Addr) (c : Nat) (zs : List Int) (w : World) (ha : Ints w w.heap.size a zs) (hx : zs.length ≤ 1048576) (hf : famIn m zs = true) :
    Calls Tryd.prog 30 #[.agg #[.int .i64 m, .slice a zs.length c]] w (RetFB w m (zs.map fun z => bits .andNot .i64 (fullI m) z) true) := by
  have HB0 := Lib.hid (below2 w (.cells #[.int .i64 m, .slice a zs.length c] 25) (.cells #[.int .i64 0, .slice none 0 0] 25))
  have HA := Lib.hid (ha.below HB0.out)
  have HF := Lib.hid hf
  obtain ⟨hm1, hm6, -, -⟩ := famIn_out hf
  clear hf ha
  go_enter Tryd.func30, Tryd.ntmps30
  go_wp2_with fail
  refine (implFamilyIn_any _ _ _ zs _ (HA.out.mono (by simp; omega)) hx).mono ?_
  rintro e w1 ⟨rfl, hb⟩
  rw [HF.out]
  have b0 : w1.heap[w.heap.size]? = some (.cells #[.int .i64 m, .slice a zs.length c] 25 (0, 0)) := (hb.block _ (by simp; omega)).trans (alloc2_0 w _ _)
  have b2 : w1.heap[w.heap.size + 1]? = some (.cells #[.int .i64 0, .slice none 0 0] 25 (0, 0)) := (hb.block _ (by simp)).trans (alloc2_1 w _ _)
  have x0 := blk_cell b0 0
  have x1 := blk_cell b0 1
  simp only [cell2_0, cell2_1] at x0 x1
  have HB := Lib.hid (HB0.out.trans (hb.mono (by simp; omega)))
  have z1 : w.heap.size + 1 < w1.heap.size := by have := hb.size; simp at this; omega
  have HA1 := Lib.hid ((HA.out.below (hb.mono (by simp; omega))).mono (B' := w1.heap.size) (by omega))
  have B0 := Lib.hid b0
  have B2 := Lib.hid b2
  have hmf : ∀ (fn : Fn) (first cap : Array Value) (w : World), (Instr.makeFunc fn first cap).run Tryd.prog w = .ok (.func fn first cap) w := fun _ _ _ _ => rfl
  clear hb b0 b2
  go_wp2_with fail
  refine (otherFam_any m a c zs _ HA1.out hx hm1 hm6).mono ?_
  rintro e w2 ⟨a2, c2, rfl, ho2, hb2⟩
  have b2' := (hb2.block _ z1).trans B2.out
  have d0 := blk_cell b2' 0
  have d1 := blk_cell b2' 1
  have f0 := blk_frozen b2' 0
  have f1 := blk_frozen b2' 1
  simp only [cell2_0, cell2_1] at d0 d1
  have HO2 := Lib.hid ho2
  have HB2 := Lib.hid (HB.out.trans (hb2.mono (by omega)))
  clear ho2 hb2 b2'
  go_wp2
  refine bodyPost_ret (v := .tuple #[.agg #[.int .i64 m, .slice a2 (zs.map fun z => bits .andNot .i64 (fullI m) z).length c2], .bool true]) (by simp [results, Tryd.results30, go_sem, d0, d1]) rfl ?_
  refine ⟨a2, c2, rfl, ?_, ?_⟩
  · exact own_mono (ownsRow_setCell_below (ownsRow_setCell_below HO2.out (by simp; omega) _) (by simp; omega) _) (by omega)
  · exact (HB2.out.setCell (p := ⟨w.heap.size + 1, 0, none⟩) (by simp) _).setCell (p := ⟨w.heap.size + 1, 1, none⟩) (by simp) _

def otherZ (m : Int) (zs : List Int) : List Int := if famIn m zs then zs.map fun z => bits .andNot .i64 (fullI m) z else []
def otherM (m : Int) (zs : List Int) : Int := if famIn m zs then m else 0
theorem otherZ_len (m : Int) (zs : List Int) (h : zs.length ≤ 1048576) : (otherZ m zs).length ≤ 1048576 := by
  unfold otherZ; split <;> simp; exact h

theorem implOther_any (m : Int) (a : Option Addr) (c : Nat) (zs : List Int) (w : World) (ha : Ints w w.heap.size a zs) (hx : zs.length ≤ 1048576) :
    Calls Tryd.prog 30 #[.agg #[.int .i64 m, .slice a zs.length c]] w (RetFB w (otherM m zs) (otherZ m zs) (famIn m zs)) := by
  unfold otherM otherZ
  cases hf : famIn m zs
  · exact implOther_no m a c zs w ha hx hf
  · exact implOther_yes m a c zs w ha hx hf

end Go.Proofs.YtgpgocijacgkhaaDoor

/- It is proved that the call of the law FnOther returns true; conditions: those of each statement. -/
namespace Go.Proofs.YtgpgocijacgkhaaDoor
open Go.RowKit

set_option maxRecDepth 100000 in
theorem other_other_fin : ∀ k : Fin 6, ∀ z : Fin 64, (z.val : Int) ≤ fullI ((k.val : Int) + 1) → bits .andNot .i64 (fullI ((k.val : Int) + 1)) (bits .andNot .i64 (fullI ((k.val : Int) + 1)) (z.val : Int)) = (z.val : Int) := by decide +kernel

theorem other_other {m z : Int} (h1 : 1 ≤ m) (h2 : m ≤ 6) (h3 : 0 ≤ z) (h4 : z ≤ fullI m) : bits .andNot .i64 (fullI m) (bits .andNot .i64 (fullI m) z) = z := by
  have h5 := fullI_63 h1 h2
  have := other_other_fin ⟨(m - 1).toNat, by omega⟩ ⟨z.toNat, by omega⟩
  simp only [Int.toNat_of_nonneg (show 0 ≤ m - 1 by omega), Int.toNat_of_nonneg h3, show m - 1 + 1 = m by omega] at this
  exact this h4

set_option maxRecDepth 100000 in
theorem orF_fin : ∀ a b : Fin 64, bits .or .i64 (a.val : Int) (b.val : Int) = ((a.val ||| b.val : Nat) : Int) := by decide +kernel

set_option maxRecDepth 100000 in
theorem andF_fin : ∀ a b : Fin 64, bits .and .i64 (a.val : Int) (b.val : Int) = ((a.val &&& b.val : Nat) : Int) := by decide +kernel

set_option maxRecDepth 100000 in
theorem notF_fin : ∀ k : Fin 6, ∀ b : Fin 64, bits .andNot .i64 (fullI ((k.val : Int) + 1)) (b.val : Int) = (((2 ^ (k.val + 1) - 1) ^^^ ((2 ^ (k.val + 1) - 1) &&& b.val) : Nat) : Int) := by decide +kernel

theorem bits_or_nat (a b : Nat) (ha : a < 64) (hb : b < 64) : bits .or .i64 (a : Int) (b : Int) = ((a ||| b : Nat) : Int) := by
  have := orF_fin ⟨a, ha⟩ ⟨b, hb⟩
  simpa using this

theorem bits_and_nat (a b : Nat) (ha : a < 64) (hb : b < 64) : bits .and .i64 (a : Int) (b : Int) = ((a &&& b : Nat) : Int) := by
  have := andF_fin ⟨a, ha⟩ ⟨b, hb⟩
  simpa using this

theorem bits_not_nat (k b : Nat) (hk1 : 1 ≤ k) (hk : k ≤ 6) (hb : b < 64) : bits .andNot .i64 (fullI (k : Int)) (b : Int) = (((2 ^ k - 1) ^^^ ((2 ^ k - 1) &&& b) : Nat) : Int) := by
  have := notF_fin ⟨k - 1, by omega⟩ ⟨b, hb⟩
  simp only [show ((k - 1 : Nat) : Int) + 1 = (k : Int) by omega, show k - 1 + 1 = k by omega] at this
  exact this

theorem pow64 (k : Nat) (hk : k ≤ 6) : 2 ^ k ≤ 64 := Nat.pow_le_pow_right (by decide) hk
theorem demorgan (F s z : Nat) : (F ^^^ (F &&& s)) ||| (F ^^^ (F &&& z)) = F ^^^ (F &&& (s &&& z)) := by
  apply Nat.eq_of_testBit_eq
  intro i
  simp only [Nat.testBit_or, Nat.testBit_xor, Nat.testBit_and]
  cases F.testBit i <;> cases s.testBit i <;> cases z.testBit i <;> rfl

theorem or_other (k : Nat) (hk1 : 1 ≤ k) (hk : k ≤ 6) : ∀ (zs : List Int) (s : Nat), s < 64 → (∀ z ∈ zs, 0 ≤ z ∧ z ≤ fullI (k : Int)) →
    (zs.map fun z => bits .andNot .i64 (fullI (k : Int)) z).foldl (fun s z => bits .or .i64 s z) (bits .andNot .i64 (fullI (k : Int)) (s : Int)) = bits .andNot .i64 (fullI (k : Int)) (zs.foldl (fun s z => bits .and .i64 s z) (s : Int)) := by
  intro zs
  induction zs with
  | nil => intro s _ _; rfl
  | cons z zs ih =>
    intro s hs hz
    have h1 := hz z (by simp)
    have h5 := fullI_63 (m := (k : Int)) (by omega) (by omega)
    obtain ⟨t, rfl⟩ : ∃ t : Nat, z = (t : Int) := ⟨z.toNat, by omega⟩
    have h64 : 2 ^ k ≤ 64 := pow64 k hk
    have hx : ∀ b, (2 ^ k - 1) ^^^ ((2 ^ k - 1) &&& b) < 64 := fun b => Nat.lt_of_lt_of_le (Nat.xor_lt_two_pow (n := k) (by have := Nat.one_le_two_pow (n := k); omega) (Nat.lt_of_le_of_lt Nat.and_le_left (by have := Nat.one_le_two_pow (n := k); omega))) h64
    rw [List.map_cons, List.foldl_cons, List.foldl_cons, bits_not_nat k s hk1 hk hs, bits_not_nat k t hk1 hk (by omega), bits_or_nat _ _ (hx _) (hx _), demorgan, bits_and_nat s t hs (by omega)]
    have hst : s &&& t < 64 := Nat.lt_of_le_of_lt Nat.and_le_left hs
    rw [← bits_not_nat k _ hk1 hk hst]
    exact ih _ hst (fun y hy => hz y (by simp [hy]))

theorem other_facts {m : Int} {zs : List Int} (h : famIn m zs = true) : famIn (otherM m zs) (otherZ m zs) = true ∧ otherM (otherM m zs) (otherZ m zs) = m ∧ otherZ (otherM m zs) (otherZ m zs) = zs ∧ (famAll (otherM m zs) (otherZ m zs) == bits .andNot .i64 (fullI m) (famCommon m zs)) = true := by
  have e1 : otherM m zs = m := by simp [otherM, h]
  have e2 : otherZ m zs = zs.map fun z => bits .andNot .i64 (fullI m) z := by simp [otherZ, h]
  have hf := other_fam h
  obtain ⟨h1, h2, h3, h4⟩ := famIn_out h
  rw [e1, e2]
  refine ⟨hf, by simp [otherM, hf], ?_, ?_⟩
  · rw [otherZ, if_pos hf, List.map_map]
    conv => rhs; rw [← List.map_id zs]
    apply List.map_congr_left
    intro z hz
    exact other_other h1 h2 (h4 z hz).1 (h4 z hz).2
  · rw [famAll, if_pos hf, famCommon, if_pos h, beq_iff_eq]
    obtain ⟨k, rfl⟩ : ∃ k : Nat, m = (k : Int) := ⟨m.toNat, by omega⟩
    have h5 := fullI_63 h1 h2
    have h6 : 0 ≤ fullI (k : Int) := by
      rcases m16 h1 h2 with h | h | h | h | h | h <;> rw [h] <;> decide
    obtain ⟨s, hs⟩ : ∃ s : Nat, fullI (k : Int) = (s : Int) := ⟨(fullI (k : Int)).toNat, by omega⟩
    have := or_other k (by omega) (by omega) zs s (by omega) h4
    have e0 : bits .andNot .i64 (fullI (k : Int)) (s : Int) = 0 := by
      rw [← hs]
      rcases m16 h1 h2 with h | h | h | h | h | h <;> rw [h] <;> decide
    rw [e0, ← hs] at this
    exact this

end Go.Proofs.YtgpgocijacgkhaaDoor

/- It is proved that the call of the law FnAlikeNames returns true; conditions: those of each statement. -/
namespace Go.Proofs.YtgpgocijacgkhaaDoor
open Go.RowKit

theorem perm_names_fin : ∀ k : Fin 7, ∀ p ∈ lvlL k.val k.val, namesB k.val (nI p) = true := by decide +kernel
theorem perm_names {k : Nat} (hk : k ≤ 6) {p : List Nat} (h : p ∈ lvlL k k) : namesB k (nI p) = true := perm_names_fin ⟨k, by omega⟩ p h
theorem first_in {k : Nat} (hk : k ≤ 6) (zs : List Int) : firstN k zs ∈ lvlL k k := bestG_in zs (lvlL k k) _ (by have := lvlL_pos hk; omega)
end Go.Proofs.YtgpgocijacgkhaaDoor

/- It is proved that names may be called one behind the other, and that the least list is its own least list; conditions: those of each statement. -/
namespace Go.Proofs.YtgpgocijacgkhaaDoor
open Go.RowKit

/-- Names behind names. -/
def compN (p q : List Nat) : List Nat := p.map fun v => q[v]?.getD 0

theorem permsL_in : ∀ (k : Nat) (us p : List Nat), us.length = k → p.Perm us → p ∈ permsL k us
  | 0, us, p, hl, hp => by
    have h1 : us = [] := List.eq_nil_of_length_eq_zero hl
    subst h1
    have h2 : p = [] := List.Perm.eq_nil hp
    simp [permsL, h2]
  | k + 1, us, p, hl, hp => by
    cases p with
    | nil => have := hp.length_eq; simp at this; omega
    | cons v p =>
      obtain ⟨hv, h2⟩ := List.cons_perm_iff_perm_erase.1 hp
      simp only [permsL, List.mem_flatMap, List.mem_map]
      exact ⟨v, hv, p, permsL_in k _ _ (by rw [List.length_erase_of_mem hv]; omega) h2, rfl⟩

theorem lvl_perm {k : Nat} {p : List Nat} : p ∈ lvlL k k ↔ p.Perm (List.range k) := by
  rw [lvlL_perms]
  exact ⟨permsL_perm k _ _ (by simp), permsL_in k _ _ (by simp)⟩

theorem at_range {k : Nat} {q : List Nat} (hl : q.length = k) : ((List.range k).map fun v => q[v]?.getD 0) = q := by
  apply List.ext_getElem
  · simp [hl]
  · intro i h1 h2
    simp [h2]

theorem comp_in {k : Nat} {p q : List Nat} (hp : p ∈ lvlL k k) (hq : q ∈ lvlL k k) : compN p q ∈ lvlL k k := by
  rw [lvl_perm] at hp hq ⊢
  have h1 : (compN p q).Perm ((List.range k).map fun v => q[v]?.getD 0) := hp.map _
  rw [at_range (by simpa using hq.length_eq)] at h1
  exact h1.trans hq

theorem nI_at (p : List Nat) (v : Nat) (h : v < p.length) : ((nI p)[v]?.getD 0).toNat = p[v]?.getD 0 := by simp [nI, h]
theorem called_comp {k : Nat} (hk : k ≤ 6) {p q : List Nat} (hp : p ∈ lvlL k k) (hq : q ∈ lvlL k k) {s : Nat} (hs : s < 2 ^ k) : called (nI q) (called (nI p) s) = called (nI (compN p q)) s := by
  have hc := comp_in hp hq
  have hpl := lvlL_in hp
  have hql := lvlL_in hq
  have hcl := lvlL_in hc
  have hs2 := called_lt hk (perm_names hk hp) hs
  apply Nat.eq_of_testBit_eq
  intro i
  by_cases hi : i < k
  · obtain ⟨v, hv, e⟩ := List.getElem_of_mem (show i ∈ compN p q from (lvl_perm.1 hc).symm.subset (List.mem_range.2 hi))
    have hvk : v < k := by omega
    have hpv : p[v]?.getD 0 < k := by
      have := lvlL_lt hp p[v] (List.getElem_mem _)
      simpa [show v < p.length by omega] using this
    have e1 : (compN p q)[v]?.getD 0 = i := by simp [hv, e]
    have e2 : q[p[v]?.getD 0]?.getD 0 = i := by
      rw [← e1]
      simp [compN, show v < p.length by omega]
    have b1 := called_bit hk (perm_names hk hq) hs2 hpv
    rw [nI_at q _ (by omega), e2] at b1
    have b2 := called_bit hk (perm_names hk hp) hs hvk
    rw [nI_at p _ (by omega)] at b2
    have b3 := called_bit hk (perm_names hk hc) hs hvk
    rw [nI_at _ _ (by omega), e1] at b3
    rw [b1, b2, b3]
  · have hpw : 2 ^ k ≤ 2 ^ i := Nat.pow_le_pow_right (by decide) (by omega)
    rw [Nat.testBit_lt_two_pow (Nat.lt_of_lt_of_le (called_lt hk (perm_names hk hq) hs2) hpw), Nat.testBit_lt_two_pow (Nat.lt_of_lt_of_le (called_lt hk (perm_names hk hc) hs) hpw)]

theorem callZ_comp {k : Nat} (hk : k ≤ 6) {p q : List Nat} (hp : p ∈ lvlL k k) (hq : q ∈ lvlL k k) {z : Int} (hz : z.toNat < 2 ^ k) : callZ (nI q) (callZ (nI p) z) = callZ (nI (compN p q)) z := by
  unfold callZ
  rw [Int.toNat_natCast, called_comp hk hp hq hz]

theorem range_in (k : Nat) : List.range k ∈ lvlL k k := lvl_perm.2 (List.Perm.refl _)
theorem callZ_id {k : Nat} (hk : k ≤ 6) {z : Int} (h0 : 0 ≤ z) (hz : z.toNat < 2 ^ k) : callZ (nI (List.range k)) z = z := by
  have : called (nI (List.range k)) z.toNat = z.toNat := by
    apply Nat.eq_of_testBit_eq
    intro i
    by_cases hi : i < k
    · have b1 := called_bit hk (perm_names hk (range_in k)) hz hi
      rw [nI_at _ _ (by simpa using hi)] at b1
      simpa [hi] using b1
    · have hpw : 2 ^ k ≤ 2 ^ i := Nat.pow_le_pow_right (by decide) (by omega)
      rw [Nat.testBit_lt_two_pow (Nat.lt_of_lt_of_le (called_lt hk (perm_names hk (range_in k)) hz) hpw), Nat.testBit_lt_two_pow (Nat.lt_of_lt_of_le hz hpw)]
  unfold callZ
  rw [this]
  omega

theorem fam_small {k : Nat} {zs : List Int} (h : famIn (k : Int) zs = true) : ∀ z ∈ zs, 0 ≤ z ∧ z.toNat < 2 ^ k := by
  intro z hz
  have h1 := (famIn_out h).2.2.2 z hz
  have h6 : fullI (k : Int) = ((2 ^ k - 1 : Nat) : Int) := full_nat k
  have h7 : 1 ≤ 2 ^ k := Nat.one_le_two_pow
  omega

theorem fam_called {k : Nat} (hk : k ≤ 6) {p : List Nat} (hp : p ∈ lvlL k k) {zs : List Int} (hf : famIn (k : Int) zs = true) : famIn (k : Int) (zs.map (callZ (nI p))) = true := by
  have h2 : namIn (k : Int) zs (nI p) = true := by
    rw [namIn, hf, Bool.true_and]
    exact perm_names hk hp
  have := (named_facts h2).2.2.1
  rwa [namZ, if_pos h2] at this

theorem lst_perm (zs : List Int) (p : List Nat) : (lstP zs p).Perm (zs.map (callZ (nI p))) := List.mergeSort_perm _ _
theorem lst_comp {k : Nat} (hk : k ≤ 6) {p q : List Nat} (hp : p ∈ lvlL k k) (hq : q ∈ lvlL k k) {zs : List Int} (hf : famIn (k : Int) zs = true) : lstP (lstP zs p) q = lstP zs (compN p q) := by
  have h1 : ((lstP zs p).map (callZ (nI q))).Perm (zs.map (callZ (nI (compN p q)))) := by
    refine ((lst_perm zs p).map _).trans ?_
    rw [List.map_map, show zs.map (callZ (nI q) ∘ callZ (nI p)) = zs.map (callZ (nI (compN p q))) from List.map_congr_left fun z hz => callZ_comp hk hp hq (fam_small hf z hz).2]
  exact sortZ_congr h1

theorem least_le {k : Nat} (hk : k ≤ 6) (zs : List Int) {r : List Nat} (hr : r ∈ lvlL k k) : lexB (lstP zs r) (lstP zs (firstN k zs)) = false := by
  obtain ⟨j, hj, rfl⟩ := List.getElem_of_mem hr
  have h1 := bestG_least zs (lvlL k k) ((lvlL k k).length - 1) j (by omega)
  rw [bestG_of] at h1
  simpa [hj, firstN] using h1

end Go.Proofs.YtgpgocijacgkhaaDoor
