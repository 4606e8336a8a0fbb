/- It is proved what CoverSmall of the program and of the reference model returns; conditions: those of each statement. -/
import Derived.RowKit
import Derived.Laws.CopyRow
import Derived.Lib.SlBuf
import Derived.Deep.QuietTactic
import Derived.RangeFuncNested
import Derived.RangeFuncBound
import Derived.RangeFuncCalls
import Derived.RangeFuncLeaves
import Derived.RangeFuncBox
import Derived.RangeFuncWrites
import Derived.StillTailTactics
import Derived.Maps.OwnIn
import Derived.Maps.Ext
import Derived.DeepKeys4
import Derived.MapKept
import Derived.Test.YtlfbpaphjkbcmaaRows
import Derived.WalkKit
import Derived.WalkSpells
import Derived.ProofKit
import Derived.OpenShut
import Derived.ShutString
import Derived.ChangeOld
import Derived.Below
import Derived.Deep.RegionHeld3
import Derived.BigQuiet
import Derived.Lib.Hide
import Derived.Lib.SmallJoins
import Derived.Outline
import Derived.Laws.MakeOwn
import Derived.Laws.OwnMore
import Derived.IntWalk
import Derived.Deep.RegionLaw
import Derived.Deep.AppendLies
import Derived.Lib.AppendZeros
import Derived.Maps.AppendAt
import Derived.OwnWalk
import Derived.Lib.SlicesCompact
import Derived.Lib.OwnBridge
import Derived.OrdersIn
import Derived.TacticsIn
import Derived.Shelf.Sort.Plain
import Derived.Shelf.Slices.In.SortNone
import Derived.Shelf.Slices.CompactI
import Derived.Ground.Names2Prog
import Derived.Lib.SliceRun
import Derived.Shelf.Abstract
import Derived.Shelf.RegionOpen
import Derived.OwnWalkIn
import Derived.TacticsInMore
import Derived.LoopNIn
import Derived.LoopIn
import Derived.StillTail
import Derived.StillTactics
import Derived.Shelf.Spec.TrailingZeros
import Derived.Test.YtlfbpaphjkbcmaaRaasxRankOd
import Derived.Test.YtlfbpaphjkbcmaaB
import Derived.Test.YtlfbpaphjkbcmaaC
import Derived.Test.YtlfbpaphjkbcmaaE
import Derived.Test.YtlfbpaphjkbcmaaF
import Derived.Test.YtlfbpaphjkbcmaaN
import Derived.Test.YtlfbpaphjkbcmaaSa
import Derived.Deep.LoopGhost
import Derived.Test.YtlfbpaphjkbcmaaZa
import Derived.Test.YtlfbpaphjkbcmaaH
import Derived.Test.YtlfbpaphjkbcmaaZc
namespace Go.Proofs.Ytlfbpaphjkbcmaa
open Go.RowKit

theorem at_in {xs : List Int} {k : Nat} (h : k < xs.length) : xs[k]?.getD 0 ∈ xs := by
  rw [List.getElem?_eq_getElem h]; exact List.getElem_mem _

end Go.Proofs.Ytlfbpaphjkbcmaa

/- It is proved that the most clubs that get a member of a set are all clubs but as many as the worst set of places falls short by; conditions: those of each statement. -/
namespace Go.Proofs.Ytlfbpaphjkbcmaa
open Go.RowKit

/-- How many of the first k numbers a set has. -/
def cntK (k s : Nat) : Nat := (memK k s).length

end Go.Proofs.Ytlfbpaphjkbcmaa

/- It is proved what meets and reached return; conditions: those of each statement. -/
namespace Go.Proofs.Ytlfbpaphjkbcmaa
open Go.RowKit Go.Shelf

attribute [local go_sem] Oper.semAt_some

set_option maxRecDepth 100000 in
theorem and_fin : ∀ x : Fin 64, ∀ y : Fin 64, bits BinOp.and IntKind.i64 (x.val : Int) (y.val : Int) = ((x.val &&& y.val : Nat) : Int) := by decide +kernel

theorem and6_at (x y : Nat) (hx : x < 64) (hy : y < 64) : bits BinOp.and IntKind.i64 (x : Int) (y : Int) = ((x &&& y : Nat) : Int) := and_fin ⟨x, hx⟩ ⟨y, hy⟩
end Go.Proofs.Ytlfbpaphjkbcmaa

/- It is proved what the method mapped returns, by which closure it may be called; conditions: those of the statement. -/
namespace Go.Proofs.Ytlfbpaphjkbcmaa
open Go.RowKit Go.Shelf

attribute [local go_sem] Oper.semAt_some

/-- The clubs with their places, behind what is known of them. -/
def fstOf {P : Nat × Int → Prop} (ys : List { p // P p }) : List (Nat × Int) := ys.map (·.1)

theorem fstOf_snoc {P : Nat × Int → Prop} (ys : List { p // P p }) (y : { p // P p }) : fstOf (ys ++ [y]) = fstOf ys ++ [y.1] := by simp [fstOf]
theorem fstOf_length {P : Nat × Int → Prop} (ys : List { p // P p }) : (fstOf ys).length = ys.length := by simp [fstOf]
end Go.Proofs.Ytlfbpaphjkbcmaa

/- It is proved what the method mapped returns, called by the closure of pairsWithout; conditions: those of each statement. -/
namespace Go.Proofs.Ytlfbpaphjkbcmaa
open Go.RowKit Go.Shelf

attribute [local go_sem] Oper.semAt_some

set_option maxRecDepth 100000 in
set_option maxHeartbeats 4000000 in
theorem mappedW (P : Nat × Int → Prop) (m : Int) (a : Option Addr) (c : Nat) (zs : List Int) (X : Nat) (f : Int → Int) (w : World) (ha : Ints w w.heap.size a zs) (hx : zs.length ≤ 1048576)
    (hP : ∀ k, k < zs.length → P (k, zs[k]?.getD 0)) (hK : ∀ p W, P p → Below w.heap.size w W → Calls Try.prog 57 #[.int .i64 p.2, .pointer (some ⟨X, 0, none⟩)] W fun e W' => e = .returned (.int .i64 (f p.2)) ∧ Below W.heap.size W W') :
    Calls Try.prog 51 #[.agg #[.int .i64 m, .slice a zs.length c], .func (.func 57) #[] #[.pointer (some ⟨X, 0, none⟩)]] w (RetFam w m (zs.map f)) := by
  obtain ⟨i0, hi0, hz0, hz1, hz2⟩ := info_parts Try.info3
  have HI := Lib.hid ha
  have HK := Lib.hid hK
  clear ha hK
  have bR3 := Lib.hid (below3 w (.cells #[.int .i64 m, .slice a zs.length c] 28) (.cells #[.func (.func 57) #[] #[.pointer (some ⟨X, 0, none⟩)]] 66) (.cells #[.int .i64 0, .slice none 0 0] 28))
  refine (callsIn_wide (n := 6)).1 ?_
  refine callsIn_of_wp_marks Try.func51 rfl trivial ?_ rfl
  simp only [Try.ntmps51, List.size_toArray, List.length_cons, List.length_nil, Nat.reduceAdd, Nat.reduceSub, Array.replicate_succ, Array.replicate_zero, List.push_toArray, List.append_toArray, List.nil_append, List.cons_append]
  gi_wp2_with (gi_at_make; refine mark_make ?_)
  refine unmark_make ?_
  refine wpListIn_make_own _ rfl _ _ 22 rfl (w.heap.size + 1 + 1 + 1) 3 i0 (.int .i64 0) 1 Try.underlying22 hi0 hz0 hz1 .i64 .i64 _ zs.length rfl rfl rfl (by rw [hz2]; omega) (by simp only [maxLen]; omega) (by simp) ?_
  intro w1 hown hg
  have q0 := made_0 hg
  have q1 := made_1 hg
  have q2 := made_2 hg
  have y0 := blk_cell (w := w1.alloc (.cells #[.slice (some ⟨w.heap.size + 1 + 1 + 1, 0, none⟩) 0 zs.length] 22)) ((alloc_old _ _ _ (lt_of_some q0)).trans q0) 0
  have y1 := blk_cell (w := w1.alloc (.cells #[.slice (some ⟨w.heap.size + 1 + 1 + 1, 0, none⟩) 0 zs.length] 22)) ((alloc_old _ _ _ (lt_of_some q0)).trans q0) 1
  have hsz : w.heap.size + 1 + 1 + 1 ≤ w1.heap.size := by have := hg.size; simp at this; omega
  have HQ0 := Lib.hid q0
  have HQ1 := Lib.hid q1
  have HQ2 := Lib.hid q2
  have hGl : w.heap.size + 1 + 1 + 1 < w1.heap.size := by have := (World.ownsRow.lt hown _ rfl).2; simpa using this
  have HO := Lib.hid hown
  have HG := Lib.hid (bR3.out.trans (below_made hg))
  clear q0 q1 q2 hown hg
  simp only [cell2_0, cell2_1] at y0 y1
  gi_wp2_with (refine ⟨trivial, ?_⟩; gi_at_call 45; refine (callsIn_wide.2 (clubs_any _ _ _ _ _)).mono ?_; rintro e w' ⟨rfl, rfl⟩)
  have hle : w.heap.size ≤ w1.heap.size := by omega
  have h16 : 1 ≤ 6 := by omega
  have hmx : Try.prog.follows .mixedOrders = true := by kernel_rfl
  have bA := Boxed.new w1 22 (.slice (some ⟨w.heap.size + 1 + 1 + 1, 0, none⟩) 0 zs.length)
  have HBB : Hid (Below w.heap.size w ((w1.alloc (.cells #[.slice (some ⟨w.heap.size + 1 + 1 + 1, 0, none⟩) 0 zs.length] 22)).alloc (.cells #[.int .i64 m, .slice a zs.length c] 28))) := Lib.hid (HG.out.trans ((below2 w1 _ _).mono (by omega)))
  have hst := clubsP_stops P (6 - 1) (by omega) (w1.heap.size + 1) w.heap.size a c zs hx hP ((w1.alloc (.cells #[.slice (some ⟨w.heap.size + 1 + 1 + 1, 0, none⟩) 0 zs.length] 22)).alloc (.cells #[.int .i64 m, .slice a zs.length c] 28)) (by simp) (by simp; omega)
    (by have := blk_cell (alloc_new (w1.alloc (.cells #[.slice (some ⟨w.heap.size + 1 + 1 + 1, 0, none⟩) 0 zs.length] 22)) (.cells #[.int .i64 m, .slice a zs.length c] 28)) 1; simp) (HI.out.below HBB.out)
  refine wpIn_rangeFunc_ownG rfl h16 (gf := 55) (lb := #[.pointer (some ⟨w1.heap.size + 1, 0, none⟩)]) rfl trivial (enters_of Try.func55 (by kernel_rfl) rfl)
    hst belowK_t (belowK_b (by simp; omega)) (Below.refl _ _) (fun _ => rfl)
    (fun pre W => ((∃ v, Boxed W w1.heap.size 22 v ∧ W.ownsRow w.heap.size 3 1 v (fstOf pre).length (((fstOf pre).map fun p => f p.2).map (Value.int .i64)) ∧ v = .slice (some ⟨w.heap.size + 1 + 1 + 1, 0, none⟩) (fstOf pre).length zs.length) ∧ (HasBlk W w.heap.size #[.int .i64 m, .slice a zs.length c] 28 ∧ HasBlk W (w.heap.size + 1) #[.func (.func 57) #[] #[.pointer (some ⟨X, 0, none⟩)]] 66 ∧ HasBlk W (w.heap.size + 1 + 1) #[.int .i64 0, .slice none 0 0] 28)) ∧ Below w.heap.size w W)
    (fun _ _ _ => False)
    (OwnFrom.and (OwnFrom.and (Own.from (holdsRow_own w.heap.size w1.heap.size 22 3 1 (fun (pre : List { p // P p }) => (fstOf pre).length) (fun (pre : List { p // P p }) => ((fstOf pre).map fun p => f p.2).map (Value.int .i64)) (fun (pre : List { p // P p }) v => v = .slice (some ⟨w.heap.size + 1 + 1 + 1, 0, none⟩) (fstOf pre).length zs.length)) _) (OwnFrom.and (Own.from (hasBlk_own _ _ _) _) (OwnFrom.and (Own.from (hasBlk_own _ _ _) _) (Own.from (hasBlk_own _ _ _) _)))) (ownFrom_below (Nat.le_refl _) (by simp; omega)))
    (fun _ _ _ _ _ hs _ _ => hs)
    ⟨⟨⟨_, bA.alloc _, by have := ownsRow_base HO.out (B := w.heap.size) (by omega); simpa [fstOf] using (this.alloc _).alloc _, rfl⟩, (HasBlk.alloc HQ0.out _).alloc _, (HasBlk.alloc HQ1.out _).alloc _, (HasBlk.alloc HQ2.out _).alloc _⟩, HBB.out⟩
    (fun x => { tmps := #[.agg #[.int .i64 m, .slice a zs.length c], .func (.func 57) #[] #[.pointer (some ⟨X, 0, none⟩)], .pointer (some ⟨w.heap.size, 0, none⟩), .pointer (some ⟨w.heap.size + 1, 0, none⟩), .pointer (some ⟨w.heap.size + 1 + 1, 0, none⟩), .pointer (some ⟨w1.heap.size, 0, none⟩), undef, .int .i64 x.1.2, .pointer (some ⟨w.heap.size, 1, none⟩), .slice a zs.length c, .int .i64 zs.length, .slice (some ⟨w.heap.size + 1 + 1 + 1, 0, none⟩) 0 zs.length, .agg #[.int .i64 m, .slice a zs.length c], .func (.func 55) #[] #[.pointer (some ⟨w1.heap.size + 1, 0, none⟩)], .int .i64 (x.1.1 : Int), .int .i64 x.1.2, undef, undef, undef, undef, undef, undef, undef, undef, undef, undef], defers := [] }) ?assign ?body ?done ?stop
  case assign =>
    intro l x W K hK
    gi_wp2
    exact hK
  case body =>
    rintro l pre0 x0 W ⟨⟨⟨v, hv, hrow, rfl⟩, q0, q1, q2⟩, hB⟩ hlt0
    have hlt : (fstOf pre0).length < zs.length := by rw [fstOf_length]; exact hlt0
    have hbs := fstOf_snoc pre0 x0
    obtain ⟨x, hx0⟩ := x0
    obtain ⟨pre, hpre⟩ : ∃ pre, pre = fstOf pre0 := ⟨_, rfl⟩
    rw [← hpre] at hv hrow hlt hbs
    have HBS := Lib.hid hbs
    clear hpre hlt0 hbs
    have hc := hv.cell
    have hd := blk_cell q1 0
    simp only [cell1_0] at hd
    have hBd := Lib.hid hB.drew
    have HV := Lib.hid hv
    have HR := Lib.hid hrow
    have hWs : w.heap.size ≤ W.heap.size := hB.size
    have HB := Lib.hid hB
    have HQ0' := Lib.hid q0
    have HQ1' := Lib.hid q1
    have HQ2' := Lib.hid q2
    clear hv hrow hB q0 q1 q2
    have hGlt : w.heap.size + 1 + 1 + 1 < w1.heap.size := hGl
    have hMB : w1.heap.size < W.drew.heap.size := HV.out.lt
    gi_wp2
    gi_region_with_o (refine ⟨trivial, ?_⟩; gi_at_call 57; refine (CallsIn.inRound l (callsIn_wide.2 (HK.out x _ hx0 hBd.out))).mono ?_; rintro e w2 ⟨rfl, hb2⟩; obtain ⟨u, hcu, hfu⟩ := spare_cell (own_after HR.out hb2) pre.length hlt; have hlt2 := lt_of_cell hcu; have hcu' := (World.cell?_alloc_lt w2 (.cells #[.int .i64 (f x.2)] 3) _ hlt2).trans hcu; have hc2 := (hb2.cell (p := ⟨w1.heap.size, 0, none⟩) hMB).trans hc; have hf2 := (hb2.frozen (p := ⟨w1.heap.size, 0, none⟩) hMB).trans HV.out.frozen; have hMB2 := lt_of_cell hc2; have hc3 := after_spare (y := .int .i64 (f x.2)) (k := pre.length) (o := .cells #[.int .i64 (f x.2)] 3) hGlt hMB2 hc2; have hf3 := after_spare_f (y := .int .i64 (f x.2)) (k := pre.length) (o := .cells #[.int .i64 (f x.2)] 3) hGlt hMB2 hf2)
    all_goals (have hend := mapped_end (B := ((w1.alloc (.cells #[.slice (some ⟨w.heap.size + 1 + 1 + 1, 0, none⟩) 0 zs.length] 22)).alloc (.cells #[.int .i64 m, .slice a zs.length c] 28)).heap.size) (x := x) (f := f) hWs hGlt (by omega) hlt hb2 HV.out HR.out HB.out HQ0'.out (by omega) HQ1'.out (by omega) HQ2'.out (by omega); rw [← HBS.out] at hend; exact hend)
  case done =>
    rintro D ys W hD hys ⟨⟨⟨v, hv, hrow, rfl⟩, q0, q1, q2⟩, hB⟩ hK
    rw [show fstOf ys = pairs zs zs.length from hys, pairs_length] at hv hrow
    have hmap : (pairs zs zs.length).map (fun p => f p.2) = zs.map f := by
      rw [show (fun p : Nat × Int => f p.2) = f ∘ (fun p => p.2) from rfl, ← List.map_map, pairs_all]
    rw [hmap] at hrow
    have hc := hv.cell
    have d0 := blk_cell q0 0
    have d2 := blk_cell q2 0
    have d3 := blk_cell q2 1
    have f2 := blk_frozen q2 0
    have f3 := blk_frozen q2 1
    simp only [cell2_0, cell2_1] at d0 d2 d3
    have HR := Lib.hid hrow
    have HB := Lib.hid hB
    have HQ2' := Lib.hid q2
    clear hv hrow hB q0 q1 q2 hmap
    gi_wp2
    have hK' := (KeepsOthers.setCell (W.setCell ⟨w.heap.size + 1 + 1, 0, none⟩ (.int .i64 m)) ⟨w.heap.size + 1 + 1, 1, none⟩ (.slice (some ⟨w.heap.size + 1 + 1 + 1, 0, none⟩) zs.length zs.length)).same D _ ((KeepsOthers.setCell W ⟨w.heap.size + 1 + 1, 0, none⟩ (.int .i64 m)).same D _ hK rfl) rfl
    refine ⟨by simp, .inl ⟨_, _, rfl, run_takeDeferred hK', ?_⟩⟩
    have e0 := cell_kept (World.cell?_setCell_other (W.setCell ⟨w.heap.size + 1 + 1, 0, none⟩ (.int .i64 m)) ⟨w.heap.size + 1 + 1, 1, none⟩ ⟨w.heap.size + 1 + 1, 0, none⟩ (.slice (some ⟨w.heap.size + 1 + 1 + 1, 0, none⟩) zs.length zs.length) (by simp) |>.trans (World.cell?_setCell_same' W ⟨w.heap.size + 1 + 1, 0, none⟩ (.int .i64 m) (by rw [d2]; rfl))) (grownBy_putObj' _ D (.deferred none)) (fun r e => by cases e; exact ⟨_, hK', rfl⟩)
    have e1 := cell_kept (World.cell?_setCell_same' (W.setCell ⟨w.heap.size + 1 + 1, 0, none⟩ (.int .i64 m)) ⟨w.heap.size + 1 + 1, 1, none⟩ (.slice (some ⟨w.heap.size + 1 + 1 + 1, 0, none⟩) zs.length zs.length) (by rw [World.cell?_setCell_other _ _ _ _ (by simp), d3]; rfl)) (grownBy_putObj' _ D (.deferred none)) (fun r e => by cases e; exact ⟨_, hK', rfl⟩)
    refine ⟨.agg #[.int .i64 m, .slice (some ⟨w.heap.size + 1 + 1 + 1, 0, none⟩) zs.length zs.length], by simp [results, Try.f51, go_sem, e0, e1], _, _, by rw [List.length_map], ?_, ?_⟩
    · rw [List.length_map]
      have h1 := ownsRow_setCell_ne HR.out (p := ⟨w.heap.size + 1 + 1, 0, none⟩) (by simp [Value.ownBlock]) (.int .i64 m)
      have h2 := ownsRow_setCell_ne h1 (p := ⟨w.heap.size + 1 + 1, 1, none⟩) (by simp [Value.ownBlock]) (.slice (some ⟨w.heap.size + 1 + 1 + 1, 0, none⟩) zs.length zs.length)
      unfold OwnI
      rw [List.length_map]
      exact ownsRow_putObj h2 _ hK' rfl
    · exact ((HB.out.setCell (p := ⟨w.heap.size + 1 + 1, 0, none⟩) (by simp; omega) _).setCell (p := ⟨w.heap.size + 1 + 1, 1, none⟩) (by simp; omega) _).trans (belowK_b (w := w) (Nat.le_refl _) _ D _ _ (by simp at hD; omega) hK' rfl rfl)
  case stop =>
    rintro D c pre W _ _ h _
    exact h.elim

end Go.Proofs.Ytlfbpaphjkbcmaa

/- It is proved what the methods only, takenOut and greatest return; conditions: those of each statement. -/
namespace Go.Proofs.Ytlfbpaphjkbcmaa
open Go.RowKit

theorem onlyFn_any (z x : Int) (X : Nat) (W : World) (h : W.cell? ⟨X, 0, none⟩ = some (.int .i64 x)) :
    Calls Try.prog 57 #[.int .i64 z, .pointer (some ⟨X, 0, none⟩)] W fun e W' => e = .returned (.int .i64 (bits .and .i64 z x)) ∧ Below W.heap.size W W' := by
  go_enter Try.func57, Try.ntmps57
  go_wp2
  go_ret
  exact ⟨rfl, Below.refl _ _⟩

set_option maxRecDepth 100000 in
set_option maxHeartbeats 1600000 in
theorem only_any (m x : Int) (a : Option Addr) (c : Nat) (zs : List Int) (w : World) (ha : Ints w w.heap.size a zs) (hx : zs.length ≤ 1048576) :
    Calls Try.prog 47 #[.agg #[.int .i64 m, .slice a zs.length c], .int .i64 x] w (RetFam w m (zs.map fun z => bits .and .i64 z x)) := by
  have hmf : ∀ (fn : Fn) (first cap : Array Value) (w : World), (Instr.makeFunc fn first cap).run Try.prog w = .ok (.func fn first cap) w := fun _ _ _ _ => rfl
  obtain ⟨W3, hW3, q1, q2, hs3, hb3⟩ : ∃ W3, ((w.alloc (.cells #[.int .i64 m, .slice a zs.length c] 28)).alloc (.cells #[.int .i64 x] 48)).alloc (.cells #[.int .i64 0, .slice none 0 0] 28) = W3 ∧ HasBlk W3 (w.heap.size + 1) #[.int .i64 x] 48 ∧ HasBlk W3 (w.heap.size + 1 + 1) #[.int .i64 0, .slice none 0 0] 28 ∧ W3.heap.size = w.heap.size + 3 ∧ Below w.heap.size w W3 :=
    ⟨_, rfl, alloc3_1 w _ _ _, alloc3_2 w _ _ _, by simp, below3 w _ _ _⟩
  have hc := (blk_cell q1 0).trans (cell1_0 _)
  have HM : Hid (Calls Try.prog 51 #[.agg #[.int .i64 m, .slice a zs.length c], .func (.func 57) #[] #[.pointer (some ⟨w.heap.size + 1, 0, none⟩)]] W3 (RetFam W3 m (zs.map fun z => bits .and .i64 z x))) :=
    Lib.hid (mappedW (fun _ => True) m a c zs (w.heap.size + 1) (fun z => bits .and .i64 z x) W3 ((ha.below hb3).mono (by omega)) hx (fun _ _ => trivial)
      (fun p W _ hb => onlyFn_any p.2 x (w.heap.size + 1) W ((hb.cell (p := ⟨w.heap.size + 1, 0, none⟩) (by show w.heap.size + 1 < W3.heap.size; omega)).trans hc)))
  have Q2 := Lib.hid q2
  have HB3 := Lib.hid hb3
  have HSZ := Lib.hid hs3
  obtain ⟨ys, hys⟩ : ∃ ys, ys = zs.map fun z => bits .and .i64 z x := ⟨_, rfl⟩
  have Q0 : Hid (W3.cell? ⟨w.heap.size, 0, none⟩ = some (.int .i64 m) ∧ W3.cell? ⟨w.heap.size, 1, none⟩ = some (.slice a zs.length c)) := Lib.hid ⟨by rw [← hW3]; exact (blk_cell (alloc3_0 w _ _ _) 0).trans (cell2_0 _ _), by rw [← hW3]; exact (blk_cell (alloc3_0 w _ _ _) 1).trans (cell2_1 _ _)⟩
  rw [← hys] at HM ⊢
  clear ha q1 q2 hc hb3 hs3 hys
  go_enter Try.func47, Try.ntmps47
  obtain ⟨x0, x1⟩ := Q0.out
  go_wp2_with fail
  clear hW3
  refine HM.out.mono ?_
  rintro e w2 ⟨a2, c2, rfl, ho2, hb2⟩
  have b2' : w2.heap[w.heap.size + 1 + 1]? = some (.cells #[.int .i64 0, .slice none 0 0] 28 (0, 0)) := (hb2.block _ (by have := HSZ.out; omega)).trans Q2.out
  have d0 := (blk_cell b2' 0).trans (cell2_0 _ _)
  have d1 := (blk_cell b2' 1).trans (cell2_1 _ _)
  have f0 := blk_frozen b2' 0
  have f1 := blk_frozen b2' 1
  have HO2 := Lib.hid ho2
  have HB2 := Lib.hid (HB3.out.trans (hb2.mono (by have := HSZ.out; omega)))
  clear ho2 hb2 b2'
  go_wp2
  refine bodyPost_ret (v := .agg #[.int .i64 m, .slice a2 ys.length c2]) (by simp [results, Try.results47, go_sem, d0, d1]) rfl ?_
  have hz := HSZ.out
  refine ⟨a2, c2, rfl, ?_, ?_⟩
  · exact own_mono (ownsRow_setCell_below (ownsRow_setCell_below HO2.out (a := ⟨w.heap.size + 1 + 1, 0, none⟩) (by show w.heap.size + 1 + 1 < W3.heap.size; omega) _) (a := ⟨w.heap.size + 1 + 1, 1, none⟩) (by show w.heap.size + 1 + 1 < W3.heap.size; omega) _) (by omega)
  · exact (HB2.out.setCell (p := ⟨w.heap.size + 1 + 1, 0, none⟩) (by simp; omega) _).setCell (p := ⟨w.heap.size + 1 + 1, 1, none⟩) (by simp; omega) _

end Go.Proofs.Ytlfbpaphjkbcmaa

/- It is proved that the call of the law FnForestCount returns true; conditions: those of each statement. -/
namespace Go.Proofs.Ytlfbpaphjkbcmaa
open Go.RowKit

set_option maxRecDepth 100000 in
theorem pop_fin : ∀ z : Fin 64, pop (z.val : Int) = ((memK 8 z.val).length : Int) := by decide +kernel

theorem pop_bound {zs : List Int} (h : ∀ z ∈ zs, 0 ≤ z ∧ z.toNat < 64) : ∀ y ∈ zs.map pop, 0 ≤ y ∧ y ≤ 8 := by
  intro y hy
  obtain ⟨z, hz, rfl⟩ := List.mem_map.1 hy
  obtain ⟨h0, h1⟩ := h z hz
  have e1 := pop_fin ⟨z.toNat, h1⟩
  simp only [Int.toNat_of_nonneg h0] at e1
  have := memK_len 8 z.toNat
  omega

end Go.Proofs.Ytlfbpaphjkbcmaa

/- It is proved when a set is even with all clubs, of the program; conditions: those of each statement. -/
namespace Go.Proofs.Ytlfbpaphjkbcmaa
open Go.RowKit

def evnZ (z : Int) : Bool := decide (z.toNat % 2 = 0)
def evnB (zs : List Int) : Bool := zs.all evnZ
theorem evn_no {zs : List Int} {k : Nat} (hk : k < zs.length) (h : evnZ (zs[k]?.getD 0) = false) : evnB zs = false := by
  unfold evnB
  rw [List.all_eq_false]
  refine ⟨zs[k], List.getElem_mem hk, ?_⟩
  rw [List.getElem?_eq_getElem hk, Option.getD_some] at h
  simp [h]

theorem evn_yes {zs : List Int} (h : ∀ j, j < zs.length → evnZ (zs[j]?.getD 0) = true) : evnB zs = true := by
  unfold evnB
  rw [List.all_eq_true]
  intro z hz
  obtain ⟨j, hj, rfl⟩ := List.mem_iff_getElem.1 hz
  have := h j hj
  rwa [List.getElem?_eq_getElem hj, Option.getD_some] at this

theorem even1_any (z : Nat) (hz : z < 64) (w : World) :
    Calls Try.prog 50 #[.int .i64 (z : Int)] w fun e w' => e = .returned (.bool (!evnZ (z : Int))) ∧ w = w' := by
  have HE : Hid ((Int.tmod (z : Int) 2 == 1) = !evnZ (z : Int)) := Lib.hid (by
    unfold evnZ
    rw [Int.toNat_natCast, Int.tmod_eq_emod_of_nonneg (by omega)]
    rcases Nat.mod_two_eq_zero_or_one z with h | h
    · rw [h]; rw [show (z : Int) % 2 = 0 by omega]; rfl
    · rw [h]; rw [show (z : Int) % 2 = 1 by omega]; rfl)
  go_enter Try.func50, Try.ntmps50
  go_wp2
  go_ret
  exact ⟨by rw [← HE.out]; rfl, rfl⟩

set_option maxRecDepth 100000 in
set_option maxHeartbeats 2000000 in
theorem indexE_any (b : Option Addr) (c : Nat) (zs : List Int) (hz : ∀ z ∈ zs, 0 ≤ z ∧ z.toNat < 64) (hx8 : zs.length ≤ 1048576) (w : World) (hb : Ints w w.heap.size b zs) :
    Calls Try.prog 58 #[.slice b zs.length c, .func (.func 50) #[] #[]] w fun e w' =>
      ∃ r : Int, e = .returned (.int .i64 r) ∧ decide (0 ≤ r) = !evnB zs ∧ w = w' := by
  obtain ⟨N, hN⟩ : ∃ N, N = zs.length := ⟨_, rfl⟩
  have HN : Hid (N = zs.length) := Lib.hid hN
  have HI := Lib.hid hb
  have HZ := Lib.hid hz
  rw [← hN]
  rw [← hN] at hx8
  clear hN hb hz
  go_enter Try.func58, Try.ntmps58
  go_wp2
  go_loop [5, 8] (fun _ i => ∃ k : Nat, k ≤ N ∧ i = .int .i64 k ∧ Hid (∀ j, j < k → evnZ (zs[j]?.getD 0) = true)) (fun _ i => N - (intOf i).toNat)
  case atStart => exact ⟨0, Nat.zero_le _, rfl, Lib.hid fun j hj => by omega⟩
  case round =>
    obtain ⟨k, hk, rfl, HE⟩ := hrel
    by_cases hlt : k < N
    · have hki : (k : Int) < (N : Int) := by omega
      have hk0 : (0 : Int) ≤ (k : Int) := by omega
      obtain ⟨b1, o1, rfl, hb1, hc⟩ := HI.out.at_ (k := k) (by rw [← HN.out]; exact hlt)
      have hin := at_in (xs := zs) (k := k) (by rw [← HN.out]; exact hlt)
      obtain ⟨z, hzz⟩ : ∃ z : Nat, zs[k]?.getD 0 = (z : Int) := ⟨(zs[k]?.getD 0).toNat, by have := (HZ.out _ hin).1; omega⟩
      have hzn := (HZ.out _ hin).2
      rw [hzz, Int.toNat_natCast] at hzn
      have HC := Lib.hid (fun W => even1_any z hzn W)
      have HZZ := Lib.hid hzz
      rw [hzz] at hc
      clear hzz hin
      cases hf : evnZ (z : Int)
      · have HF := Lib.hid hf
        clear hf
        go_wp2_with (go_at_call 50; refine (HC.out _).mono ?_; rintro e w3 ⟨rfl, rfl⟩; rw [HF.out])
        go_ret
        exact ⟨_, rfl, by rw [evn_no (k := k) (by rw [← HN.out]; exact hlt) (by rw [HZZ.out]; exact HF.out)]; simp, rfl⟩
      · have HF := Lib.hid hf
        clear hf
        go_wp2_with (go_at_call 50; refine (HC.out _).mono ?_; rintro e w3 ⟨rfl, rfl⟩; rw [HF.out])
        go_round
        case rel => exact ⟨k + 1, by omega, by go_num, Lib.hid fun j hj => by
          rcases Nat.lt_succ_iff_lt_or_eq.1 hj with h | rfl
          · exact HE.out j h
          · rw [HZZ.out]; exact HF.out⟩
        case measure => simp [intOf]; omega
    · obtain rfl : k = N := by omega
      go_wp2
      go_ret
      exact ⟨_, rfl, by rw [evn_yes (by rw [← HN.out]; exact HE.out)]; decide, rfl⟩

set_option maxRecDepth 100000 in
theorem containsE_any (b : Option Addr) (c : Nat) (zs : List Int) (hz : ∀ z ∈ zs, 0 ≤ z ∧ z.toNat < 64) (hx8 : zs.length ≤ 1048576) (w : World) (hb : Ints w w.heap.size b zs) :
    Calls Try.prog 49 #[.slice b zs.length c, .func (.func 50) #[] #[]] w fun e w' => e = .returned (.bool (!evnB zs)) ∧ w = w' := by
  have H := Lib.hid (indexE_any b c zs hz hx8 w hb)
  clear hb hz
  go_enter Try.func49, Try.ntmps49
  go_wp2_with fail
  refine H.out.mono ?_
  rintro e w1 ⟨r, rfl, hr, rfl⟩
  have HR := Lib.hid hr
  clear hr
  by_cases h : 0 ≤ r
  · go_wp2
    go_ret
    exact ⟨by rw [← HR.out, decide_eq_true h]; rfl, rfl⟩
  · have h' : r < 0 := by omega
    go_wp2
    go_ret
    exact ⟨by rw [← HR.out]; rfl, rfl⟩

/-- The numbers of members that clubs share with a set. -/
def shrZ (zs : List Int) (s : Int) : List Int := (zs.map fun z => bits .and .i64 z s).map pop

theorem and_63 {zs : List Int} (hz : ∀ z ∈ zs, 0 ≤ z ∧ z.toNat < 64) {s : Nat} (hs : s < 64) : ∀ z ∈ (zs.map fun z => bits .and .i64 z (s : Int)), 0 ≤ z ∧ z ≤ 63 := by
  intro y hy
  obtain ⟨z, hzm, rfl⟩ := List.mem_map.1 hy
  obtain ⟨n, rfl⟩ : ∃ n : Nat, z = (n : Int) := ⟨z.toNat, by have := (hz z hzm).1; omega⟩
  have h := (hz _ hzm).2
  rw [Int.toNat_natCast] at h
  rw [and6_at n s h hs]
  have : n &&& s ≤ n := Nat.and_le_left
  omega

set_option maxRecDepth 100000 in
set_option maxHeartbeats 2000000 in
theorem evenWith_any (m : Int) (a : Option Addr) (c : Nat) (zs : List Int) (s : Nat) (hs : s < 64) (hz : ∀ z ∈ zs, 0 ≤ z ∧ z.toNat < 64) (hx : zs.length ≤ 1048576) (w : World) (ha : Ints w w.heap.size a zs) :
    Calls Try.prog 38 #[.agg #[.int .i64 m, .slice a zs.length c], .int .i64 (s : Int)] w fun e w' => e = .returned (.bool (evnB (shrZ zs (s : Int)))) ∧ Below w.heap.size w w' := by
  have HB0 := Lib.hid (below1 w (.cells #[.int .i64 m, .slice a zs.length c] 28))
  have HON := Lib.hid (only_any m (s : Int) a c zs (w.alloc (.cells #[.int .i64 m, .slice a zs.length c] 28)) ((ha.below HB0.out).mono (by simp)) hx)
  have h63 := and_63 hz hs
  obtain ⟨ys, hys⟩ : ∃ ys, ys = zs.map fun z => bits .and .i64 z (s : Int) := ⟨_, rfl⟩
  have HYL : Hid (ys.length = zs.length) := Lib.hid (by rw [hys, List.length_map])
  have HSH : Hid (shrZ zs (s : Int) = ys.map pop) := Lib.hid (by unfold shrZ; rw [hys])
  rw [← hys] at HON h63
  have HSZ := Lib.hid (fun (b : Option Addr) (d : Nat) (W : World) (hb : Ints W W.heap.size b ys) => sizes_any m b d ys W hb (by rw [HYL.out]; exact hx) h63)
  have HPB : Hid (∀ z ∈ ys.map pop, 0 ≤ z ∧ z.toNat < 64) := Lib.hid (by
    intro y hy
    obtain ⟨z, hzm, rfl⟩ := List.mem_map.1 hy
    obtain ⟨h0, h1⟩ := h63 z hzm
    have := pop_bound (zs := [z]) (by intro x hx; rw [List.mem_singleton.1 hx]; exact ⟨h0, by omega⟩) (pop z) (by simp)
    omega)
  have HCO := Lib.hid (fun (b : Option Addr) (d : Nat) (W : World) (hb : Ints W W.heap.size b (ys.map pop)) => containsE_any b d (ys.map pop) HPB.out (by rw [List.length_map, HYL.out]; exact hx) W hb)
  clear ha hys h63 hz hs
  rw [HSH.out]
  go_enter Try.func38, Try.ntmps38
  go_wp2_with fail
  refine HON.out.mono ?_
  rintro e w1 ⟨a1, c1, rfl, ho1, hb1⟩
  have HI1 := Lib.hid (own_ints ho1)
  have HB1 := Lib.hid (HB0.out.trans (hb1.mono (by simp)))
  clear ho1 hb1 HON
  go_wp2_with fail
  refine (HSZ.out _ _ _ HI1.out).mono ?_
  rintro e w2 ⟨a2, c2, rfl, ho2, hb2⟩
  have HI2 := Lib.hid (own_ints ho2)
  have HB2 := Lib.hid (HB1.out.trans (hb2.mono HB1.out.size))
  clear ho2 hb2 HSZ
  obtain ⟨L, hL⟩ : ∃ L, L = ys.map pop := ⟨_, rfl⟩
  rw [← hL] at HI2 HCO HSH ⊢
  have HLE := Lib.hid hL
  clear hL HPB
  cases hb : evnB L
  all_goals
    have HB := Lib.hid hb
    clear hb
    go_wp2_with fail
    refine (HCO.out _ _ _ HI2.out).mono ?_
    rintro e w3 ⟨rfl, rfl⟩
    rw [HB.out]
    go_wp2
    go_ret
    exact ⟨by rw [← HLE.out, HB.out]; rfl, HB2.out⟩

end Go.Proofs.Ytlfbpaphjkbcmaa
