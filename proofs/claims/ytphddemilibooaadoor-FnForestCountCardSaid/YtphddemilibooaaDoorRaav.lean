/- It is proved what triedCovers returns; conditions: those of each statement. -/
import Derived.RowKit
import Derived.Laws.CopyRow
import Derived.Lib.SlBuf
import Derived.Deep.QuietTactic
import Derived.RangeFuncNested
import Derived.RangeFuncBound
import Derived.RangeFuncCalls
import Derived.RangeFuncLeaves
import Derived.RangeFuncBox
import Derived.RangeFuncWrites
import Derived.StillTailTactics
import Derived.Maps.OwnIn
import Derived.Maps.Ext
import Derived.DeepKeys4
import Derived.MapKept
import Derived.Test.YtphddemilibooaaDoorRows
import Derived.WalkKit
import Derived.WalkSpells
import Derived.ProofKit
import Derived.OpenShut
import Derived.ShutString
import Derived.ChangeOld
import Derived.Below
import Derived.Deep.RegionHeld3
import Derived.BigQuiet
import Derived.Lib.Hide
import Derived.Lib.SmallJoins
import Derived.Outline
import Derived.Laws.MakeOwn
import Derived.Laws.OwnMore
import Derived.IntWalk
import Derived.Lib.AppendZeros
import Derived.Maps.AppendAt
import Derived.Deep.AppendLies
import Derived.OwnWalk
import Derived.Lib.SlicesCompact
import Derived.Lib.OwnBridge
import Derived.OrdersIn
import Derived.TacticsIn
import Derived.Shelf.Sort.Plain
import Derived.Shelf.Slices.In.SortNone
import Derived.Shelf.Slices.CompactI
import Derived.Ground.Names2Prog
import Derived.Lib.SliceRun
import Derived.Shelf.Abstract
import Derived.Shelf.RegionOpen
import Derived.OwnWalkIn
import Derived.TacticsInMore
import Derived.LoopNIn
import Derived.LoopIn
import Derived.StillTail
import Derived.StillTactics
import Derived.Shelf.Spec.TrailingZeros
import Derived.Test.YtphddemilibooaaDoorRaas
import Derived.Test.YtphddemilibooaaDoorRaal
import Derived.Test.YtphddemilibooaaDoorRaaa
import Derived.Test.YtphddemilibooaaDoorRaab
import Derived.Test.YtphddemilibooaaDoorRaad
import Derived.Test.YtphddemilibooaaDoorRaai
import Derived.Test.YtphddemilibooaaDoorKc
import Derived.Test.YtphddemilibooaaDoorRaat
import Derived.Test.YtphddemilibooaaDoorRaam
import Derived.Test.YtphddemilibooaaDoorRaau
import Derived.Test.YtphddemilibooaaDoorRaac
import Derived.Test.YtphddemilibooaaDoorQj
namespace Go.Proofs.YtphddemilibooaaDoor
open Go.RowKit Go.Shelf

attribute [local go_sem] Oper.semAt_some

theorem covers_any (m : Int) (a : Option Addr) (n c : Nat) (w : World) :
    Calls Tryd.prog 101 #[.agg #[.int .i64 m, .slice a n c]] w fun e w' => e = .returned (.func (.func 108) #[] #[.pointer (some ⟨w.heap.size, 0, none⟩)]) ∧ w' = w.alloc (.cells #[.int .i64 m, .slice a n c] 25) := by
  have hmf : ∀ (fn : Fn) (first cap : Array Value) (w : World), (Instr.makeFunc fn first cap).run Tryd.prog w = .ok (.func fn first cap) w := fun _ _ _ _ => rfl
  go_enter Tryd.func101, Tryd.ntmps101
  go_wp2
  go_ret
  exact ⟨rfl, rfl⟩

theorem FamBox.ownF {β : Type} {B D lo : Nat} (hD : D < B) (m : Int) (f : β → List Int) : OwnF B (fun s W => FamBox D lo m (f s) W) := by
  rintro s X Y row ⟨v, hv, hr⟩ hg hrow
  refine ⟨v, hv.kept hg (fun e' => ?_), hr.kept hg ?_⟩
  · have := (hrow D e').1; omega
  · rcases hr.2 with ⟨rfl, _⟩ | ⟨g, cap, cur, rfl, _, hgb, _⟩
    · exact .inl rfl
    · exact .inr fun e' => (hrow g (by simpa [Value.ownBlock] using e'.symm)).2 _ _ hgb

theorem HasBlk.ownF {β : Type} {B b : Nat} (hb : b < B) (cs : Array Value) (t : TypeId) : OwnF B (fun (_ : β) W => HasBlk W b cs t) := fun s X Y row hs hg hrow =>
  hs.kept hg (fun e' => by have := (hrow b e').1; omega)

theorem ownF_below {β : Type} {B lo : Nat} {w : World} (hlo : lo ≤ B) (hw : B ≤ w.heap.size ∨ lo ≤ w.heap.size) : OwnF B (fun (_ : β) W => Below lo w W) := fun s X Y row hs hg hrow =>
  hs.grown hg (by have := hs.size; omega) (fun r e => by have := (hrow r e).1; omega)

/-- A family stored as the result, at the end of a function that ranged over a function. -/
theorem fam_done {w W : World} {R E lo n gc : Nat} {m : Int} {ga : Option Addr} {xs : List Value} {cs : Value} {c0 : Value} (q : HasBlk W R #[c0, cs] 25) (hrow : W.ownsRow lo 3 1 (.slice ga n gc) n xs) (hK : W.heap[E]? = some (.deferred (some []))) (hR : lo ≤ R) (hE : lo ≤ E) (hB : Below lo w W) :
    ((W.setCell ⟨R, 0, none⟩ (.int .i64 m)).setCell ⟨R, 1, none⟩ (.slice ga n gc)).heap[E]? = some (.deferred (some [])) ∧
    HasBlk (((W.setCell ⟨R, 0, none⟩ (.int .i64 m)).setCell ⟨R, 1, none⟩ (.slice ga n gc)).putObj E (.deferred none)) R #[.int .i64 m, .slice ga n gc] 25 ∧
    (((W.setCell ⟨R, 0, none⟩ (.int .i64 m)).setCell ⟨R, 1, none⟩ (.slice ga n gc)).putObj E (.deferred none)).ownsRow lo 3 1 (.slice ga n gc) n xs ∧
    Below lo w (((W.setCell ⟨R, 0, none⟩ (.int .i64 m)).setCell ⟨R, 1, none⟩ (.slice ga n gc)).putObj E (.deferred none)) := by
  have hb2 : HasBlk ((W.setCell ⟨R, 0, none⟩ (.int .i64 m)).setCell ⟨R, 1, none⟩ (.slice ga n gc)) R #[.int .i64 m, .slice ga n gc] 25 := HasBlk.set2 q _ _
  have hK2 := (KeepsOthers.setCell (W.setCell ⟨R, 0, none⟩ (.int .i64 m)) ⟨R, 1, none⟩ (.slice ga n gc)).same E _ ((KeepsOthers.setCell W ⟨R, 0, none⟩ (.int .i64 m)).same E _ hK rfl) rfl
  have hne : R ≠ E := fun e => by subst e; rw [show W.heap[R]? = _ from q] at hK; cases hK
  refine ⟨hK2, (World.putObj_heap_other (by first | exact hne | exact Ne.symm hne)).trans hb2, ?_, ?_⟩
  · have h1 := ownsRow_setCell_ne hrow (p := ⟨R, 0, none⟩) (hasBlk_not_row q fam_ne hrow).symm (.int .i64 m)
    have h2 := ownsRow_setCell_ne h1 (p := ⟨R, 1, none⟩) (hasBlk_not_row q fam_ne hrow).symm (.slice ga n gc)
    exact ownsRow_putObj h2 _ hK2 rfl
  · exact ((hB.setCell (p := ⟨R, 0, none⟩) hR _).setCell (p := ⟨R, 1, none⟩) hR _).trans ((Below.refl lo _).grown (grownBy_putObj' _ E _) (by have := (Array.getElem?_eq_some_iff.1 hK2).1; omega) (fun k e => by cases e; exact hE))

theorem nI_len' (xs : List Nat) : (nI xs).length = xs.length := nI_len xs
theorem nI_snoc' (xs : List Nat) (x : Nat) : nI (xs ++ [x]) = nI xs ++ [(x : Int)] := by simp [nI]
set_option maxRecDepth 100000 in
set_option maxHeartbeats 4000000 in
theorem triedCovers_any (m : Nat) (hm1 : 1 ≤ m) (hm : m ≤ 6) (a : Option Addr) (c : Nat) (zs : List Int) (w : World) (ha : Ints w w.heap.size a zs) (hx : zs.length ≤ 100000) (hz : Sets m zs) :
    Calls Tryd.prog 92 #[.agg #[.int .i64 (m : Int), .slice a zs.length c]] w (RetFam w (m : Int) (lcL m zs)) := by
  obtain ⟨i0, hi, hz0, hz1, hz2⟩ := info_parts Tryd.info3
  have h16 : 1 ≤ 6 := by omega
  have hp64 : 2 ^ m ≤ 64 := Nat.pow_le_pow_right (n := 2) (by decide) hm
  obtain ⟨W2, hW2, q0, q1, hs2, hb2⟩ : ∃ W2, (w.alloc (.cells #[.int .i64 (m : Int), .slice a zs.length c] 25)).alloc (.cells #[.int .i64 0, .slice none 0 0] 25) = W2 ∧ HasBlk W2 w.heap.size #[.int .i64 (m : Int), .slice a zs.length c] 25 ∧ HasBlk W2 (w.heap.size + 1) #[.int .i64 0, .slice none 0 0] 25 ∧ W2.heap.size = w.heap.size + 1 + 1 ∧ Below w.heap.size w W2 :=
    ⟨_, rfl, alloc2_0 w _ _, alloc2_1 w _ _, by simp, below2 w _ _⟩
  obtain ⟨W3, hW3, r2, p0, hs3, hb3⟩ : ∃ W3, W2.alloc (.cells #[.int .i64 (m : Int), .slice none 0 0] 25) = W3 ∧ FamBox W2.heap.size w.heap.size (m : Int) [] W3 ∧ HasBlk W3 w.heap.size #[.int .i64 (m : Int), .slice a zs.length c] 25 ∧ W3.heap.size = W2.heap.size + 1 ∧ Below W2.heap.size W2 W3 :=
    ⟨_, rfl, FamBox.start W2 w.heap.size _, HasBlk.alloc q0 _, by simp, below1 W2 _⟩
  obtain ⟨W4, hW4, r3, hs4, hb4⟩ : ∃ W4, W3.alloc (.cells #[.int .i64 (m : Int), .slice a zs.length c] 25) = W4 ∧ HasBlk W4 (W2.heap.size + 1) #[.int .i64 (m : Int), .slice a zs.length c] 25 ∧ W4.heap.size = W3.heap.size + 1 ∧ Below W3.heap.size W3 W4 :=
    ⟨_, rfl, by have := alloc_new W3 (.cells #[.int .i64 (m : Int), .slice a zs.length c] 25); rwa [hs3] at this, by simp, below1 W3 _⟩
  have hb24 := hb3.trans (hb4.mono (show W2.heap.size ≤ W3.heap.size by omega))
  have hb04 := hb2.trans (hb24.mono (show w.heap.size ≤ W2.heap.size by omega))
  have r4 : FamBox W2.heap.size w.heap.size (m : Int) [] W4 := by rw [← hW4]; exact r2.alloc _
  have q4 : HasBlk W4 (w.heap.size + 1) #[.int .i64 0, .slice none 0 0] 25 := (hb24.block _ (by omega)).trans q1
  have x0 := (blk_cell q0 0).trans (cell2_0 _ _)
  have x1 := (blk_cell q0 1).trans (cell2_1 _ _)
  have y0 := (blk_cell p0 0).trans (cell2_0 _ _)
  have y1 := (blk_cell p0 1).trans (cell2_1 _ _)
  rw [← hW3] at y0 y1
  have hst := covers1_in (6 - 1) w.heap.size W2.heap.size (W2.heap.size + 1) m hm1 hm a c zs hx hz W4 r3 (by omega) (by omega) (by omega) (by omega) (ha.below hb04)
  have HST := Lib.hid hst
  have HW3 := Lib.hid hW3
  have HW4 := Lib.hid hW4
  have HR4 := Lib.hid r4
  have HQ4 := Lib.hid q4
  have HB4 := Lib.hid hb04
  have HS2 := Lib.hid hs2
  have HS3 := Lib.hid hs3
  have HS4 := Lib.hid hs4
  clear ha q0 q1 hb2 r2 p0 hb3 r3 hb4 hb24 hb04 r4 q4 hst hW3 hW4 hs2 hs3 hs4
  refine (callsIn_wide (n := 6)).1 ?_
  refine callsIn_of_wp_marks Tryd.func92 rfl trivial ?_ rfl
  simp only [Tryd.ntmps92, List.size_toArray, List.length_cons, List.length_nil, Nat.reduceAdd, Nat.reduceSub, Array.replicate_succ, Array.replicate_zero, List.push_toArray, List.append_toArray, List.nil_append, List.cons_append]
  gi_wp2_with (refine ⟨trivial, ?_⟩; gi_at_call 101; refine (callsIn_wide.2 (covers_any _ _ _ _ _)).mono ?_; rintro e w' ⟨rfl, rfl⟩)
  rw [HW3.out, HW4.out]
  refine wpIn_rangeFunc_fam (n := 6) h16 (gf := 108) (lb := #[.pointer (some ⟨W2.heap.size + 1, 0, none⟩)]) rfl (enters_of Tryd.func108 (by kernel_rfl) rfl)
    HST.out (Below.refl _ _) (by have := HS3.out; have := HS4.out; omega) (fun _ => rfl)
    (fun pre W => (FamBox W2.heap.size w.heap.size (m : Int) (nI (valsF pre)) W ∧ HasBlk W (w.heap.size + 1) #[.int .i64 0, .slice none 0 0] 25) ∧ Below w.heap.size w W)
    (fun _ _ => False)
    (OwnF.and (OwnF.and (FamBox.ownF (by have := HS3.out; have := HS4.out; omega) _ (fun pre => nI (valsF pre))) (HasBlk.ownF (by have := HS2.out; have := HS3.out; have := HS4.out; omega) _ _)) (ownF_below (by have := HS2.out; have := HS3.out; have := HS4.out; omega) (.inr (Nat.le_refl _))))
    (fun _ _ _ _ hs _ _ => hs)
    ⟨⟨HR4.out, HQ4.out⟩, HB4.out⟩
    (fun x => { tmps := #[.agg #[.int .i64 (m : Int), .slice a zs.length c], .pointer (some ⟨w.heap.size, 0, none⟩), .pointer (some ⟨w.heap.size + 1, 0, none⟩), .pointer (some ⟨W2.heap.size, 0, none⟩), .int .i64 (x.1 : Int), .pointer (some ⟨w.heap.size, 0, none⟩), .int .i64 (m : Int), .agg #[.int .i64 (m : Int), .slice none 0 0], .agg #[.int .i64 (m : Int), .slice a zs.length c], .func (.func 108) #[] #[.pointer (some ⟨W2.heap.size + 1, 0, none⟩)], .int .i64 (x.1 : Int), undef, undef, undef, undef, undef, undef, undef, undef], defers := [] }) ?assign ?body ?done ?stop
  case assign =>
    intro l x W K hK
    gi_wp2
    exact hK
  case body =>
    rintro l pre x W ⟨⟨⟨v, hv, hrow⟩, q1⟩, hB⟩ hlt
    have HSN : Hid (nI (valsF (pre ++ [x])) = nI (valsF pre) ++ [(x.1 : Int)]) := Lib.hid (by rw [valsF_snoc, nI_snoc'])
    have hlen : (nI (valsF pre)).length ≤ 100000 := by rw [nI_len']; unfold valsF; rw [List.length_map]; omega
    have d1 := (blk_cell hv 1).trans (cell2_1 _ _)
    have f1 := blk_frozen hv 1
    have HV := Lib.hid hv
    have HR := Lib.hid hrow
    have HB := Lib.hid hB
    have HQ1 := Lib.hid q1
    have HS : Hid (w.heap.size ≤ W.heap.size) := Lib.hid hB.size
    clear hv hrow hB q1
    gi_wp2_with (gi_at_builtin; refine wpListIn_append_own _ rfl _ _ 23 rfl w.heap.size 3 i0 (.int .i64 0) 1 8 Tryd.underlying23 hi hz0 hz1 hz2 rfl (by decide) _ _ _ rfl (HR.out.alloc _) ⟨W.heap.size, 0, none⟩ 1 1 [.int .i64 (x.1 : Int)] rfl rfl (cell_one_new _ _ _) (by simp [Value.oneCell']) (by simp only [maxLen]; omega) (by omega) (by have := HS.out; simp; omega) ?_; intro v' w1 hown' hgrow _; obtain ⟨g', cap', rfl⟩ := ownsRow_succ hown'; obtain ⟨hv1, hv2, hk2, hb2⟩ := FamBox.appended HV.out HR.out HS.out (by have := HS2.out; omega) hown' hgrow; have hc1 := (blk_cell hv1 1).trans (cell2_1 _ _); have hf1 := blk_frozen hv1 1; have hbf := ButF.append (v' := .slice (some ⟨g', 0, none⟩) ((nI (valsF pre)).length + 1) cap') (D := W2.heap.size) 1 HR.out hgrow)
    exact ⟨hbf, ⟨by rw [HSN.out]; exact hv2, HQ1.out.butF hbf (by have := HS2.out; omega) (by have := HS2.out; omega) fam_ne⟩, HB.out.trans hb2⟩
  case done =>
    rintro E ys W hE hys ⟨⟨⟨v, hv, hrow⟩, q1⟩, hB⟩ hK
    rw [hys] at hrow
    obtain ⟨ga, gc, rfl⟩ := slice_form hrow
    have d0 := (blk_cell hv 0).trans (cell2_0 _ _)
    have d1 := (blk_cell hv 1).trans (cell2_1 _ _)
    have hcL : nI ((List.range (2 ^ m)).filter (covB zs)) = covL m zs := rfl
    rw [hcL] at hrow d1
    have hlen : (covL m zs).length ≤ 64 := by
      unfold covL
      rw [List.length_map]
      exact Nat.le_trans (List.length_filter_le _ _) (by rw [List.length_range]; exact hp64)
    have hL := leastFam_any (m : Int) ga gc (covL m zs) W (OwnN.ints (B := w.heap.size) (cap := gc) (by exact hrow)) (by omega)
    rw [covL_least hm] at hL
    have HL := Lib.hid hL
    have HR := Lib.hid hrow
    have HB := Lib.hid hB
    have HK := Lib.hid hK
    have HQ1 := Lib.hid q1
    have HEs : Hid (w.heap.size ≤ E) := Lib.hid (by have := HS2.out; have := HS4.out; have := HS3.out; omega)
    clear hv hrow hB q1 hK hys hL hcL
    gi_wp2_with fail
    refine ⟨trivial, ?_⟩
    refine (callsIn_wide.2 HL.out).mono ?_
    rintro e w5 ⟨a5, c5, rfl, ho5, hb5⟩
    have q5 : HasBlk w5 (w.heap.size + 1) #[.int .i64 0, .slice none 0 0] 25 := (hb5.block _ (lt_of_some HQ1.out)).trans HQ1.out
    have hK5 := (hb5.block _ (lt_of_some HK.out)).trans HK.out
    obtain ⟨k1, k2, k3, k4⟩ := fam_done (m := (m : Int)) q5 (ownsRow_base ho5 (B := w.heap.size) HB.out.size) hK5 (by omega) HEs.out (HB.out.trans (hb5.mono HB.out.size))
    have e0 := (blk_cell q5 0).trans (cell2_0 _ _)
    have e1 := (blk_cell q5 1).trans (cell2_1 _ _)
    have f0 := blk_frozen q5 0
    have f1 := blk_frozen q5 1
    have g0 := (blk_cell k2 0).trans (cell2_0 _ _)
    have g1 := (blk_cell k2 1).trans (cell2_1 _ _)
    have K1 := Lib.hid k1
    have K3 := Lib.hid k3
    have K4 := Lib.hid k4
    clear q5 hK5 ho5 hb5 k1 k2 k3 k4
    gi_wp2
    refine ⟨by simp, .inl ⟨_, _, rfl, run_takeDeferred K1.out, ?_⟩⟩
    exact ⟨.agg #[.int .i64 (m : Int), .slice a5 (lcL m zs).length c5], by simp [results, Tryd.f92, go_sem, g0, g1], a5, c5, rfl, K3.out, K4.out⟩
  case stop =>
    rintro E pre W hE hp h hK
    exact h.elim

end Go.Proofs.YtphddemilibooaaDoor

/- It is proved that the call of the law FnExactFamilyDegrees returns true, given what the two functions return; conditions: those of each statement. -/
namespace Go.Proofs.YtphddemilibooaaDoor
open Go.RowKit

/-- What a function of a family that hands back a list and a bool returns. -/
def RetSB (w : World) (zs : List Int) (ok : Bool) (e : Ending) (w' : World) : Prop :=
  ∃ a cap, e = .returned (.tuple #[.slice a zs.length cap, .bool ok]) ∧ OwnI w' w.heap.size (.slice a zs.length cap) zs ∧ Below w.heap.size w w'

end Go.Proofs.YtphddemilibooaaDoor
