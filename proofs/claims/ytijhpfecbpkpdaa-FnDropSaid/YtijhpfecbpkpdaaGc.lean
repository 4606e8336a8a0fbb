/- It is proved what the FamilyDrop of the model returns; conditions: those of each statement. -/
import Derived.Test.YtijhpfecbpkpdaaRows
import Derived.WalkKit
import Derived.WalkSpells
import Derived.ProofKit
import Derived.OpenShut
import Derived.ShutString
import Derived.ChangeOld
import Derived.Below
import Derived.Deep.RegionHeld3
import Derived.Deep.QuietTactic
import Derived.BigQuiet
import Derived.Lib.Hide
import Derived.Lib.SmallJoins
import Derived.Outline
import Derived.Laws.MakeOwn
import Derived.Laws.OwnMore
import Derived.IntWalk
import Derived.Lib.AppendZeros
import Derived.Maps.AppendAt
import Derived.Deep.AppendLies
import Derived.OwnWalk
import Derived.RangeFuncNested
import Derived.RangeFuncBound
import Derived.RangeFuncCalls
import Derived.RangeFuncLeaves
import Derived.RangeFuncBox
import Derived.Shelf.Abstract
import Derived.Shelf.RegionOpen
import Derived.OwnWalkIn
import Derived.TacticsInMore
import Derived.LoopNIn
import Derived.LoopIn
import Derived.Test.YtijhpfecbpkpdaaB
import Derived.Test.YtijhpfecbpkpdaaC
import Derived.Test.YtijhpfecbpkpdaaD
import Derived.Test.YtijhpfecbpkpdaaE
import Derived.Test.YtijhpfecbpkpdaaF
import Derived.Test.YtijhpfecbpkpdaaG
import Derived.Test.YtijhpfecbpkpdaaGa
import Derived.Test.YtijhpfecbpkpdaaGb
import Derived.Test.YtijhpfecbpkpdaaL
import Derived.Test.YtijhpfecbpkpdaaOw
import Derived.Test.YtijhpfecbpkpdaaP
import Derived.Test.YtijhpfecbpkpdaaSa
namespace Go.Proofs.Ytijhpfecbpkpdaa
open Go.RowKit

theorem app_run_n {w : World} {B n k : Nat} {v : Value} {xs : List Value} (h : w.ownsRow B 3 1 v n xs) (hB : B ≤ w.heap.size) (a : Option Addr) (c : Nat) (zs : List Int) (hk : zs.length = k) (hz : Ints w w.heap.size a zs) (hn : n ≤ 1048576) (hzn : k ≤ 1048576) :
    ∃ a' c' w', (Builtin.append_ #[23, 23] 23 #[v, .slice a k c]).run Try.prog w = .ok (.slice a' (n + k) c') w' ∧
      w'.ownsRow B 3 1 (.slice a' (n + k) c') (n + k) (xs ++ zs.map (Value.int .i64)) ∧ w.grownBy w' v.ownBlock := by
  subst hk
  exact app_run h hB a c zs hz hn hzn

/-- An append whose run is known, as a step of a region that draws. -/
theorem step_run {P : Program} {w : World} {ops : Array Oper} {o : Oper} {a : Act} {K : Act → World → Prop} {Q : Exit → Act → World → Prop} {E : Prop} (hgd : o.guard = none) (s x : Operand) (t tn : TypeId)
    (ho : o.op = .call { callee := .builtin .append, args := #[s, x], argTypes := #[t, tn] }) (vs vx : Value) (hs : a.eval s = vs) (hx : a.eval x = vx)
    (v' : Value) (w' : World) (hr : (Builtin.append_ #[t, tn] o.type #[vs, vx]).run P w = .ok v' w') (h : K (a.put o.dst v') w') :
    if Region.wanted o (yielded ops a.tmps) = true then Oper.wp P o a w K Q else E := by
  rw [if_pos (by simp [Region.wanted, hgd])]
  exact Lib.wp_append_run w s x t tn ho vs vx hs hx v' w' hr h

theorem step_run2 {P : Program} {w : World} {ops : Array Oper} {o : Oper} {a : Act} {K : Act → World → Prop} {Q : Exit → Act → World → Prop} {E : Prop} (hgd : o.guard = none) (s x : Operand) (t tn : TypeId)
    (ho : o.op = .call { callee := .builtin .append, args := #[s, x], argTypes := #[t, tn] }) (vs vx : Value) (hs : a.eval s = vs) (hx : a.eval x = vx)
    (h : ∃ v' w', (Builtin.append_ #[t, tn] o.type #[vs, vx]).run P w = .ok v' w' ∧ K (a.put o.dst v') w') :
    if Region.wanted o (yielded ops a.tmps) = true then Oper.wp P o a w K Q else E := by
  obtain ⟨v', w', hr, hk⟩ := h
  exact step_run hgd s x t tn ho vs vx hs hx v' w' hr hk

set_option maxRecDepth 100000 in
set_option maxHeartbeats 1600000 in
theorem specDrop_no (m : Int) (a : Option Addr) (c : Nat) (zs : List Int) (x : Int) (t : Bool) (w : World) (ha : Ints w w.heap.size a zs) (hx : zs.length ≤ 1048576) (hf : famIn m zs = t) (hi : t = false ∨ (t = true ∧ inB x 0 ((zs.length : Int) - 1) = false)) :
    Calls Try.prog 24 #[.agg #[.int .i64 m, .slice a zs.length c], .int .i64 x] w (RetFB w 0 [] false) := by
  have HB0 := Lib.hid (below2 w (.cells #[.int .i64 m, .slice a zs.length c] 25) (.cells #[.int .i64 0, .slice none 0 0] 25))
  have HA := Lib.hid (ha.below HB0.out)
  have HF := Lib.hid hf
  clear hf ha
  rcases hi with rfl | ⟨rfl, hi⟩
  · go_enter Try.func24, Try.ntmps24
    go_wp2_with fail
    refine (specFamilyIn_any _ _ _ zs _ (HA.out.mono (by simp; omega)) hx).mono ?_
    rintro e w1 ⟨rfl, hb⟩
    rw [HF.out]
    have b1 : w1.heap[w.heap.size + 1]? = some (.cells #[.int .i64 0, .slice none 0 0] 25 (0, 0)) := (hb.block _ (by simp)).trans (alloc2_1 w _ _)
    have HB := Lib.hid (HB0.out.trans (hb.mono (by simp; omega)))
    have z1 : w.heap.size + 1 < w1.heap.size := by have := hb.size; simp at this; omega
    clear hb
    go_wp2_with fail
    refine (l1None_any _).mono ?_
    rintro e w2 ⟨a2, c2, rfl, ho2, hb⟩
    have b2 := (hb.block _ z1).trans b1
    have d0 := blk_cell b2 0
    have d1 := blk_cell b2 1
    have f0 := blk_frozen b2 0
    have f1 := blk_frozen b2 1
    simp only [cell2_0, cell2_1] at d0 d1
    have z2 : w.heap.size + 1 < w2.heap.size := by have := hb.size; omega
    have HB2 := Lib.hid (HB.out.trans (hb.mono (by omega)))
    have HO := Lib.hid ho2
    clear hb b1 b2 ho2
    go_wp2
    refine bodyPost_ret (v := .tuple #[.agg #[.int .i64 0, .slice a2 0 c2], .bool false]) (by simp [results, Try.results24, go_sem, d0, d1]) rfl ?_
    refine ⟨a2, c2, rfl, ?_, ?_⟩
    · exact own_mono (ownsRow_setCell_below (ownsRow_setCell_below HO.out (by simp; omega) _) (by simp; omega) _) (by omega)
    · exact (HB2.out.setCell (p := ⟨w.heap.size + 1, 0, none⟩) (by simp) _).setCell (p := ⟨w.heap.size + 1, 1, none⟩) (by simp) _
  · have HI := Lib.hid hi
    clear hi
    go_enter Try.func24, Try.ntmps24
    go_wp2_with fail
    refine (specFamilyIn_any _ _ _ zs _ (HA.out.mono (by simp; omega)) hx).mono ?_
    rintro e w1 ⟨rfl, hb⟩
    rw [HF.out]
    have b0 : w1.heap[w.heap.size]? = some (.cells #[.int .i64 m, .slice a zs.length c] 25 (0, 0)) := (hb.block _ (by simp; omega)).trans (alloc2_0 w _ _)
    have b1 : w1.heap[w.heap.size + 1]? = some (.cells #[.int .i64 0, .slice none 0 0] 25 (0, 0)) := (hb.block _ (by simp)).trans (alloc2_1 w _ _)
    have x0 := blk_cell b0 0
    have x1 := blk_cell b0 1
    simp only [cell2_0, cell2_1] at x0 x1
    have HB := Lib.hid (HB0.out.trans (hb.mono (by simp; omega)))
    have z1 : w.heap.size + 1 < w1.heap.size := by have := hb.size; simp at this; omega
    clear hb b0
    go_wp2_with fail
    refine (l6In_any _ _ _ _).mono ?_
    rintro e w' ⟨rfl, rfl⟩
    rw [HI.out]
    go_wp2_with fail
    refine (l1None_any _).mono ?_
    rintro e w2 ⟨a2, c2, rfl, ho2, hb⟩
    have b2 := (hb.block _ z1).trans b1
    have d0 := blk_cell b2 0
    have d1 := blk_cell b2 1
    have f0 := blk_frozen b2 0
    have f1 := blk_frozen b2 1
    simp only [cell2_0, cell2_1] at d0 d1
    have z2 : w.heap.size + 1 < w2.heap.size := by have := hb.size; omega
    have HB2 := Lib.hid (HB.out.trans (hb.mono (by omega)))
    have HO := Lib.hid ho2
    clear hb b1 b2 ho2
    go_wp2
    refine bodyPost_ret (v := .tuple #[.agg #[.int .i64 0, .slice a2 0 c2], .bool false]) (by simp [results, Try.results24, go_sem, d0, d1]) rfl ?_
    refine ⟨a2, c2, rfl, ?_, ?_⟩
    · exact own_mono (ownsRow_setCell_below (ownsRow_setCell_below HO.out (by simp; omega) _) (by simp; omega) _) (by omega)
    · exact (HB2.out.setCell (p := ⟨w.heap.size + 1, 0, none⟩) (by simp) _).setCell (p := ⟨w.heap.size + 1, 1, none⟩) (by simp) _

set_option maxRecDepth 100000 in
set_option maxHeartbeats 3200000 in
theorem specDrop_yes (m : Int) (b off c : Nat) (zs : List Int) (p : Nat) (w : World) (ha : Ints w w.heap.size (some ⟨b, off, none⟩) zs) (hx : zs.length ≤ 1048576) (hf : famIn m zs = true) (hp : p < zs.length) (hc : zs.length ≤ c) :
    Calls Try.prog 24 #[.agg #[.int .i64 m, .slice (some ⟨b, off, none⟩) zs.length c], .int .i64 p] w (RetFB w m (without zs p) true) := by
  have HB0 := Lib.hid (below2 w (.cells #[.int .i64 m, .slice (some ⟨b, off, none⟩) zs.length c] 25) (.cells #[.int .i64 0, .slice none 0 0] 25))
  have HA := Lib.hid (ha.below HB0.out)
  have HF := Lib.hid hf
  have HI : Hid (inB (p : Int) 0 ((zs.length : Int) - 1) = true) := Lib.hid (inB_true (by omega) (by omega))
  have hp0 : (0 : Int) ≤ (p : Int) := by omega
  have hp1 : (p : Int) < (zs.length : Int) := by omega
  clear hf ha
  go_enter Try.func24, Try.ntmps24
  go_wp2_with fail
  refine (specFamilyIn_any _ _ _ zs _ (HA.out.mono (by simp; omega)) hx).mono ?_
  rintro e w1 ⟨rfl, hb⟩
  rw [HF.out]
  have b0 : w1.heap[w.heap.size]? = some (.cells #[.int .i64 m, .slice (some ⟨b, off, none⟩) zs.length c] 25 (0, 0)) := (hb.block _ (by simp; omega)).trans (alloc2_0 w _ _)
  have b2 : w1.heap[w.heap.size + 1]? = some (.cells #[.int .i64 0, .slice none 0 0] 25 (0, 0)) := (hb.block _ (by simp)).trans (alloc2_1 w _ _)
  have x0 := blk_cell b0 0
  have x1 := blk_cell b0 1
  simp only [cell2_0, cell2_1] at x0 x1
  have HB := Lib.hid (HB0.out.trans (hb.mono (by simp; omega)))
  have HA1 := Lib.hid (HA.out.below (hb.mono (by simp; omega)))
  have B2 := Lib.hid b2
  have z1 : w.heap.size + 1 < w1.heap.size := by have := hb.size; simp at this; omega
  clear hb b0 b2
  have hH1 : w.heap.size < w1.heap.size := by omega
  go_wp2_with fail
  refine (l6In_any _ _ _ _).mono ?_
  rintro e w' ⟨rfl, rfl⟩
  rw [HI.out]
  by_cases hcc : c = p + 1
  · subst hcc
    have hD0 : zs.drop (p + 1) = [] := List.drop_eq_nil_of_le (by omega)
    have HL1 : Hid ((zs.take p).length = p) := Lib.hid (by rw [List.length_take]; omega)
    have HL2 : Hid ((zs.drop (p + 1)).length = 0) := Lib.hid (by rw [hD0]; rfl)
    have HB1 := Lib.hid (below1 w1 (.cells #[] 3))
    have hE : OwnI (w1.alloc (.cells #[] 3)).drew w1.heap.size (.slice (some ⟨w1.heap.size, 0, none⟩) 0 0) [] := own_empty (w := (w1.alloc (.cells #[] 3)).drew) (alloc_new w1 _) (Nat.le_refl _)
    have hI1 : Ints (w1.alloc (.cells #[] 3)).drew (w1.alloc (.cells #[] 3)).drew.heap.size (some ⟨b, off, none⟩) (zs.take p) := ((HA1.out.take_ p).below ((HB1.out.drew).mono (by omega))).mono (by show w.heap.size ≤ (w1.alloc (.cells #[] 3)).heap.size; rw [World.size_alloc]; omega)
    obtain ⟨a3, c3, w3, hr3, ho3, hg3⟩ := app_run_n (n := 0) (k := p) hE (by show w1.heap.size ≤ (w1.alloc (.cells #[] 3)).heap.size; simp) (some ⟨b, off, none⟩) (p + 1) (zs.take p) HL1.out hI1 (by omega) (by omega)
    have hb3 : Below w1.heap.size w1 w3 := (HB1.out.drew).grown hg3 (by show w1.heap.size ≤ (w1.alloc (.cells #[] 3)).heap.size; simp) (fun g e => (World.ownsRow.lt hE g e).1)
    have hI2 : Ints w3 w3.heap.size (some ⟨b, off, none⟩) (zs.drop (p + 1)) := by rw [hD0]; exact .inl rfl
    obtain ⟨a4, c4, w4, hr4, ho4, hg4⟩ := app_run_n (k := 0) ho3 hb3.size (some ⟨b, off, none⟩) 0 (zs.drop (p + 1)) HL2.out hI2 (by omega) (by omega)
    have hb4 : Below w1.heap.size w1 w4 := hb3.grown hg4 hb3.size (fun g e => (World.ownsRow.lt ho3 g e).1)
    have HR3 := Lib.hid hr3
    have HR4 := Lib.hid hr4
    have HO4 : Hid (w4.ownsRow w1.heap.size 3 1 (.slice a4 (0 + p + 0) c4) (0 + p + 0) ((without zs p).map (Value.int .i64))) := Lib.hid (by have h := ho4; unfold without; rw [List.map_append]; simpa using h)
    have HW3 := Lib.hid hb3
    have HW4 := Lib.hid hb4
    have hz4 : w1.heap.size ≤ w4.heap.size := hb4.size
    clear hE hI1 hr3 ho3 hg3 hb3 hI2 hr4 ho4 hg4 hb4 hD0
    go_wp2_with fail
    have hw : IntKind.i64.wrap ((p : Int) + 1) = (p : Int) + 1 := IntWalk.i64_in _ (by omega)
    have ht : ((p : Int) + 1).toNat = p + 1 := by omega
    have h2 : (0 : Int) ≤ (p : Int) + 1 := by omega
    have h3 : (p : Int) + 1 ≤ (zs.length : Int) := by omega
    have h4 : (zs.length : Int) ≤ (p : Int) + 1 := by omega
    have h5 : (p : Int) ≤ (p : Int) + 1 := by omega
    go_region_held3 (fun w' => w'.cell? ⟨w.heap.size, 0, none⟩ = some (.int .i64 m) ∧ w'.cell? ⟨w.heap.size, 1, none⟩ = some (.slice (some ⟨b, off, none⟩) zs.length (p + 1)))
      (first
        | exact ⟨x0, x1⟩
        | exact ⟨(World.cell?_alloc_lt w1 _ _ hH1).trans x0, (World.cell?_alloc_lt w1 _ _ hH1).trans x1⟩
        | exact ⟨(HW3.out.cell (p := ⟨w.heap.size, 0, none⟩) hH1).trans x0, (HW3.out.cell (p := ⟨w.heap.size, 1, none⟩) hH1).trans x1⟩
        | exact ⟨(HW4.out.cell (p := ⟨w.heap.size, 0, none⟩) hH1).trans x0, (HW4.out.cell (p := ⟨w.heap.size, 1, none⟩) hH1).trans x1⟩
        | exact ⟨(hb5.cell (p := ⟨w.heap.size, 0, none⟩) (Nat.lt_of_lt_of_le hH1 hz4)).trans ((HW4.out.cell (p := ⟨w.heap.size, 0, none⟩) hH1).trans x0), (hb5.cell (p := ⟨w.heap.size, 1, none⟩) (Nat.lt_of_lt_of_le hH1 hz4)).trans ((HW4.out.cell (p := ⟨w.heap.size, 1, none⟩) hH1).trans x1)⟩
        | exact two_far ((hb5.cell (p := ⟨w.heap.size, 0, none⟩) (Nat.lt_of_lt_of_le hH1 hz4)).trans ((HW4.out.cell (p := ⟨w.heap.size, 0, none⟩) hH1).trans x0)) ((hb5.cell (p := ⟨w.heap.size, 1, none⟩) (Nat.lt_of_lt_of_le hH1 hz4)).trans ((HW4.out.cell (p := ⟨w.heap.size, 1, none⟩) hH1).trans x1)))
      (first
        | (refine step_run2 (by rfl) _ _ 23 23 (by rfl) (.slice (some ⟨w1.heap.size, 0, none⟩) 0 0) (.slice (some ⟨b, off, none⟩) p (p + 1)) (by rfl) (by rfl) ?_; refine ⟨_, _, HR3.out, ?_⟩)
        | (refine step_run2 (by rfl) _ _ 23 23 (by rfl) (.slice a3 (0 + p) c3) (.slice (some ⟨b, off, none⟩) 0 0) (by rfl) (by rfl) ?_; refine ⟨_, _, HR4.out, ?_⟩)
        | (go_at_call 53; refine (l1With_any _ _ _ _ _ _ _ _).mono ?_; rintro e w5 ⟨rfl, hb5⟩; have e2 := (hb5.block _ (Nat.lt_of_lt_of_le z1 hz4)).trans ((HW4.out.block _ z1).trans B2.out); have d0 := (blk_cell e2 0).trans (cell2_0 _ _); have d1 := (blk_cell e2 1).trans (cell2_1 _ _); have f0 := blk_frozen e2 0; have f1 := blk_frozen e2 1))
    have HO5 := Lib.hid (ownsRow_below HO4.out hb5)
    have HB5 := Lib.hid (HB.out.trans ((HW4.out.mono (by omega)).trans (hb5.mono (by omega))))
    have hl5 : (without zs p).length = 0 + p + 0 := by unfold without; rw [List.length_append, HL1.out, HL2.out]; omega
    have HL5 := Lib.hid hl5
    clear hb5 e2 hl5
    go_wp2
    refine bodyPost_ret (v := .tuple #[.agg #[.int .i64 m, .slice a4 (0 + p + 0) c4], .bool true]) (by simp [results, Try.results24, go_sem, d0, d1]) rfl ?_
    refine ⟨a4, c4, by rw [HL5.out], ?_, ?_⟩
    · rw [HL5.out]
      have h1 := ownsRow_setCell_below (ownsRow_setCell_below HO5.out (a := ⟨w.heap.size + 1, 0, none⟩) z1 (.int .i64 m)) (a := ⟨w.heap.size + 1, 1, none⟩) z1 (.slice a4 (0 + p + 0) c4)
      unfold OwnI
      rw [HL5.out]
      simpa using ownsRow_base h1 (B := w.heap.size) (by omega)
    · simpa using (HB5.out.setCell (p := ⟨w.heap.size + 1, 0, none⟩) (by simp) (.int .i64 m)).setCell (p := ⟨w.heap.size + 1, 1, none⟩) (by simp) (.slice a4 (0 + p + 0) c4)
  · have hcc' : (p : Int) + 1 < (c : Int) := by omega
    have hcn : ¬ c = p + 1 := hcc
    have HL1 : Hid ((zs.take p).length = p) := Lib.hid (by rw [List.length_take]; omega)
    have HL2 : Hid ((zs.drop (p + 1)).length = (zs.length - (p + 1))) := Lib.hid (List.length_drop)
    have HB1 := Lib.hid (below1 w1 (.cells #[] 3))
    have hE : OwnI (w1.alloc (.cells #[] 3)).drew w1.heap.size (.slice (some ⟨w1.heap.size, 0, none⟩) 0 0) [] := own_empty (w := (w1.alloc (.cells #[] 3)).drew) (alloc_new w1 _) (Nat.le_refl _)
    have hI1 : Ints (w1.alloc (.cells #[] 3)).drew (w1.alloc (.cells #[] 3)).drew.heap.size (some ⟨b, off, none⟩) (zs.take p) := ((HA1.out.take_ p).below ((HB1.out.drew).mono (by omega))).mono (by show w.heap.size ≤ (w1.alloc (.cells #[] 3)).heap.size; rw [World.size_alloc]; omega)
    obtain ⟨a3, c3, w3, hr3, ho3, hg3⟩ := app_run_n (n := 0) (k := p) hE (by show w1.heap.size ≤ (w1.alloc (.cells #[] 3)).heap.size; simp) (some ⟨b, off, none⟩) c (zs.take p) HL1.out hI1 (by omega) (by omega)
    have hb3 : Below w1.heap.size w1 w3 := (HB1.out.drew).grown hg3 (by show w1.heap.size ≤ (w1.alloc (.cells #[] 3)).heap.size; simp) (fun g e => (World.ownsRow.lt hE g e).1)
    have hI2 : Ints w3 w3.heap.size (some ⟨b, off + (p + 1), none⟩) (zs.drop (p + 1)) := ((drop_ints HA1.out (p + 1)).below (hb3.mono (by omega))).mono (by have := hb3.size; omega)
    obtain ⟨a4, c4, w4, hr4, ho4, hg4⟩ := app_run_n (k := (zs.length - (p + 1))) ho3 hb3.size (some ⟨b, off + (p + 1), none⟩) (c - (p + 1)) (zs.drop (p + 1)) HL2.out hI2 (by omega) (by omega)
    have hb4 : Below w1.heap.size w1 w4 := hb3.grown hg4 hb3.size (fun g e => (World.ownsRow.lt ho3 g e).1)
    have HR3 := Lib.hid hr3
    have HR4 := Lib.hid hr4
    have HO4 : Hid (w4.ownsRow w1.heap.size 3 1 (.slice a4 (0 + p + (zs.length - (p + 1))) c4) (0 + p + (zs.length - (p + 1))) ((without zs p).map (Value.int .i64))) := Lib.hid (by have h := ho4; unfold without; rw [List.map_append]; simpa using h)
    have HW3 := Lib.hid hb3
    have HW4 := Lib.hid hb4
    have hz4 : w1.heap.size ≤ w4.heap.size := hb4.size
    clear hE hI1 hr3 ho3 hg3 hb3 hI2 hr4 ho4 hg4 hb4
    go_wp2_with fail
    have hw : IntKind.i64.wrap ((p : Int) + 1) = (p : Int) + 1 := IntWalk.i64_in _ (by omega)
    have ht : ((p : Int) + 1).toNat = p + 1 := by omega
    have h2 : (0 : Int) ≤ (p : Int) + 1 := by omega
    have h3 : (p : Int) + 1 ≤ (zs.length : Int) := by omega
    have h4 : (zs.length : Int) ≤ (c : Int) := by omega
    have h5 : (p : Int) ≤ (c : Int) := by omega
    go_region_held3 (fun w' => w'.cell? ⟨w.heap.size, 0, none⟩ = some (.int .i64 m) ∧ w'.cell? ⟨w.heap.size, 1, none⟩ = some (.slice (some ⟨b, off, none⟩) zs.length c))
      (first
        | exact ⟨x0, x1⟩
        | exact ⟨(World.cell?_alloc_lt w1 _ _ hH1).trans x0, (World.cell?_alloc_lt w1 _ _ hH1).trans x1⟩
        | exact ⟨(HW3.out.cell (p := ⟨w.heap.size, 0, none⟩) hH1).trans x0, (HW3.out.cell (p := ⟨w.heap.size, 1, none⟩) hH1).trans x1⟩
        | exact ⟨(HW4.out.cell (p := ⟨w.heap.size, 0, none⟩) hH1).trans x0, (HW4.out.cell (p := ⟨w.heap.size, 1, none⟩) hH1).trans x1⟩
        | exact ⟨(hb5.cell (p := ⟨w.heap.size, 0, none⟩) (Nat.lt_of_lt_of_le hH1 hz4)).trans ((HW4.out.cell (p := ⟨w.heap.size, 0, none⟩) hH1).trans x0), (hb5.cell (p := ⟨w.heap.size, 1, none⟩) (Nat.lt_of_lt_of_le hH1 hz4)).trans ((HW4.out.cell (p := ⟨w.heap.size, 1, none⟩) hH1).trans x1)⟩
        | exact two_far ((hb5.cell (p := ⟨w.heap.size, 0, none⟩) (Nat.lt_of_lt_of_le hH1 hz4)).trans ((HW4.out.cell (p := ⟨w.heap.size, 0, none⟩) hH1).trans x0)) ((hb5.cell (p := ⟨w.heap.size, 1, none⟩) (Nat.lt_of_lt_of_le hH1 hz4)).trans ((HW4.out.cell (p := ⟨w.heap.size, 1, none⟩) hH1).trans x1)))
      (first
        | (refine step_run2 (by rfl) _ _ 23 23 (by rfl) (.slice (some ⟨w1.heap.size, 0, none⟩) 0 0) (.slice (some ⟨b, off, none⟩) p c) (by rfl) (by rfl) ?_; refine ⟨_, _, HR3.out, ?_⟩)
        | (refine step_run2 (by rfl) _ _ 23 23 (by rfl) (.slice a3 (0 + p) c3) (.slice (some ⟨b, off + (p + 1), none⟩) (zs.length - (p + 1)) (c - (p + 1))) (by rfl) (by rfl) ?_; refine ⟨_, _, HR4.out, ?_⟩)
        | (go_at_call 53; refine (l1With_any _ _ _ _ _ _ _ _).mono ?_; rintro e w5 ⟨rfl, hb5⟩; have e2 := (hb5.block _ (Nat.lt_of_lt_of_le z1 hz4)).trans ((HW4.out.block _ z1).trans B2.out); have d0 := (blk_cell e2 0).trans (cell2_0 _ _); have d1 := (blk_cell e2 1).trans (cell2_1 _ _); have f0 := blk_frozen e2 0; have f1 := blk_frozen e2 1))
    have HO5 := Lib.hid (ownsRow_below HO4.out hb5)
    have HB5 := Lib.hid (HB.out.trans ((HW4.out.mono (by omega)).trans (hb5.mono (by omega))))
    have hl5 : (without zs p).length = 0 + p + (zs.length - (p + 1)) := by unfold without; rw [List.length_append, HL1.out, HL2.out]; omega
    have HL5 := Lib.hid hl5
    clear hb5 e2 hl5
    go_wp2
    refine bodyPost_ret (v := .tuple #[.agg #[.int .i64 m, .slice a4 (0 + p + (zs.length - (p + 1))) c4], .bool true]) (by simp [results, Try.results24, go_sem, d0, d1]) rfl ?_
    refine ⟨a4, c4, by rw [HL5.out], ?_, ?_⟩
    · rw [HL5.out]
      have h1 := ownsRow_setCell_below (ownsRow_setCell_below HO5.out (a := ⟨w.heap.size + 1, 0, none⟩) z1 (.int .i64 m)) (a := ⟨w.heap.size + 1, 1, none⟩) z1 (.slice a4 (0 + p + (zs.length - (p + 1))) c4)
      unfold OwnI
      rw [HL5.out]
      simpa using ownsRow_base h1 (B := w.heap.size) (by omega)
    · simpa using (HB5.out.setCell (p := ⟨w.heap.size + 1, 0, none⟩) (by simp) (.int .i64 m)).setCell (p := ⟨w.heap.size + 1, 1, none⟩) (by simp) (.slice a4 (0 + p + (zs.length - (p + 1))) c4)

end Go.Proofs.Ytijhpfecbpkpdaa
