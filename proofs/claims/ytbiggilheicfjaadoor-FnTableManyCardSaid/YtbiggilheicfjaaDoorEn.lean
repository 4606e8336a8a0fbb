/- It is proved what less returns: the degrees that are left behind a club; conditions: those of each statement. -/
import Derived.RowKit
import Derived.Laws.CopyRow
import Derived.Lib.SlBuf
import Derived.RangeFuncNested
import Derived.RangeFuncBound
import Derived.RangeFuncCalls
import Derived.RangeFuncLeaves
import Derived.RangeFuncBox
import Derived.RangeFuncWrites
import Derived.StillTailTactics
import Derived.Test.YtbiggilheicfjaaDoorRows
import Derived.WalkKit
import Derived.WalkSpells
import Derived.ProofKit
import Derived.OpenShut
import Derived.ShutString
import Derived.ChangeOld
import Derived.Below
import Derived.Deep.RegionHeld3
import Derived.Deep.QuietTactic
import Derived.BigQuiet
import Derived.Lib.Hide
import Derived.Lib.SmallJoins
import Derived.Outline
import Derived.Laws.MakeOwn
import Derived.Laws.OwnMore
import Derived.IntWalk
import Derived.Lib.AppendZeros
import Derived.Maps.AppendAt
import Derived.Deep.AppendLies
import Derived.OwnWalk
import Derived.Shelf.Abstract
import Derived.Shelf.RegionOpen
import Derived.OwnWalkIn
import Derived.TacticsInMore
import Derived.LoopNIn
import Derived.LoopIn
import Derived.StillTail
import Derived.StillTactics
import Derived.OrdersIn
import Derived.TacticsIn
import Derived.Shelf.Spec.TrailingZeros
import Derived.Test.YtbiggilheicfjaaDoorMva
import Derived.Test.YtbiggilheicfjaaDoorAi
import Derived.Test.YtbiggilheicfjaaDoorDg
import Derived.Test.YtbiggilheicfjaaDoorEc
import Derived.Test.YtbiggilheicfjaaDoorT
import Derived.Test.YtbiggilheicfjaaDoorTa
namespace Go.Proofs.YtbiggilheicfjaaDoor
open Go.RowKit Go.Shelf

attribute [local go_sem] Oper.semAt_some

/-- One less at a place. -/
def dec1 (xs : List Int) (v : Nat) : List Int := xs.set v (xs[v]?.getD 0 - 1)

def lessV (xs : List Int) (us : List Nat) : List Int := us.foldl dec1 xs
theorem lessV_len : ∀ (us : List Nat) (xs : List Int), (lessV xs us).length = xs.length
  | [], _ => rfl
  | u :: us, xs => by rw [lessV, List.foldl_cons]; exact (lessV_len us (dec1 xs u)).trans (by simp [dec1])

theorem lessV_snoc (xs : List Int) (us : List Nat) (v : Nat) : lessV xs (us ++ [v]) = dec1 (lessV xs us) v := by simp [lessV]
theorem lessV_ge : ∀ (us : List Nat) (xs : List Int) (j : Nat) (B : Int), (∀ i : Nat, B ≤ xs[i]?.getD 0 ∧ xs[i]?.getD 0 ≤ 20) → B ≤ 20 → B - us.length ≤ (lessV xs us)[j]?.getD 0 ∧ (lessV xs us)[j]?.getD 0 ≤ 20
  | [], xs, j, B, h, _ => by have := h j; simp [lessV]; omega
  | u :: us, xs, j, B, h, hB => by
    have ih := lessV_ge us (dec1 xs u) j (B - 1) (fun i => by
      have h1 := h i
      have h2 := h u
      unfold dec1
      by_cases e : u = i
      · subst e
        by_cases hl : u < xs.length
        · rw [List.getElem?_set_self hl, Option.getD_some]; omega
        · rw [List.set_eq_of_length_le (by omega)]; omega
      · rw [List.getElem?_set_ne e]; omega) (by omega)
    rw [lessV, List.foldl_cons]
    rw [List.length_cons]
    unfold lessV at ih
    omega

set_option maxRecDepth 100000 in
set_option maxHeartbeats 4000000 in
theorem less_any (xs : List Int) (hl : xs.length = 5) (hB : ∀ z ∈ xs, -10 ≤ z ∧ z ≤ 20) (s : Nat) (hs : s < 32) (w : World) (hT : Tab w) :
    Calls Tryd.prog 99 #[.agg (iv xs), .int .i64 (s : Int)] w fun e w' => e = .returned (.agg (iv (lessV xs (mem s)))) ∧ Below w.heap.size w w' := by
  have HT := Lib.hid hT
  have hB' : ∀ i : Nat, -10 ≤ xs[i]?.getD 0 ∧ xs[i]?.getD 0 ≤ 20 := fun i => by
    by_cases h : i < xs.length
    · rw [List.getElem?_eq_getElem h, Option.getD_some]; exact hB _ (List.getElem_mem _)
    · rw [List.getElem?_eq_none (by omega)]; simp
  have HLB : Hid (∀ (us : List Nat) (j : Nat), us.length ≤ 6 → -16 ≤ (lessV xs us)[j]?.getD 0 ∧ (lessV xs us)[j]?.getD 0 ≤ 20) := Lib.hid (fun us j hu => by
    have := lessV_ge us xs j (-10) hB' (by omega)
    omega)
  obtain ⟨x0, x1, x2, x3, x4, rfl⟩ := five hl
  clear hB hB' hl hT
  refine (callsIn_wide (n := 6)).1 ?_
  refine callsIn_of_wp_marks Tryd.func99 rfl trivial ?_ rfl
  simp only [Tryd.ntmps99, List.size_toArray, List.length_cons, List.length_nil, Nat.reduceAdd, Nat.reduceSub, Array.replicate_succ, Array.replicate_zero, List.push_toArray, List.append_toArray, List.nil_append, List.cons_append]
  rw [show iv [x0, x1, x2, x3, x4] = #[Value.int .i64 x0, .int .i64 x1, .int .i64 x2, .int .i64 x3, .int .i64 x4] from rfl]
  gi_wp2_with (refine ⟨trivial, ?_⟩; gi_at_call 66; refine (callsIn_wide.2 (members_any _ _)).mono ?_; rintro e w' ⟨rfl, rfl⟩)
  have h16 : 1 ≤ 6 := by omega
  have hb3 := below3 w (.cells #[Value.int .i64 x0, .int .i64 x1, .int .i64 x2, .int .i64 x3, .int .i64 x4] 81) (.cells z5 81) (.cells #[.int .i64 (s : Int)] 63)
  have q0 : Nums (((w.alloc (.cells #[Value.int .i64 x0, .int .i64 x1, .int .i64 x2, .int .i64 x3, .int .i64 x4] 81)).alloc (.cells z5 81)).alloc (.cells #[.int .i64 (s : Int)] 63)) w.heap.size 81 [x0, x1, x2, x3, x4] := alloc3_0 w _ _ _
  have q1 : HasBlk (((w.alloc (.cells #[Value.int .i64 x0, .int .i64 x1, .int .i64 x2, .int .i64 x3, .int .i64 x4] 81)).alloc (.cells z5 81)).alloc (.cells #[.int .i64 (s : Int)] 63)) (w.heap.size + 1) z5 81 := alloc3_1 w _ _ _
  have q2 := alloc3_2 w (.cells #[Value.int .i64 x0, .int .i64 x1, .int .i64 x2, .int .i64 x3, .int .i64 x4] 81) (.cells z5 81) (.cells #[.int .i64 (s : Int)] 63)
  have hT1 := HT.out.lt
  obtain ⟨Wo, hWo, hso⟩ : ∃ Wo, ((w.alloc (.cells #[Value.int .i64 x0, .int .i64 x1, .int .i64 x2, .int .i64 x3, .int .i64 x4] 81)).alloc (.cells z5 81)).alloc (.cells #[.int .i64 (s : Int)] 63) = Wo ∧ Wo.heap.size = w.heap.size + 3 := ⟨_, rfl, by simp⟩
  unfold z5 at hWo hb3 q0 q1 q2
  rw [hWo] at hb3 q0 q1 q2 ⊢
  have hst := membersS_stops (6 - 1) (by omega) (w.heap.size + 1 + 1) w.heap.size s (by omega) Wo (by omega) (by omega) (by omega) ((blk_cell q2 0).trans (cell1_0 _)) (HT.out.below hb3 HT.out.lt)
  have HBB := Lib.hid hb3
  have HSO := Lib.hid hso
  have Q0 := Lib.hid q0
  have Q1 := Lib.hid q1
  clear hWo hb3 hso q0 q1 q2
  refine wpIn_rangeFunc_ownG rfl h16 (gf := 104) (lb := #[.pointer (some ⟨w.heap.size + 1 + 1, 0, none⟩)]) rfl trivial (enters_of Tryd.func104 (by kernel_rfl) rfl)
    hst belowK_t (belowK_b (by have := HSO.out; omega)) (Below.refl _ _) (fun _ => rfl)
    (fun us W => Nums W w.heap.size 81 (lessV [x0, x1, x2, x3, x4] (valsS us)) ∧ HasBlk W (w.heap.size + 1) #[Value.int IntKind.i64 0, Value.int IntKind.i64 0, Value.int IntKind.i64 0, Value.int IntKind.i64 0, Value.int IntKind.i64 0] 81 ∧ Below w.heap.size Wo W)
    (fun _ _ _ => False)
    ?own
    (fun _ _ _ _ _ hs _ _ => hs)
    ⟨Q0.out, Q1.out, Below.refl _ _⟩
    (fun x => { tmps := #[.agg #[.int .i64 x0, .int .i64 x1, .int .i64 x2, .int .i64 x3, .int .i64 x4], .int .i64 (s : Int), .pointer (some ⟨w.heap.size, 0, none⟩), undef, .pointer (some ⟨w.heap.size + 1, 0, none⟩), .int .i64 (x.1 : Int), .int .i64 (s : Int), .func (.func 104) #[] #[.pointer (some ⟨w.heap.size + 1 + 1, 0, none⟩)], .int .i64 (x.1 : Int), undef, undef, undef, undef, undef, undef], defers := [] }) ?assign ?body ?done ?stop
  case own =>
    rintro ys A B row ⟨hN, hR, hB⟩ hg hr
    have hr' : ∀ r, row = some r → Wo.heap.size ≤ r := fun r e => (hr r e).1
    have hs0 := HSO.out
    exact ⟨hN.kept hg (fun e => by have := hr' _ e; omega), hR.kept hg (fun e => by have := hr' _ e; omega), hB.grown hg (by have := hB.size; omega) (fun g e => by have := hr' g e; omega)⟩
  case assign =>
    intro l x W K hK
    gi_wp2
    exact hK
  case body =>
    rintro l us x W ⟨hN, hR, hB⟩ hlt
    obtain ⟨u, hu⟩ := x
    have hu5 : u < 5 := by
      have h1 := (mem_mem s u).1 hu
      by_cases h : u < 5
      · exact h
      · have : s < 2 ^ u := Nat.lt_of_lt_of_le hs (Nat.pow_le_pow_right (n := 2) (i := 5) (by decide) (by omega))
        rw [Nat.testBit_lt_two_pow this] at h1
        simp at h1
    have hll : (lessV [x0, x1, x2, x3, x4] (valsS us)).length = 5 := lessV_len _ _
    have c1 := hN.cell u (by omega)
    have f1 := hN.frozen u
    obtain ⟨hlo, hhi⟩ := HLB.out (valsS us) u (by simp [valsS]; omega)
    obtain ⟨d, hd⟩ : ∃ d, d = (lessV [x0, x1, x2, x3, x4] (valsS us))[u]?.getD 0 := ⟨_, rfl⟩
    rw [← hd] at c1 hlo hhi
    have HNS := Lib.hid (hN.set u (d - 1))
    have HR := Lib.hid hR
    have HB := Lib.hid hB
    have HD := Lib.hid hd
    have hu0 : (0 : Int) ≤ (u : Int) := by omega
    have hu1 : (u : Int) < 5 := by omega
    have hw : IntKind.i64.wrap (d - 1) = d - 1 := by rw [IntKind.wrap_i64]; omega
    clear hN hR hB hd hll
    gi_wp2
    have hs0 := HSO.out
    refine ⟨(KeepsOthers.setCell _ _ _).from _, (Below.refl _ W).setCell (p := ⟨w.heap.size, u, none⟩) (Nat.le_refl _) _, ?_, HR.out.far (show w.heap.size + 1 ≠ w.heap.size by omega) _, HB.out.setCell (p := ⟨w.heap.size, u, none⟩) (Nat.le_refl _) _⟩
    rw [valsS_snoc, lessV_snoc, dec1, ← HD.out]
    exact HNS.out
  case done =>
    rintro D us W hD hus ⟨hN, hR, hB⟩ hK
    have hu2 : valsS us = mem s := hus
    rw [hu2] at hN
    have hll : (lessV [x0, x1, x2, x3, x4] (mem s)).length = 5 := lessV_len _ _
    obtain ⟨y0, y1, y2, y3, y4, hy⟩ := five hll
    rw [hy] at hN
    have c0 := hN.cell 0 (by simp)
    have c1 := hN.cell 1 (by simp)
    have c2 := hN.cell 2 (by simp)
    have c3 := hN.cell 3 (by simp)
    have c4 := hN.cell 4 (by simp)
    simp only [List.getElem?_cons_zero, List.getElem?_cons_succ, Option.getD_some] at c0 c1 c2 c3 c4
    have e0 := blk_cell hR 0
    have e1 := blk_cell hR 1
    have e2 := blk_cell hR 2
    have e3 := blk_cell hR 3
    have e4 := blk_cell hR 4
    have f0 := blk_frozen hR 0
    have f1 := blk_frozen hR 1
    have f2 := blk_frozen hR 2
    have f3 := blk_frozen hR 3
    have f4 := blk_frozen hR 4
    have HBW := Lib.hid hB
    have HY := Lib.hid hy
    have HR := Lib.hid hR
    clear hN hR hB hy hll
    gi_wp2
    have hs0 := HSO.out
    have hz : Nums W (w.heap.size + 1) 81 [0, 0, 0, 0, 0] := HR.out
    have hn5 : Nums (((((W.setCell ⟨w.heap.size + 1, 0, none⟩ (.int .i64 y0)).setCell ⟨w.heap.size + 1, 1, none⟩ (.int .i64 y1)).setCell ⟨w.heap.size + 1, 2, none⟩ (.int .i64 y2)).setCell ⟨w.heap.size + 1, 3, none⟩ (.int .i64 y3)).setCell ⟨w.heap.size + 1, 4, none⟩ (.int .i64 y4)) (w.heap.size + 1) 81 [y0, y1, y2, y3, y4] := ((((hz.set 0 y0).set 1 y1).set 2 y2).set 3 y3).set 4 y4
    have far : ∀ (V : World) (i : Nat) (v : Value), V.heap[D]? = some (.deferred (some [])) → (V.setCell ⟨w.heap.size + 1, i, none⟩ v).heap[D]? = some (.deferred (some [])) := fun V i v h => (Below.heap_setCell V ⟨w.heap.size + 1, i, none⟩ v D (show D ≠ w.heap.size + 1 by omega)).trans h
    have hK5 := far _ 4 (.int .i64 y4) (far _ 3 (.int .i64 y3) (far _ 2 (.int .i64 y2) (far _ 1 (.int .i64 y1) (far _ 0 (.int .i64 y0) hK))))
    have bel : ∀ (V : World) (i : Nat) (v : Value), Below w.heap.size w V → Below w.heap.size w (V.setCell ⟨w.heap.size + 1, i, none⟩ v) := fun V i v h => h.setCell (p := ⟨w.heap.size + 1, i, none⟩) (by simp) v
    have hb5 := bel _ 4 (.int .i64 y4) (bel _ 3 (.int .i64 y3) (bel _ 2 (.int .i64 y2) (bel _ 1 (.int .i64 y1) (bel _ 0 (.int .i64 y0) (HBB.out.trans HBW.out)))))
    obtain ⟨WF, hWF⟩ : ∃ WF, ((((W.setCell ⟨w.heap.size + 1, 0, none⟩ (.int .i64 y0)).setCell ⟨w.heap.size + 1, 1, none⟩ (.int .i64 y1)).setCell ⟨w.heap.size + 1, 2, none⟩ (.int .i64 y2)).setCell ⟨w.heap.size + 1, 3, none⟩ (.int .i64 y3)).setCell ⟨w.heap.size + 1, 4, none⟩ (.int .i64 y4) = WF := ⟨_, rfl⟩
    rw [hWF] at hn5 hK5 hb5 ⊢
    refine ⟨by simp, .inl ⟨_, _, rfl, run_takeDeferred hK5, ?_⟩⟩
    have hnp : Nums (WF.putObj D (.deferred none)) (w.heap.size + 1) 81 [y0, y1, y2, y3, y4] := (World.putObj_heap_other (by omega)).trans hn5
    have g0 := hnp.cell 0 (by simp)
    have g1 := hnp.cell 1 (by simp)
    have g2 := hnp.cell 2 (by simp)
    have g3 := hnp.cell 3 (by simp)
    have g4 := hnp.cell 4 (by simp)
    simp only [List.getElem?_cons_zero, List.getElem?_cons_succ, Option.getD_some] at g0 g1 g2 g3 g4
    have hbp : Below w.heap.size w (WF.putObj D (.deferred none)) := hb5.grown (grownBy_putObj' WF D _) hb5.size (fun g e => by injection e; omega)
    exact ⟨.agg #[.int .i64 y0, .int .i64 y1, .int .i64 y2, .int .i64 y3, .int .i64 y4], by simp [results, Tryd.results99, go_sem, g0, g1, g2, g3, g4], by rw [HY.out]; rfl, hbp⟩
  case stop =>
    rintro D c pre W _ _ h _
    exact h.elim

end Go.Proofs.YtbiggilheicfjaaDoor
