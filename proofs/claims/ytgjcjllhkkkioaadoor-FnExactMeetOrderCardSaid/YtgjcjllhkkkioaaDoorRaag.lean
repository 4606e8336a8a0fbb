/- It is proved what goOn does where no member is left; conditions: those of each statement. -/
import Derived.RowKit
import Derived.Laws.CopyRow
import Derived.Lib.SlBuf
import Derived.RangeFuncNested
import Derived.RangeFuncBound
import Derived.RangeFuncCalls
import Derived.RangeFuncLeaves
import Derived.RangeFuncBox
import Derived.RangeFuncWrites
import Derived.Test.YtgjcjllhkkkioaaDoorRows
import Derived.WalkKit
import Derived.WalkSpells
import Derived.ProofKit
import Derived.OpenShut
import Derived.ShutString
import Derived.ChangeOld
import Derived.Below
import Derived.Deep.RegionHeld3
import Derived.Deep.QuietTactic
import Derived.BigQuiet
import Derived.Lib.Hide
import Derived.Lib.SmallJoins
import Derived.Outline
import Derived.Laws.MakeOwn
import Derived.Laws.OwnMore
import Derived.IntWalk
import Derived.Shelf.Abstract
import Derived.Shelf.RegionOpen
import Derived.OwnWalkIn
import Derived.TacticsInMore
import Derived.LoopNIn
import Derived.LoopIn
import Derived.Maps.AppendAt
import Derived.Deep.AppendLies
import Derived.OwnWalk
import Derived.Shelf.Spec.TrailingZeros
import Derived.Test.YtgjcjllhkkkioaaDoorRaab
import Derived.Test.YtgjcjllhkkkioaaDoorRaac
import Derived.Test.YtgjcjllhkkkioaaDoorRaad
import Derived.Test.YtgjcjllhkkkioaaDoorRaaa
import Derived.Test.YtgjcjllhkkkioaaDoorRaae
import Derived.Test.YtgjcjllhkkkioaaDoorRaaf
import Derived.StillTailTactics
import Derived.StillTail
import Derived.StillTactics
import Derived.OrdersIn
import Derived.TacticsIn
namespace Go.Proofs.YtgjcjllhkkkioaaDoor
open Go.RowKit Go.Shelf

attribute [local go_sem] Oper.semAt_some

/-- What allNames keeps: what it is to call, the names so far, the function itself. -/
structure OS (By Bp Bg Br l m : Nat) (W : World) (p : List Nat) : Prop where
  y : Boxed W By 55 (.func (.yield l) #[] #[])
  g : Boxed W Bg 62 (.func (.func 70) #[] #[.pointer (some ⟨By, 0, none⟩), .pointer (some ⟨Bp, 0, none⟩), .pointer (some ⟨Bg, 0, none⟩)])
  q : Boxed W Bp 22 (.slice (some ⟨Br, 0, none⟩) p.length m)
  r : ∃ R : List Int, R.length = m ∧ R.take p.length = nI p ∧ Nums W Br 3 R
  t : Tab W

/-- The blocks that may turn. -/
def Xg (Bp Br l b : Nat) : Nat → Prop := fun k => k = l ∨ k = b ∨ k = Bp ∨ k = Br

/-- Where they lie. -/
structure Lies (By Bp Bg Br l b n₁ : Nat) : Prop where
  l1 : 1 < l
  l2 : l < n₁
  b1 : 1 < b
  b2 : b < n₁
  y : n₁ ≤ By
  p : n₁ ≤ Bp
  g : n₁ ≤ Bg
  r : n₁ ≤ Br
  yp : By ≠ Bp
  yr : By ≠ Br
  gp : Bg ≠ Bp
  gr : Bg ≠ Br
  pr : Bp ≠ Br

theorem tab_but {X : Nat → Prop} {W W' : World} (h : Tab W) (hb : But X W W') (hX : ∀ k, X k → 1 < k) : Tab W' :=
  h.below (hb.below (B := 2) h.lt (fun k hk => hX k hk)) (by omega)

theorem OS.but {By Bp Bg Br l m b n₁ : Nat} {W W' : World} {p : List Nat} (h : OS By Bp Bg Br l m W p) (L : Lies By Bp Bg Br l b n₁) (hb : But (fun k => k = l ∨ k = b) W W') : OS By Bp Bg Br l m W' p := by
  have hn : ∀ k, n₁ ≤ k → ¬ (k = l ∨ k = b) := fun k hk => by have := L.l2; have := L.b2; omega
  obtain ⟨R, hR1, hR2, hR3⟩ := h.r
  exact ⟨hb.keep (hn _ L.y) h.y, hb.keep (hn _ L.g) h.g, hb.keep (hn _ L.p) h.q, ⟨R, hR1, hR2, hb.keep (hn _ L.r) hR3⟩, tab_but h.t hb (fun k hk => by have := L.l1; have := L.b1; omega)⟩

theorem OS.alloc {By Bp Bg Br l m : Nat} {W : World} {p : List Nat} (h : OS By Bp Bg Br l m W p) (o : Obj) : OS By Bp Bg Br l m (W.alloc o) p := by
  obtain ⟨R, hR1, hR2, hR3⟩ := h.r
  exact ⟨h.y.alloc _, h.g.alloc _, h.q.alloc _, ⟨R, hR1, hR2, hR3.alloc _⟩, tab_but (X := fun _ => False) h.t (But.alloc _ _) (by simp)⟩

/-- Other blocks are written. -/
theorem OS.far {By Bp Bg Br l m : Nat} {W : World} {p : List Nat} (h : OS By Bp Bg Br l m W p) {B : Nat} (hy : By ≠ B) (hp : Bp ≠ B) (hg : Bg ≠ B) (hr : Br ≠ B) (h1 : 1 < B) (v : Value) : OS By Bp Bg Br l m (W.setCell ⟨B, 0, none⟩ v) p := by
  obtain ⟨R, hR1, hR2, hR3⟩ := h.r
  exact ⟨HasBlk.far h.y (show By ≠ B from hy) v, HasBlk.far h.g (show Bg ≠ B from hg) v, HasBlk.far h.q (show Bp ≠ B from hp) v, ⟨R, hR1, hR2, hR3.far (show Br ≠ B from hr) v⟩, tab_but (X := fun k => k = B) h.t (But.setCell _ _ _ _ (fun _ => rfl)) (fun k e => by omega)⟩

/-- What a round finds of what it is handed. -/
def OkN (m : Nat) (x : Value × List Nat) (W : World) : Prop := (x.2.length = m ∧ ∀ v ∈ x.2, v < m) ∧ ∃ a c, x.1 = .slice a x.2.length c ∧ Ints W W.heap.size a (nI x.2)

theorem OS.ok {By Bp Bg Br l m : Nat} {W : World} {p : List Nat} (h : OS By Bp Bg Br l m W p) (hp : p.length = m) (hv : ∀ v ∈ p, v < m) : OkN m (.slice (some ⟨Br, 0, none⟩) p.length m, p) W := by
  obtain ⟨R, hR1, hR2, hR3⟩ := h.r
  refine ⟨⟨hp, hv⟩, _, _, rfl, .inr ⟨Br, 0, rfl, hR3.lt, fun j hj => ?_⟩⟩
  have hj : j < p.length := by simpa [nI_len] using hj
  rw [Nat.zero_add, hR3.cell j (by omega), ← hR2, List.getElem?_take, if_pos hj]

set_option maxRecDepth 100000 in
set_option maxHeartbeats 2000000 in
theorem goOn0 (By Bp Bg Br l m b n₁ N : Nat) (L : Lies By Bp Bg Br l b n₁) (J : List (Value × List Nat) → World → Prop) (hJ : OwnAll n₁ J)
    (hY : ∀ k pre x W1, J pre W1 → OkN m x W1 → pre.length < N → YieldAt Fence.wide k Tryd.prog l #[x.1] W1 fun e W' => e = .returned (.bool true) ∧ J (pre ++ [x]) W' ∧ But (fun k => k = l ∨ k = b) W1 W')
    (p : List Nat) (hp : p.length = m) (hpv : ∀ v ∈ p, v < m) (pre : List (Value × List Nat)) (hpN : pre.length < N) (W : World) (hn : n₁ ≤ W.heap.size) (h0 : J pre W) (hO : OS By Bp Bg Br l m W p) :
    Calls Tryd.prog 70 #[.int .i64 0, .pointer (some ⟨By, 0, none⟩), .pointer (some ⟨Bp, 0, none⟩), .pointer (some ⟨Bg, 0, none⟩)] W fun e W' => e = .returned (.bool true) ∧
      (∃ xs : List (Value × List Nat), xs.map (·.2) = [p] ∧ J (pre ++ xs) W') ∧ OS By Bp Bg Br l m W' p ∧ But (Xg Bp Br l b) W W' := by
  have hO2 := (hO.alloc (.cells #[.int .i64 0] 59)).alloc (.cells #[.bool false] 4)
  have hJ2 : J pre ((W.alloc (.cells #[.int .i64 0] 59)).alloc (.cells #[.bool false] 4)) := hJ _ _ _ none (hJ _ _ _ none h0 (World.grownBy_alloc _ _ _) (by simp)) (World.grownBy_alloc _ _ _) (by simp)
  have hbt : But (Xg Bp Br l b) W ((W.alloc (.cells #[.int .i64 0] 59)).alloc (.cells #[.bool false] 4)) := (But.alloc _ _).trans (But.alloc _ _)
  have q1 := alloc2_1 W (.cells #[.int .i64 0] 59) (.cells #[.bool false] 4)
  obtain ⟨fn, tmps, assign, body, hy, hR⟩ := hY 5 pre (.slice (some ⟨Br, 0, none⟩) p.length m, p) _ hJ2 (hO2.ok hp hpv) hpN
  dsimp only at hy
  have cy := hO2.y.cell
  have cp := hO2.q.cell
  obtain ⟨k, hk⟩ : ∃ k, k = p.length := ⟨_, rfl⟩
  have HK := Lib.hid hk
  rw [← hk] at hy cp
  have HO2 := Lib.hid hO2
  have HBT := Lib.hid hbt
  have HL := Lib.hid L
  have Q1 := Lib.hid q1
  clear hk hO2 hbt q1 hJ2 hY h0 L
  refine (callsIn_wide (n := 6)).1 ?_
  refine callsIn_of_wp Tryd.func70 rfl trivial ?_ rfl
  simp only [Tryd.ntmps70, List.size_toArray, List.length_cons, List.length_nil, Nat.reduceAdd, Nat.reduceSub, Array.replicate_succ, Array.replicate_zero, List.push_toArray, List.append_toArray, List.nil_append, List.cons_append]
  gi_wp2
  refine hR.mono ?_
  rintro e W3 ⟨rfl, hJ3, hb3⟩
  have q3 : HasBlk W3 (W.heap.size + 1) #[.bool false] 4 := hb3.keep (by have := HL.out.l2; have := HL.out.b2; omega) Q1.out
  have c3 := (blk_cell q3 0).trans (cell1_0 _)
  have f3 := blk_frozen q3 0
  have hs3 := hb3.size
  have hO3 := HO2.out.but HL.out hb3
  have HO3 := Lib.hid (hO3.far (B := W.heap.size + 1) (by have := hO.y.lt; omega) (by have := hO.q.lt; omega) (by have := hO.g.lt; omega) (by obtain ⟨_, _, _, h⟩ := hO.r; have := h.lt; omega) (by have := HL.out.l1; have := HL.out.l2; omega) (.bool true))
  have HB3 := Lib.hid (HBT.out.trans ((hb3.mono (Y := Xg Bp Br l b) (fun k _ e => by unfold Xg; rcases e with h | h <;> simp [h]))))
  have HJ3 := Lib.hid hJ3
  clear hb3 hO3 hJ3 q3
  gi_wp2
  refine bodyPost_ret (v := .bool true) (by simp [results, Tryd.results70, go_sem, c3]) rfl ?_
  refine ⟨rfl, ⟨[(.slice (some ⟨Br, 0, none⟩) k m, p)], rfl, ?_⟩, HO3.out, ?_⟩
  · rw [HK.out]
    exact hJ _ _ _ (some (W.heap.size + 1)) HJ3.out (only_setCell (p := ⟨W.heap.size + 1, 0, none⟩) (World.grownBy.refl _ _) rfl _) (fun r e => by injection e; omega)
  · refine ⟨HB3.out.os, HB3.out.tape, HB3.out.output, by have := HB3.out.size; simpa using this, fun i hi hX => ?_⟩
    exact (Below.heap_setCell W3 ⟨W.heap.size + 1, 0, none⟩ _ i (show i ≠ W.heap.size + 1 by omega)).trans (HB3.out.same i hi hX)

end Go.Proofs.YtgjcjllhkkkioaaDoor

/- It is proved what goOn does; conditions: those of each statement. -/
namespace Go.Proofs.YtgjcjllhkkkioaaDoor
open Go.RowKit Go.Shelf

attribute [local go_sem] Oper.semAt_some

theorem OS.drew {By Bp Bg Br l m : Nat} {W : World} {p : List Nat} (h : OS By Bp Bg Br l m W p) : OS By Bp Bg Br l m W.drew p := ⟨h.y, h.g, h.q, h.r, h.t⟩
theorem OS.grown {By Bp Bg Br l m : Nat} {W W' : World} {p : List Nat} {row : Option Nat} (h : OS By Bp Bg Br l m W p) (hg : W.grownBy W' row) (hr : ∀ r, row = some r → r ≠ By ∧ r ≠ Bp ∧ r ≠ Bg ∧ r ≠ Br ∧ 1 < r) : OS By Bp Bg Br l m W' p := by
  obtain ⟨R, hR1, hR2, hR3⟩ := h.r
  have hb : But (fun k => row = some k) W W' := But.of_grownBy hg (fun r e _ => e)
  exact ⟨hb.keep (fun e => (hr _ e).1 rfl) h.y, hb.keep (fun e => (hr _ e).2.2.1 rfl) h.g, hb.keep (fun e => (hr _ e).2.1 rfl) h.q, ⟨R, hR1, hR2, hb.keep (fun e => (hr _ e).2.2.2.1 rfl) hR3⟩, tab_but h.t hb (fun k e => (hr k e).2.2.2.2)⟩

theorem Lies.x1 {By Bp Bg Br l b n₁ : Nat} (L : Lies By Bp Bg Br l b n₁) : ∀ k, Xg Bp Br l b k → 1 < k := by
  intro k h
  have := L.l1; have := L.l2; have := L.b1; have := L.p; have := L.r
  unfold Xg at h; omega

theorem mem_none (s : Nat) (hs : s < 64) (h : mem s = []) : s = 0 := by
  by_cases h0 : s = 0
  · exact h0
  · rw [mem_cons s hs h0] at h; cases h

/-- A name is put behind the names so far: what that leaves. -/
theorem put_name {By Bp Bg Br l m b n₁ : Nat} (L : Lies By Bp Bg Br l b n₁) {W : World} {p : List Nat} (hO : OS By Bp Bg Br l m W p) (hp : p.length < m) (v : Nat) :
    ∃ E, ((W.alloc (.cells #[.int .i64 (v : Int)] 3)).setCell ⟨Br, p.length, none⟩ (.int .i64 (v : Int))).setCell ⟨Bp, 0, none⟩ (.slice (some ⟨Br, 0, none⟩) (p.length + 1) m) = E ∧ OS By Bp Bg Br l m E (p ++ [v]) ∧ But (Xg Bp Br l b) W E ∧ W.heap.size ≤ E.heap.size := by
  obtain ⟨R, hR1, hR2, hR3⟩ := hO.r
  have hgr := L.gr; have hyr := L.yr; have hyp := L.yp; have hgp := L.gp; have hpr := L.pr
  refine ⟨_, rfl, ⟨?_, ?_, ?_, ⟨R.set p.length (v : Int), by rw [List.length_set, hR1], ?_, ?_⟩, ?_⟩, ?_, by simp⟩
  · exact HasBlk.far (HasBlk.far (HasBlk.alloc hO.y _) (show By ≠ Br from hyr) _) (show By ≠ Bp from hyp) _
  · exact HasBlk.far (HasBlk.far (HasBlk.alloc hO.g _) (show Bg ≠ Br from hgr) _) (show Bg ≠ Bp from hgp) _
  · rw [List.length_append]
    exact (show Boxed _ Bp 22 _ from HasBlk.far (HasBlk.alloc hO.q (.cells #[.int .i64 (v : Int)] 3)) (show Bp ≠ Br from hpr) (.int .i64 (v : Int))).set _
  · rw [List.length_append, List.length_singleton, List.take_succ_eq_append_getElem (by rw [List.length_set]; omega), List.take_set_of_le (Nat.le_refl _), hR2, nI_snoc]
    simp
  · exact ((hR3.alloc _).set p.length (v : Int)).far (show Br ≠ Bp from fun e => hpr e.symm) _
  · exact tab_but (X := Xg Bp Br l b) hO.t (((But.alloc _ _).trans (But.setCell _ _ _ _ (fun _ => .inr (.inr (.inr rfl))))).trans (But.setCell _ _ _ _ (fun _ => .inr (.inr (.inl rfl))))) L.x1
  · exact ((But.alloc _ _).trans (But.setCell _ _ _ _ (fun _ => .inr (.inr (.inr rfl))))).trans (But.setCell _ _ _ _ (fun _ => .inr (.inr (.inl rfl))))

/-- The last name is taken off again. -/
theorem off_name {By Bp Bg Br l m b n₁ : Nat} (L : Lies By Bp Bg Br l b n₁) {W : World} {p : List Nat} {v : Nat} (hO : OS By Bp Bg Br l m W (p ++ [v])) :
    OS By Bp Bg Br l m (W.setCell ⟨Bp, 0, none⟩ (.slice (some ⟨Br, 0, none⟩) p.length m)) p ∧ But (Xg Bp Br l b) W (W.setCell ⟨Bp, 0, none⟩ (.slice (some ⟨Br, 0, none⟩) p.length m)) := by
  obtain ⟨R, hR1, hR2, hR3⟩ := hO.r
  have hgr := L.gr; have hyr := L.yr; have hyp := L.yp; have hgp := L.gp; have hpr := L.pr
  have hbt : But (Xg Bp Br l b) W (W.setCell ⟨Bp, 0, none⟩ (.slice (some ⟨Br, 0, none⟩) p.length m)) := But.setCell _ _ _ _ (fun _ => .inr (.inr (.inl rfl)))
  refine ⟨⟨HasBlk.far hO.y (show By ≠ Bp from hyp) _, HasBlk.far hO.g (show Bg ≠ Bp from hgp) _, hO.q.set _, ⟨R, hR1, ?_, hR3.far (show Br ≠ Bp from fun e => hpr e.symm) _⟩, tab_but hO.t hbt L.x1⟩, hbt⟩
  have := congrArg (List.take p.length) hR2
  rw [List.take_take, nI_snoc, List.length_append, Nat.min_eq_left (by simp)] at this
  rw [this, List.take_left' (nI_len p)]

end Go.Proofs.YtgjcjllhkkkioaaDoor
