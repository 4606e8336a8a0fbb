/- It is proved that what is left of a forest, links left out, is a forest, and that forests fall apart; conditions: those of each statement. -/
import Derived.RowKit
import Derived.Laws.CopyRow
import Derived.Lib.SlBuf
import Derived.Deep.QuietTactic
import Derived.RangeFuncNested
import Derived.RangeFuncBound
import Derived.RangeFuncCalls
import Derived.RangeFuncLeaves
import Derived.RangeFuncBox
import Derived.RangeFuncWrites
import Derived.StillTailTactics
import Derived.Maps.OwnIn
import Derived.Maps.Ext
import Derived.DeepKeys4
import Derived.MapKept
import Derived.Test.YtgpgocijacgkhaaDoorRows
import Derived.WalkKit
import Derived.WalkSpells
import Derived.ProofKit
import Derived.OpenShut
import Derived.ShutString
import Derived.ChangeOld
import Derived.Below
import Derived.Deep.RegionHeld3
import Derived.BigQuiet
import Derived.Lib.Hide
import Derived.Lib.SmallJoins
import Derived.Outline
import Derived.Laws.MakeOwn
import Derived.Laws.OwnMore
import Derived.IntWalk
import Derived.Maps.AppendAt
import Derived.Sort.MapsRangeIn
import Derived.Deep.RegionLaw
import Derived.Deep.AppendLies
import Derived.Lib.AppendZeros
import Derived.OwnWalk
import Derived.Lib.SlicesCompact
import Derived.Lib.OwnBridge
import Derived.OrdersIn
import Derived.TacticsIn
import Derived.Shelf.Sort.Plain
import Derived.Shelf.Slices.In.SortNone
import Derived.Shelf.Slices.CompactI
import Derived.Ground.Names2Prog
import Derived.Lib.SliceRun
import Derived.Shelf.Abstract
import Derived.Shelf.RegionOpen
import Derived.OwnWalkIn
import Derived.TacticsInMore
import Derived.LoopNIn
import Derived.LoopIn
import Derived.StillTail
import Derived.StillTactics
import Derived.Shelf.Spec.TrailingZeros
import Derived.Deep.LoopGhost
import Derived.Test.YtgpgocijacgkhaaDoorRaah
import Derived.Test.YtgpgocijacgkhaaDoorRabdxFnAlik
import Derived.Test.YtgpgocijacgkhaaDoorRaao
import Derived.Test.YtgpgocijacgkhaaDoorRabexFnAlik
import Derived.Test.YtgpgocijacgkhaaDoorRaaa
import Derived.Test.YtgpgocijacgkhaaDoorRaab
import Derived.Test.YtgpgocijacgkhaaDoorRaac
import Derived.Test.YtgpgocijacgkhaaDoorRaae
import Derived.Test.YtgpgocijacgkhaaDoorRaan
import Derived.Test.YtgpgocijacgkhaaDoorRaal
namespace Go.Proofs.YtgpgocijacgkhaaDoor
open Go.RowKit

/-- Each link is a bridge: without it, both its ends are apart. -/
def Br (b : Nat → Nat → Prop) : Prop := ∀ j v, b j v → ∃ CM CJ : Nat → Prop, (∀ j' v', ¬ (j' = j ∧ v' = v) → b j' v' → (CM v' ↔ CJ j')) ∧ ¬ (CM v ↔ CJ j)

theorem Br.mono {b b' : Nat → Nat → Prop} (h : Br b) (f g : Nat → Nat) (hb : ∀ j v, b' j v → b (f j) (g v)) (hi : ∀ j v j' v', b' j v → b' j' v' → f j' = f j → g v' = g v → j' = j ∧ v' = v) : Br b' := fun j v hjv => by
  obtain ⟨CM, CJ, h1, h2⟩ := h (f j) (g v) (hb j v hjv)
  exact ⟨fun v => CM (g v), fun j => CJ (f j), fun j' v' hne hb' => h1 _ _ (fun e => hne (hi j v j' v' hjv hb' e.1 e.2)) (hb j' v' hb'), h2⟩

theorem Br.dual {b : Nat → Nat → Prop} (h : Br b) : Br fun v j => b j v := fun v j hjv => by
  obtain ⟨CM, CJ, h1, h2⟩ := h j v hjv
  exact ⟨CJ, CM, fun j' v' hne hb' => (h1 _ _ (fun e => hne ⟨e.2, e.1⟩) hb').symm, fun e => h2 e.symm⟩

end Go.Proofs.YtgpgocijacgkhaaDoor

/- It is proved what goOn does where no member is left; conditions: those of each statement. -/
namespace Go.Proofs.YtgpgocijacgkhaaDoor
open Go.RowKit Go.Shelf

attribute [local go_sem] Oper.semAt_some

/-- What allNames keeps: what it is to call, the names so far, the function itself. -/
structure OS (By Bp Bg Br l m : Nat) (W : World) (p : List Nat) : Prop where
  y : Boxed W By 121 (.func (.yield l) #[] #[])
  g : Boxed W Bg 84 (.func (.func 107) #[] #[.pointer (some ⟨By, 0, none⟩), .pointer (some ⟨Bp, 0, none⟩), .pointer (some ⟨Bg, 0, none⟩)])
  q : Boxed W Bp 23 (.slice (some ⟨Br, 0, none⟩) p.length m)
  r : ∃ R : List Int, R.length = m ∧ R.take p.length = nI p ∧ Nums W Br 3 R
  t : Tab W

/-- The blocks that may turn. -/
def Xg (Bp Br l b : Nat) : Nat → Prop := fun k => k = l ∨ k = b ∨ k = Bp ∨ k = Br

/-- Where they lie. -/
structure Lies (By Bp Bg Br l b n₁ : Nat) : Prop where
  l1 : 1 < l
  l2 : l < n₁
  b1 : 1 < b
  b2 : b < n₁
  y : n₁ ≤ By
  p : n₁ ≤ Bp
  g : n₁ ≤ Bg
  r : n₁ ≤ Br
  yp : By ≠ Bp
  yr : By ≠ Br
  gp : Bg ≠ Bp
  gr : Bg ≠ Br
  pr : Bp ≠ Br

theorem tab_but {X : Nat → Prop} {W W' : World} (h : Tab W) (hb : But X W W') (hX : ∀ k, X k → 1 < k) : Tab W' :=
  h.below (hb.below (B := 2) h.lt (fun k hk => hX k hk)) (by omega)

theorem OS.but {By Bp Bg Br l m b n₁ : Nat} {W W' : World} {p : List Nat} (h : OS By Bp Bg Br l m W p) (L : Lies By Bp Bg Br l b n₁) (hb : But (fun k => k = l ∨ k = b) W W') : OS By Bp Bg Br l m W' p := by
  have hn : ∀ k, n₁ ≤ k → ¬ (k = l ∨ k = b) := fun k hk => by have := L.l2; have := L.b2; omega
  obtain ⟨R, hR1, hR2, hR3⟩ := h.r
  exact ⟨hb.keep (hn _ L.y) h.y, hb.keep (hn _ L.g) h.g, hb.keep (hn _ L.p) h.q, ⟨R, hR1, hR2, hb.keep (hn _ L.r) hR3⟩, tab_but h.t hb (fun k hk => by have := L.l1; have := L.b1; omega)⟩

theorem OS.alloc {By Bp Bg Br l m : Nat} {W : World} {p : List Nat} (h : OS By Bp Bg Br l m W p) (o : Obj) : OS By Bp Bg Br l m (W.alloc o) p := by
  obtain ⟨R, hR1, hR2, hR3⟩ := h.r
  exact ⟨h.y.alloc _, h.g.alloc _, h.q.alloc _, ⟨R, hR1, hR2, hR3.alloc _⟩, tab_but (X := fun _ => False) h.t (But.alloc _ _) (by simp)⟩

/-- Other blocks are written. -/
theorem OS.far {By Bp Bg Br l m : Nat} {W : World} {p : List Nat} (h : OS By Bp Bg Br l m W p) {B : Nat} (hy : By ≠ B) (hp : Bp ≠ B) (hg : Bg ≠ B) (hr : Br ≠ B) (h1 : 1 < B) (v : Value) : OS By Bp Bg Br l m (W.setCell ⟨B, 0, none⟩ v) p := by
  obtain ⟨R, hR1, hR2, hR3⟩ := h.r
  exact ⟨HasBlk.far h.y (show By ≠ B from hy) v, HasBlk.far h.g (show Bg ≠ B from hg) v, HasBlk.far h.q (show Bp ≠ B from hp) v, ⟨R, hR1, hR2, hR3.far (show Br ≠ B from hr) v⟩, tab_but (X := fun k => k = B) h.t (But.setCell _ _ _ _ (fun _ => rfl)) (fun k e => by omega)⟩

/-- What a round finds of what it is handed. -/
def OkN (m : Nat) (x : Value × List Nat) (W : World) : Prop := (x.2.length = m ∧ ∀ v ∈ x.2, v < m) ∧ ∃ a c, x.1 = .slice a x.2.length c ∧ Ints W W.heap.size a (nI x.2)

theorem OS.ok {By Bp Bg Br l m : Nat} {W : World} {p : List Nat} (h : OS By Bp Bg Br l m W p) (hp : p.length = m) (hv : ∀ v ∈ p, v < m) : OkN m (.slice (some ⟨Br, 0, none⟩) p.length m, p) W := by
  obtain ⟨R, hR1, hR2, hR3⟩ := h.r
  refine ⟨⟨hp, hv⟩, _, _, rfl, .inr ⟨Br, 0, rfl, hR3.lt, fun j hj => ?_⟩⟩
  have hj : j < p.length := by simpa [nI_len] using hj
  rw [Nat.zero_add, hR3.cell j (by omega), ← hR2, List.getElem?_take, if_pos hj]

set_option maxRecDepth 100000 in
set_option maxHeartbeats 2000000 in
theorem goOn0 (By Bp Bg Br l m b n₁ N : Nat) (L : Lies By Bp Bg Br l b n₁) (J : List (Value × List Nat) → World → Prop) (hJ : OwnAll n₁ J)
    (hY : ∀ k pre x W1, J pre W1 → OkN m x W1 → pre.length < N → YieldAt Fence.wide k Tryd.prog l #[x.1] W1 fun e W' => e = .returned (.bool true) ∧ J (pre ++ [x]) W' ∧ But (fun k => k = l ∨ k = b) W1 W')
    (p : List Nat) (hp : p.length = m) (hpv : ∀ v ∈ p, v < m) (pre : List (Value × List Nat)) (hpN : pre.length < N) (W : World) (hn : n₁ ≤ W.heap.size) (h0 : J pre W) (hO : OS By Bp Bg Br l m W p) :
    Calls Tryd.prog 107 #[.int .i64 0, .pointer (some ⟨By, 0, none⟩), .pointer (some ⟨Bp, 0, none⟩), .pointer (some ⟨Bg, 0, none⟩)] W fun e W' => e = .returned (.bool true) ∧
      (∃ xs : List (Value × List Nat), xs.map (·.2) = [p] ∧ J (pre ++ xs) W') ∧ OS By Bp Bg Br l m W' p ∧ But (Xg Bp Br l b) W W' := by
  have hO2 := (hO.alloc (.cells #[.int .i64 0] 54)).alloc (.cells #[.bool false] 4)
  have hJ2 : J pre ((W.alloc (.cells #[.int .i64 0] 54)).alloc (.cells #[.bool false] 4)) := hJ _ _ _ none (hJ _ _ _ none h0 (World.grownBy_alloc _ _ _) (by simp)) (World.grownBy_alloc _ _ _) (by simp)
  have hbt : But (Xg Bp Br l b) W ((W.alloc (.cells #[.int .i64 0] 54)).alloc (.cells #[.bool false] 4)) := (But.alloc _ _).trans (But.alloc _ _)
  have q1 := alloc2_1 W (.cells #[.int .i64 0] 54) (.cells #[.bool false] 4)
  obtain ⟨fn, tmps, assign, body, hy, hR⟩ := hY 5 pre (.slice (some ⟨Br, 0, none⟩) p.length m, p) _ hJ2 (hO2.ok hp hpv) hpN
  dsimp only at hy
  have cy := hO2.y.cell
  have cp := hO2.q.cell
  obtain ⟨k, hk⟩ : ∃ k, k = p.length := ⟨_, rfl⟩
  have HK := Lib.hid hk
  rw [← hk] at hy cp
  have HO2 := Lib.hid hO2
  have HBT := Lib.hid hbt
  have HL := Lib.hid L
  have Q1 := Lib.hid q1
  clear hk hO2 hbt q1 hJ2 hY h0 L
  refine (callsIn_wide (n := 6)).1 ?_
  refine callsIn_of_wp Tryd.func107 rfl trivial ?_ rfl
  simp only [Tryd.ntmps107, List.size_toArray, List.length_cons, List.length_nil, Nat.reduceAdd, Nat.reduceSub, Array.replicate_succ, Array.replicate_zero, List.push_toArray, List.append_toArray, List.nil_append, List.cons_append]
  gi_wp2
  refine hR.mono ?_
  rintro e W3 ⟨rfl, hJ3, hb3⟩
  have q3 : HasBlk W3 (W.heap.size + 1) #[.bool false] 4 := hb3.keep (by have := HL.out.l2; have := HL.out.b2; omega) Q1.out
  have c3 := (blk_cell q3 0).trans (cell1_0 _)
  have f3 := blk_frozen q3 0
  have hs3 := hb3.size
  have hO3 := HO2.out.but HL.out hb3
  have HO3 := Lib.hid (hO3.far (B := W.heap.size + 1) (by have := hO.y.lt; omega) (by have := hO.q.lt; omega) (by have := hO.g.lt; omega) (by obtain ⟨_, _, _, h⟩ := hO.r; have := h.lt; omega) (by have := HL.out.l1; have := HL.out.l2; omega) (.bool true))
  have HB3 := Lib.hid (HBT.out.trans ((hb3.mono (Y := Xg Bp Br l b) (fun k _ e => by unfold Xg; rcases e with h | h <;> simp [h]))))
  have HJ3 := Lib.hid hJ3
  clear hb3 hO3 hJ3 q3
  gi_wp2
  refine bodyPost_ret (v := .bool true) (by simp [results, Tryd.results107, go_sem, c3]) rfl ?_
  refine ⟨rfl, ⟨[(.slice (some ⟨Br, 0, none⟩) k m, p)], rfl, ?_⟩, HO3.out, ?_⟩
  · rw [HK.out]
    exact hJ _ _ _ (some (W.heap.size + 1)) HJ3.out (only_setCell (p := ⟨W.heap.size + 1, 0, none⟩) (World.grownBy.refl _ _) rfl _) (fun r e => by injection e; omega)
  · refine ⟨HB3.out.os, HB3.out.tape, HB3.out.output, by have := HB3.out.size; simpa using this, fun i hi hX => ?_⟩
    exact (Below.heap_setCell W3 ⟨W.heap.size + 1, 0, none⟩ _ i (show i ≠ W.heap.size + 1 by omega)).trans (HB3.out.same i hi hX)

end Go.Proofs.YtgpgocijacgkhaaDoor

/- It is proved what goOn does; conditions: those of each statement. -/
namespace Go.Proofs.YtgpgocijacgkhaaDoor
open Go.RowKit Go.Shelf

attribute [local go_sem] Oper.semAt_some

theorem OS.drew {By Bp Bg Br l m : Nat} {W : World} {p : List Nat} (h : OS By Bp Bg Br l m W p) : OS By Bp Bg Br l m W.drew p := ⟨h.y, h.g, h.q, h.r, h.t⟩
theorem OS.grown {By Bp Bg Br l m : Nat} {W W' : World} {p : List Nat} {row : Option Nat} (h : OS By Bp Bg Br l m W p) (hg : W.grownBy W' row) (hr : ∀ r, row = some r → r ≠ By ∧ r ≠ Bp ∧ r ≠ Bg ∧ r ≠ Br ∧ 1 < r) : OS By Bp Bg Br l m W' p := by
  obtain ⟨R, hR1, hR2, hR3⟩ := h.r
  have hb : But (fun k => row = some k) W W' := But.of_grownBy hg (fun r e _ => e)
  exact ⟨hb.keep (fun e => (hr _ e).1 rfl) h.y, hb.keep (fun e => (hr _ e).2.2.1 rfl) h.g, hb.keep (fun e => (hr _ e).2.1 rfl) h.q, ⟨R, hR1, hR2, hb.keep (fun e => (hr _ e).2.2.2.1 rfl) hR3⟩, tab_but h.t hb (fun k e => (hr k e).2.2.2.2)⟩

theorem Lies.x1 {By Bp Bg Br l b n₁ : Nat} (L : Lies By Bp Bg Br l b n₁) : ∀ k, Xg Bp Br l b k → 1 < k := by
  intro k h
  have := L.l1; have := L.l2; have := L.b1; have := L.p; have := L.r
  unfold Xg at h; omega

theorem mem_none (s : Nat) (hs : s < 64) (h : mem s = []) : s = 0 := by
  by_cases h0 : s = 0
  · exact h0
  · rw [mem_cons s hs h0] at h; cases h

/-- A name is put behind the names so far: what that leaves. -/
theorem put_name {By Bp Bg Br l m b n₁ : Nat} (L : Lies By Bp Bg Br l b n₁) {W : World} {p : List Nat} (hO : OS By Bp Bg Br l m W p) (hp : p.length < m) (v : Nat) :
    ∃ E, ((W.alloc (.cells #[.int .i64 (v : Int)] 3)).setCell ⟨Br, p.length, none⟩ (.int .i64 (v : Int))).setCell ⟨Bp, 0, none⟩ (.slice (some ⟨Br, 0, none⟩) (p.length + 1) m) = E ∧ OS By Bp Bg Br l m E (p ++ [v]) ∧ But (Xg Bp Br l b) W E ∧ W.heap.size ≤ E.heap.size := by
  obtain ⟨R, hR1, hR2, hR3⟩ := hO.r
  have hgr := L.gr; have hyr := L.yr; have hyp := L.yp; have hgp := L.gp; have hpr := L.pr
  refine ⟨_, rfl, ⟨?_, ?_, ?_, ⟨R.set p.length (v : Int), by rw [List.length_set, hR1], ?_, ?_⟩, ?_⟩, ?_, by simp⟩
  · exact HasBlk.far (HasBlk.far (HasBlk.alloc hO.y _) (show By ≠ Br from hyr) _) (show By ≠ Bp from hyp) _
  · exact HasBlk.far (HasBlk.far (HasBlk.alloc hO.g _) (show Bg ≠ Br from hgr) _) (show Bg ≠ Bp from hgp) _
  · rw [List.length_append]
    exact (show Boxed _ Bp 23 _ from HasBlk.far (HasBlk.alloc hO.q (.cells #[.int .i64 (v : Int)] 3)) (show Bp ≠ Br from hpr) (.int .i64 (v : Int))).set _
  · rw [List.length_append, List.length_singleton, List.take_succ_eq_append_getElem (by rw [List.length_set]; omega), List.take_set_of_le (Nat.le_refl _), hR2, nI_snoc]
    simp
  · exact ((hR3.alloc _).set p.length (v : Int)).far (show Br ≠ Bp from fun e => hpr e.symm) _
  · exact tab_but (X := Xg Bp Br l b) hO.t (((But.alloc _ _).trans (But.setCell _ _ _ _ (fun _ => .inr (.inr (.inr rfl))))).trans (But.setCell _ _ _ _ (fun _ => .inr (.inr (.inl rfl))))) L.x1
  · exact ((But.alloc _ _).trans (But.setCell _ _ _ _ (fun _ => .inr (.inr (.inr rfl))))).trans (But.setCell _ _ _ _ (fun _ => .inr (.inr (.inl rfl))))

/-- The last name is taken off again. -/
theorem off_name {By Bp Bg Br l m b n₁ : Nat} (L : Lies By Bp Bg Br l b n₁) {W : World} {p : List Nat} {v : Nat} (hO : OS By Bp Bg Br l m W (p ++ [v])) :
    OS By Bp Bg Br l m (W.setCell ⟨Bp, 0, none⟩ (.slice (some ⟨Br, 0, none⟩) p.length m)) p ∧ But (Xg Bp Br l b) W (W.setCell ⟨Bp, 0, none⟩ (.slice (some ⟨Br, 0, none⟩) p.length m)) := by
  obtain ⟨R, hR1, hR2, hR3⟩ := hO.r
  have hgr := L.gr; have hyr := L.yr; have hyp := L.yp; have hgp := L.gp; have hpr := L.pr
  have hbt : But (Xg Bp Br l b) W (W.setCell ⟨Bp, 0, none⟩ (.slice (some ⟨Br, 0, none⟩) p.length m)) := But.setCell _ _ _ _ (fun _ => .inr (.inr (.inl rfl)))
  refine ⟨⟨HasBlk.far hO.y (show By ≠ Bp from hyp) _, HasBlk.far hO.g (show Bg ≠ Bp from hgp) _, hO.q.set _, ⟨R, hR1, ?_, hR3.far (show Br ≠ Bp from fun e => hpr e.symm) _⟩, tab_but hO.t hbt L.x1⟩, hbt⟩
  have := congrArg (List.take p.length) hR2
  rw [List.take_take, nI_snoc, List.length_append, Nat.min_eq_left (by simp)] at this
  rw [this, List.take_left' (nI_len p)]

end Go.Proofs.YtgpgocijacgkhaaDoor

/- It is proved what without returns; conditions: those of each statement. -/
namespace Go.Proofs.YtgpgocijacgkhaaDoor
open Go.RowKit Go.Shelf

/-- A set without a member. -/
def woP (s v : Nat) : Nat := s &&& (63 - 2 ^ v)

set_option maxRecDepth 100000 in
theorem wo_fin : ∀ x : Fin 64, ∀ p : Fin 6, bits BinOp.andNot IntKind.i64 (x.val : Int) (2 ^ p.val) = ((woP x.val p.val : Nat) : Int) := by decide +kernel

theorem wo_at (x p : Nat) (hx : x < 64) (hp : p < 6) : bits BinOp.andNot IntKind.i64 (x : Int) (2 ^ p) = ((woP x p : Nat) : Int) := wo_fin ⟨x, hx⟩ ⟨p, hp⟩
set_option maxRecDepth 100000 in
theorem wo_mem_fin : ∀ x : Fin 64, ∀ p : Fin 6, mem (woP x.val p.val) = (mem x.val).erase p.val := by decide +kernel

theorem wo_mem (x p : Nat) (hx : x < 64) (hp : p < 6) : mem (woP x p) = (mem x).erase p := wo_mem_fin ⟨x, hx⟩ ⟨p, hp⟩
theorem wo_le (x p : Nat) : woP x p ≤ x := Nat.and_le_left
theorem without_any (x p : Nat) (hx : x < 64) (hp : p < 6) (w : World) :
    Calls Tryd.prog 108 #[.int .i64 (x : Int), .int .i64 (p : Int)] w fun e w' => e = .returned (.int .i64 ((woP x p : Nat) : Int)) ∧ w = w' := by
  have hp8 : (p : Int) < 8 := by omega
  obtain ⟨h1, h2⟩ := p2_small p (by omega)
  have HO := Lib.hid (wo_at x p hx hp)
  go_enter Tryd.func108, Tryd.ntmps108
  go_wp2
  go_ret
  exact ⟨by rw [HO.out]; rfl, rfl⟩

end Go.Proofs.YtgpgocijacgkhaaDoor

/- It is proved what goOn does; conditions: those of each statement. -/
namespace Go.Proofs.YtgpgocijacgkhaaDoor
open Go.RowKit Go.Shelf

attribute [local go_sem] Oper.semAt_some

set_option maxRecDepth 100000 in
set_option maxHeartbeats 8000000 in
theorem goOn_any (By Bp Bg Br l m b n₁ N : Nat) (hm : m ≤ 6) (L : Lies By Bp Bg Br l b n₁) (J : List (Value × List Nat) → World → Prop) (hJ : OwnAll n₁ J)
    (hY : ∀ k pre x W1, J pre W1 → OkN m x W1 → pre.length < N → YieldAt Fence.wide k Tryd.prog l #[x.1] W1 fun e W' => e = .returned (.bool true) ∧ J (pre ++ [x]) W' ∧ But (fun k => k = l ∨ k = b) W1 W') :
    ∀ (k s : Nat), s < 64 → (mem s).length = k → (∀ v ∈ mem s, v < m) → ∀ (p : List Nat) (pre : List (Value × List Nat)) (W : World), p.length + k = m → (∀ v ∈ p, v < m) → pre.length + 6 ^ k ≤ N → n₁ ≤ W.heap.size → J pre W → OS By Bp Bg Br l m W p →
    Calls Tryd.prog 107 #[.int .i64 (s : Int), .pointer (some ⟨By, 0, none⟩), .pointer (some ⟨Bp, 0, none⟩), .pointer (some ⟨Bg, 0, none⟩)] W fun e W' => e = .returned (.bool true) ∧
      (∃ xs : List (Value × List Nat), xs.map (·.2) = (permsL k (mem s)).map (p ++ ·) ∧ J (pre ++ xs) W') ∧ OS By Bp Bg Br l m W' p ∧ But (Xg Bp Br l b) W W'
  | 0, s, hs, hk, hsm, p, pre, W, hp, hpv, hN, hn, h0, hO => by
    obtain rfl : s = 0 := mem_none s hs (List.eq_nil_of_length_eq_zero hk)
    refine (goOn0 By Bp Bg Br l m b n₁ N L J hJ hY p (by omega) hpv pre (by simp at hN; omega) W hn h0 hO).mono ?_
    rintro e W' ⟨rfl, ⟨xs, hxs, hj⟩, hO', hb⟩
    exact ⟨rfl, ⟨xs, by rw [hxs]; simp [permsL], hj⟩, hO', hb⟩
  | k + 1, s, hs, hk, hsm, p, pre, W, hp, hpv, hN, hn, h0, hO => by
    have hs0 : ((s : Int) == 0) = false := by
      have : s ≠ 0 := fun e => by subst e; rw [mem_zero] at hk; cases hk
      simp; omega
    have hmx : Tryd.prog.follows .mixedOrders = true := by kernel_rfl
    have h16 : 1 ≤ 6 := by omega
    have hus : (mem s).length ≤ 6 := by omega
    have hO3 := ((hO.alloc (.cells #[.int .i64 (s : Int)] 54)).alloc (.cells #[.bool false] 4)).alloc (.cells #[.int .i64 (s : Int)] 54)
    have hJ3 : J pre (((W.alloc (.cells #[.int .i64 (s : Int)] 54)).alloc (.cells #[.bool false] 4)).alloc (.cells #[.int .i64 (s : Int)] 54)) :=
      hJ _ _ _ none (hJ _ _ _ none (hJ _ _ _ none h0 (World.grownBy_alloc _ _ _) (by simp)) (World.grownBy_alloc _ _ _) (by simp)) (World.grownBy_alloc _ _ _) (by simp)
    have q0 := alloc3_0 W (.cells #[.int .i64 (s : Int)] 54) (.cells #[.bool false] 4) (.cells #[.int .i64 (s : Int)] 54)
    have q1 := alloc3_1 W (.cells #[.int .i64 (s : Int)] 54) (.cells #[.bool false] 4) (.cells #[.int .i64 (s : Int)] 54)
    have q2 := alloc3_2 W (.cells #[.int .i64 (s : Int)] 54) (.cells #[.bool false] 4) (.cells #[.int .i64 (s : Int)] 54)
    have hbt : But (Xg Bp Br l b) W (((W.alloc (.cells #[.int .i64 (s : Int)] 54)).alloc (.cells #[.bool false] 4)).alloc (.cells #[.int .i64 (s : Int)] 54)) := ((But.alloc _ _).trans (But.alloc _ _)).trans (But.alloc _ _)
    have hlt4 : By < W.heap.size ∧ Bp < W.heap.size ∧ Bg < W.heap.size ∧ Br < W.heap.size := ⟨hO.y.lt, hO.q.lt, hO.g.lt, by obtain ⟨_, _, _, h⟩ := hO.r; exact h.lt⟩
    have hx1 : ∀ i, Xg Bp Br l b i → i < W.heap.size := by intro i h; have := L.l2; have := L.b2; unfold Xg at h; omega
    have IH := goOn_any By Bp Bg Br l m b n₁ N hm L J hJ hY k
    clear h0 hO hY
    refine (callsIn_wide (n := 6)).1 ?_
    refine callsIn_of_wp_marks Tryd.func107 rfl trivial ?_ rfl
    simp only [Tryd.ntmps107, List.size_toArray, List.length_cons, List.length_nil, Nat.reduceAdd, Nat.reduceSub, Array.replicate_succ, Array.replicate_zero, List.push_toArray, List.append_toArray, List.nil_append, List.cons_append]
    gi_wp2_with (refine ⟨trivial, ?_⟩; gi_at_call 46; refine (callsIn_wide.2 (members_any _ _)).mono ?_; rintro e w' ⟨rfl, rfl⟩)
    obtain ⟨W0, hW0⟩ : ∃ W0, ((W.alloc (.cells #[.int .i64 (s : Int)] 54)).alloc (.cells #[.bool false] 4)).alloc (.cells #[.int .i64 (s : Int)] 54) = W0 := ⟨_, rfl⟩
    have hso : W0.heap.size = W.heap.size + 1 + 1 + 1 := by rw [← hW0]; simp
    rw [hW0] at hO3 hJ3 q0 q1 q2 hbt ⊢
    have Q0 : Hid (HasBlk W0 W.heap.size #[.int .i64 (s : Int)] 54) := Lib.hid q0
    have Q1 : Hid (HasBlk W0 (W.heap.size + 1) #[.bool false] 4) := Lib.hid q1
    have HJ3 := Lib.hid hJ3
    have HO3 := Lib.hid hO3
    have HSO := Lib.hid hso
    have HBT := Lib.hid hbt
    have HXl := Lib.hid hx1
    have hst := membersS_stops (6 - 1) (by omega) (W.heap.size + 1 + 1) 2 s hs W0 (by omega) (by have := L.l1; have := L.l2; omega) (by omega) ((blk_cell q2 0).trans (cell1_0 _)) hO3.t
    clear hW0 q0 q1 q2 hJ3 hO3 hbt hso hx1
    refine wpIn_rangeFunc_ownG rfl h16 (gf := 78) (lb := #[.pointer (some ⟨W.heap.size + 1 + 1, 0, none⟩)]) rfl trivial (enters_of Tryd.func78 (by kernel_rfl) rfl)
      hst belowK_t (belowK_b (by have := HSO.out; omega)) (Below.refl _ _) (fun _ => rfl)
      (fun ys Wr => (∃ xs : List (Value × List Nat), xs.map (·.2) = (partL k (mem s) (valsS ys)).map (p ++ ·) ∧ J (pre ++ xs) Wr) ∧ OS By Bp Bg Br l m Wr p ∧ But (Xg Bp Br l b) W0 Wr)
      (fun _ _ _ => False)
      ?own
      (fun _ _ _ _ _ hs _ _ => hs)
      ⟨⟨[], rfl, by rw [List.append_nil]; exact HJ3.out⟩, HO3.out, But.refl _ _⟩
      (fun x => { tmps := #[.int .i64 (s : Int), .pointer (some ⟨By, 0, none⟩), .pointer (some ⟨Bp, 0, none⟩), .pointer (some ⟨Bg, 0, none⟩), .pointer (some ⟨W.heap.size, 0, none⟩), .pointer (some ⟨W.heap.size + 1, 0, none⟩), .int .i64 (x.1 : Int), .int .i64 (s : Int), .bool false, undef, undef, undef, .int .i64 (s : Int), .func (.func 78) #[] #[.pointer (some ⟨W.heap.size + 1 + 1, 0, none⟩)], .int .i64 (x.1 : Int), undef, undef, undef, undef, undef, undef, undef, undef, undef, undef, undef, undef, undef, undef, undef], defers := [] }) ?assign ?body ?done ?stop
    case own =>
      rintro ys A B row ⟨⟨xs, hxs, hj⟩, hO, hb⟩ hg hr
      have hr' : ∀ r, row = some r → W0.heap.size ≤ r := fun r e => (hr r e).1
      have hs0 := HSO.out
      refine ⟨⟨xs, hxs, hJ _ _ _ row hj hg (fun r e => by have := hr' r e; omega)⟩, hO.grown hg (fun r e => by have := hr' r e; have := L.l1; have := L.l2; omega), ?_⟩
      exact ⟨hg.os.trans hb.os, hg.tape.trans hb.tape, hg.output.trans hb.output, Nat.le_trans hb.size hg.size, fun i hi hX => (hg.block i (Nat.lt_of_lt_of_le hi hb.size) (fun e => by have := hr' i e.symm; omega)).trans (hb.same i hi hX)⟩
    case assign =>
      intro l1 x Wr K hK
      gi_wp2
      exact hK
    case body =>
      rintro l1 ys x Wr ⟨⟨xs, hxs, hj⟩, hO, hb⟩ hlt
      obtain ⟨v, hv⟩ := x
      have hv6 : v < 6 := by
        have := (mem_mem s v).1 hv
        omega
      have hpm : p.length < m := by omega
      obtain ⟨E, hE, hOE, hbE, hsE⟩ := put_name L hO hpm v
      have hgE : J (pre ++ xs) E := by
        rw [← hE]
        have a0 := hJ _ _ _ none hj (World.grownBy_alloc _ (.cells #[.int .i64 (v : Int)] 3) none) (by simp)
        have a1 := hJ _ _ _ (some Br) a0 (only_setCell (p := ⟨Br, p.length, none⟩) (World.grownBy.refl _ _) rfl (.int .i64 (v : Int))) (fun r e => by injection e with e; rw [← e]; exact L.r)
        exact hJ _ _ _ (some Bp) a1 (only_setCell (p := ⟨Bp, 0, none⟩) (World.grownBy.refl _ _) rfl (.slice (some ⟨Br, 0, none⟩) (p.length + 1) m)) (fun r e => by injection e with e; rw [← e]; exact L.p)
      have cp := hO.q.cell
      have fp := (hO.q.alloc (.cells #[.int .i64 (v : Int)] 3)).frozen
      have cp' := (hO.q.alloc (.cells #[.int .i64 (v : Int)] 3)).cell
      have hprne : ¬ (Bp = Br) := L.pr
      obtain ⟨R, hR1, hR2, hR3⟩ := hO.r
      have cr := hR3.cell p.length (by omega)
      have fr := (hR3.alloc (.cells #[.int .i64 (v : Int)] 3)).frozen p.length
      have cr' := (hR3.alloc (.cells #[.int .i64 (v : Int)] 3)).cell p.length (by omega)
      have cl0 := (blk_cell (show HasBlk Wr W.heap.size #[.int .i64 (s : Int)] 54 from hb.keep (fun e => by have := HXl.out _ e; omega) Q0.out) 0).trans (cell1_0 _)
      have clE := (blk_cell (show HasBlk E W.heap.size #[.int .i64 (s : Int)] 54 from hbE.keep (fun e => by have := HXl.out _ e; omega) (hb.keep (fun e => by have := HXl.out _ e; omega) Q0.out)) 0).trans (cell1_0 _)
      have cgE := hOE.g.cell
      have hxl : xs.length ≤ ys.length * 6 ^ k := by
        have h1 := congrArg List.length hxs
        rw [List.length_map, List.length_map] at h1
        have h2 := partL_count k (mem s) (valsS ys) hus
        rw [show (valsS ys).length = ys.length from by simp [valsS]] at h2
        omega
      have hpn : (pre ++ xs).length + 6 ^ k ≤ N := by
        rw [List.length_append]
        have h1 : ys.length * 6 ^ k + 6 ^ k ≤ 6 * 6 ^ k := by
          rw [← Nat.succ_mul]; exact Nat.mul_le_mul_right _ hlt
        rw [Nat.pow_succ, Nat.mul_comm (6 ^ k) 6] at hN
        omega
      have hwm : mem (woP s v) = (mem s).erase v := wo_mem s v hs hv6
      have IHc := IH (woP s v) (by have := wo_le s v; omega) (by rw [hwm, List.length_erase_of_mem hv]; omega) (fun u hu => hsm u (List.mem_of_mem_erase (by rw [hwm] at hu; exact hu))) (p ++ [v]) (pre ++ xs) E.drew (by simp; omega) (fun u hu => by rcases List.mem_append.1 hu with h | h; exact hpv u h; simp at h; rw [h]; exact hsm v hv) hpn (show n₁ ≤ E.heap.size by have := HSO.out; have := hb.size; omega) (hJ _ _ _ none hgE ⟨rfl, rfl, rfl, Nat.le_refl _, fun _ _ _ => rfl⟩ (by simp)) hOE.drew
      rw [hwm] at IHc
      obtain ⟨pl, hpl⟩ : ∃ pl, pl = p.length := ⟨_, rfl⟩
      have HPL := Lib.hid hpl
      have hplm : pl < m := by omega
      have hplI : (pl : Int) < (m : Int) := by omega
      have HO := Lib.hid hO
      have HB := Lib.hid hb
      have HXS := Lib.hid hxs
      have HBE := Lib.hid hbE
      have HW1 : Hid (∀ (W4 : World), OS By Bp Bg Br l m W4 (p ++ [v]) → OS By Bp Bg Br l m (W4.setCell ⟨Bp, 0, none⟩ (.slice (some ⟨Br, 0, none⟩) pl m)) p ∧ But (Xg Bp Br l b) W4 (W4.setCell ⟨Bp, 0, none⟩ (.slice (some ⟨Br, 0, none⟩) pl m))) := Lib.hid (fun W4 h => by rw [hpl]; exact off_name L h)
      rw [← hpl] at hE cp cr fr cr' cp'
      clear hO hb hxs hbE hR1 hR2 hR3 hj hgE hOE hxl hpn hwm hpl hpm hp
      gi_wp2
      refine wpIn_region_still_tail_o (Fence.Open.wide.inRound l1) 4 hmx (by kernel_rfl) (by kernel_rfl) ?_
      simp only [List.take_succ_cons, List.take_zero, List.drop_succ_cons, List.drop_zero]
      repeat still_step
      still_call ((without_any s v hs hv6 _).mono fun _ _ h => ⟨h.1, h.2.symm⟩)
      repeat still_step
      refine wpStill_nil ?_
      change wpListIn _ _ _ _ _ _ _ E.drew
      gi_wp2_with (refine ⟨trivial, ?_⟩; gi_at_call 107; refine (CallsIn.inRound l1 (callsIn_wide.2 IHc)).mono ?_; rintro e W4 ⟨rfl, ⟨xs2, hxs2, hj2⟩, hO4, hb4⟩; have c4 := hO4.q.cell; have f4 := hO4.q.frozen; rw [show (p ++ [v]).length = pl + 1 from by rw [List.length_append, HPL.out]; rfl] at c4; have HJ2 := Lib.hid hj2; have HO4 := Lib.hid hO4; have HB4 := Lib.hid hb4; have HXS2 := Lib.hid hxs2; clear hj2 hO4 hb4 hxs2)
      obtain ⟨hO5, hb5⟩ := HW1.out W4 HO4.out
      have hbt5 := (HBE.out.trans (But.drew E)).trans (HB4.out.trans hb5)
      have hs0 := HSO.out
      refine ⟨hbt5.from (fun i o hB hi hX => by have := HXl.out i hX; omega), hbt5.below (B := 2) (by have := HB.out.size; omega) (fun i hX => L.x1 i hX), ⟨xs ++ xs2, ?_, ?_⟩, hO5, HB.out.trans hbt5⟩
      · rw [valsS_snoc, partL_snoc, List.map_append, List.map_append, HXS.out, HXS2.out, List.map_map]
        congr 1
        apply List.map_congr_left
        intro z _
        simp
      · rw [← List.append_assoc]
        exact hJ _ _ _ (some Bp) HJ2.out (only_setCell (p := ⟨Bp, 0, none⟩) (World.grownBy.refl _ _) rfl _) (fun r e => by injection e with e; rw [← e]; exact L.p)
    case done =>
      rintro D ys Wr hD hys ⟨⟨xs, hxs, hj⟩, hO, hb⟩ hK
      rw [hys] at hxs
      have qr : HasBlk Wr (W.heap.size + 1) #[.bool false] 4 := hb.keep (fun e => by have := HXl.out _ e; omega) Q1.out
      have c3 := (blk_cell qr 0).trans (cell1_0 _)
      have f3 := blk_frozen qr 0
      have hs0 := HSO.out
      have hK1 : (Wr.setCell ⟨W.heap.size + 1, 0, none⟩ (.bool true)).heap[D]? = some (.deferred (some [])) := (Below.heap_setCell Wr ⟨W.heap.size + 1, 0, none⟩ (.bool true) D (show D ≠ W.heap.size + 1 by omega)).trans hK
      have hDl : D < Wr.heap.size := lt_of_some hK
      have hL1 := L.l1
      have hL2 := L.l2
      have hO5 : OS By Bp Bg Br l m ((Wr.setCell ⟨W.heap.size + 1, 0, none⟩ (.bool true)).putObj D (.deferred none)) p := OS.grown (hO.far (B := W.heap.size + 1) (by omega) (by omega) (by omega) (by omega) (by omega) (.bool true)) (grownBy_putObj' _ D _) (fun r e => by injection e; omega)
      have hJ5 : J (pre ++ xs) ((Wr.setCell ⟨W.heap.size + 1, 0, none⟩ (.bool true)).putObj D (.deferred none)) :=
        hJ _ _ _ (some D) (hJ _ _ _ (some (W.heap.size + 1)) hj (only_setCell (p := ⟨W.heap.size + 1, 0, none⟩) (World.grownBy.refl _ _) rfl _) (fun r e => by injection e; omega)) (grownBy_putObj' _ D _) (fun r e => by injection e; omega)
      have qr5 : HasBlk ((Wr.setCell ⟨W.heap.size + 1, 0, none⟩ (.bool true)).putObj D (.deferred none)) (W.heap.size + 1) #[.bool true] 4 := (World.putObj_heap_other (by omega)).trans ((show Boxed Wr (W.heap.size + 1) 4 (.bool false) from qr).set (.bool true))
      have c5 := (blk_cell qr5 0).trans (cell1_0 _)
      have HB5 : Hid (But (Xg Bp Br l b) W ((Wr.setCell ⟨W.heap.size + 1, 0, none⟩ (.bool true)).putObj D (.deferred none))) := Lib.hid (by
        have h1 := HBT.out.trans hb
        exact ⟨h1.os, h1.tape, h1.output, by have := h1.size; simpa using this, fun i hi hX => (World.putObj_heap_other (by omega)).trans ((Below.heap_setCell Wr ⟨W.heap.size + 1, 0, none⟩ _ i (show i ≠ W.heap.size + 1 by omega)).trans (h1.same i hi hX))⟩)
      have HO5 := Lib.hid hO5
      have HJ5 := Lib.hid hJ5
      have HXS := Lib.hid hxs
      clear hO hb hO5 hJ5 hj hxs hK qr qr5
      gi_wp2
      refine ⟨by simp, .inl ⟨_, _, rfl, run_takeDeferred hK1, ?_⟩⟩
      refine ⟨.bool true, by simp [results, Tryd.results107, go_sem, c5], rfl, ⟨xs, ?_, HJ5.out⟩, HO5.out, HB5.out⟩
      rw [HXS.out]
      rfl
    case stop =>
      rintro D c pre W _ _ h _
      exact h.elim

end Go.Proofs.YtgpgocijacgkhaaDoor

/- It is proved what FamilyCommon of the program and of the model return; conditions: those of each statement. -/
namespace Go.Proofs.YtgpgocijacgkhaaDoor
open Go.RowKit Go.Shelf

attribute [local go_sem] Oper.semAt_some

def andAll (m : Int) (zs : List Int) : Int := zs.foldl (fun s z => bits .and .i64 s z) (fullI m)
def famCommon (m : Int) (zs : List Int) : Int := if famIn m zs then andAll m zs else 0
theorem full_any (m : Int) (a : Option Addr) (n cap : Nat) (w : World) (h1 : 1 ≤ m) (h2 : m ≤ 6) :
    Calls Tryd.prog 59 #[.agg #[.int .i64 m, .slice a n cap]] w fun e w' => e = .returned (.int .i64 (fullI m)) ∧ w' = w.alloc (.cells #[.int .i64 m, .slice a n cap] 25) := by
  rcases m16 h1 h2 with rfl | rfl | rfl | rfl | rfl | rfl
  all_goals
    go_enter Tryd.func59, Tryd.ntmps59
    go_wp2
    go_ret
    exact ⟨rfl, rfl⟩

end Go.Proofs.YtgpgocijacgkhaaDoor
