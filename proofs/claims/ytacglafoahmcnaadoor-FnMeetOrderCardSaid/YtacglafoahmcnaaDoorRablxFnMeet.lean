/- It is proved what goOn does where no member is left, if a round may end the loop; conditions: those of each statement. -/
import Derived.RowKit
import Derived.Laws.CopyRow
import Derived.Lib.SlBuf
import Derived.RangeFuncNested
import Derived.RangeFuncBound
import Derived.RangeFuncCalls
import Derived.RangeFuncLeaves
import Derived.RangeFuncBox
import Derived.RangeFuncWrites
import Derived.StillTailTactics
import Derived.Test.YtacglafoahmcnaaDoorRows
import Derived.WalkKit
import Derived.WalkSpells
import Derived.ProofKit
import Derived.OpenShut
import Derived.ShutString
import Derived.ChangeOld
import Derived.Below
import Derived.Deep.RegionHeld3
import Derived.Deep.QuietTactic
import Derived.BigQuiet
import Derived.Lib.Hide
import Derived.Lib.SmallJoins
import Derived.Outline
import Derived.Laws.MakeOwn
import Derived.Laws.OwnMore
import Derived.IntWalk
import Derived.Shelf.Abstract
import Derived.Shelf.RegionOpen
import Derived.OwnWalkIn
import Derived.TacticsInMore
import Derived.LoopNIn
import Derived.LoopIn
import Derived.Maps.AppendAt
import Derived.Deep.AppendLies
import Derived.OwnWalk
import Derived.StillTail
import Derived.StillTactics
import Derived.OrdersIn
import Derived.TacticsIn
import Derived.Shelf.Spec.TrailingZeros
import Derived.Test.YtacglafoahmcnaaDoorRaal
import Derived.Test.YtacglafoahmcnaaDoorRaazxFnMeet
import Derived.Test.YtacglafoahmcnaaDoorRabkxFnMeet
import Derived.Test.YtacglafoahmcnaaDoorRaaa
import Derived.Test.YtacglafoahmcnaaDoorRabgxFnMeet
import Derived.Test.YtacglafoahmcnaaDoorRaab
import Derived.Test.YtacglafoahmcnaaDoorRaad
import Derived.Test.YtacglafoahmcnaaDoorRaah
import Derived.Test.YtacglafoahmcnaaDoorRaaw
import Derived.Test.YtacglafoahmcnaaDoorSt
import Derived.Test.YtacglafoahmcnaaDoorRaae
namespace Go.Proofs.YtacglafoahmcnaaDoor
open Go.RowKit Go.Shelf

attribute [local go_sem] Oper.semAt_some

/-- The blocks that may turn. -/
def XgX (Bp Br l : Nat) (X : Nat → Prop) : Nat → Prop := fun k => k = l ∨ X k ∨ k = Bp ∨ k = Br

/-- Where they lie. -/
structure LiesX (By Bp Bg Br l : Nat) (X : Nat → Prop) (n₁ : Nat) : Prop where
  l1 : 1 < l
  l2 : l < n₁
  b : ∀ k, X k → 1 < k ∧ k < n₁
  y : n₁ ≤ By
  p : n₁ ≤ Bp
  g : n₁ ≤ Bg
  r : n₁ ≤ Br
  yp : By ≠ Bp
  yr : By ≠ Br
  gp : Bg ≠ Bp
  gr : Bg ≠ Br
  pr : Bp ≠ Br

theorem LiesX.lx {By Bp Bg Br l : Nat} {X : Nat → Prop} {n₁ : Nat} (L : LiesX By Bp Bg Br l X n₁) : ∀ k, (k = l ∨ X k) → 1 < k ∧ k < n₁ := fun k h => by
  rcases h with h | h
  · exact ⟨by have := L.l1; omega, by have := L.l2; omega⟩
  · exact L.b k h

theorem OS.butX {By Bp Bg Br l m n₁ : Nat} {X : Nat → Prop} {W W' : World} {p : List Nat} (h : OS By Bp Bg Br l m W p) (L : LiesX By Bp Bg Br l X n₁) (hb : But (fun k => k = l ∨ X k) W W') : OS By Bp Bg Br l m W' p := by
  have hn : ∀ k, n₁ ≤ k → ¬ (k = l ∨ X k) := fun k hk h => by have := (L.lx k h).2; omega
  obtain ⟨R, hR1, hR2, hR3⟩ := h.r
  exact ⟨hb.keep (hn _ L.y) h.y, hb.keep (hn _ L.g) h.g, hb.keep (hn _ L.p) h.q, ⟨R, hR1, hR2, hb.keep (hn _ L.r) hR3⟩, tab_but h.t hb (fun k hk => (L.lx k hk).1)⟩

theorem LiesX.x1 {By Bp Bg Br l n₁ : Nat} {X : Nat → Prop} (L : LiesX By Bp Bg Br l X n₁) : ∀ k, XgX Bp Br l X k → 1 < k := by
  intro k h
  have hx := L.lx
  have := L.l1; have := L.l2; have := L.p; have := L.r
  rcases h with h | h | h | h
  · omega
  · exact (L.b k h).1
  · omega
  · omega

/-- A name is put behind the names so far: what that leaves. -/
theorem put_nameX {By Bp Bg Br l m n₁ : Nat} {X : Nat → Prop} (L : LiesX By Bp Bg Br l X n₁) {W : World} {p : List Nat} (hO : OS By Bp Bg Br l m W p) (hp : p.length < m) (v : Nat) :
    ∃ E, ((W.alloc (.cells #[.int .i64 (v : Int)] 3)).setCell ⟨Br, p.length, none⟩ (.int .i64 (v : Int))).setCell ⟨Bp, 0, none⟩ (.slice (some ⟨Br, 0, none⟩) (p.length + 1) m) = E ∧ OS By Bp Bg Br l m E (p ++ [v]) ∧ But (XgX Bp Br l X) W E ∧ W.heap.size ≤ E.heap.size := by
  obtain ⟨R, hR1, hR2, hR3⟩ := hO.r
  have hgr := L.gr; have hyr := L.yr; have hyp := L.yp; have hgp := L.gp; have hpr := L.pr
  refine ⟨_, rfl, ⟨?_, ?_, ?_, ⟨R.set p.length (v : Int), by rw [List.length_set, hR1], ?_, ?_⟩, ?_⟩, ?_, by simp⟩
  · exact HasBlk.far (HasBlk.far (HasBlk.alloc hO.y _) (show By ≠ Br from hyr) _) (show By ≠ Bp from hyp) _
  · exact HasBlk.far (HasBlk.far (HasBlk.alloc hO.g _) (show Bg ≠ Br from hgr) _) (show Bg ≠ Bp from hgp) _
  · rw [List.length_append]
    exact (show Boxed _ Bp 23 _ from HasBlk.far (HasBlk.alloc hO.q (.cells #[.int .i64 (v : Int)] 3)) (show Bp ≠ Br from hpr) (.int .i64 (v : Int))).set _
  · rw [List.length_append, List.length_singleton, List.take_succ_eq_append_getElem (by rw [List.length_set]; omega), List.take_set_of_le (Nat.le_refl _), hR2, nI_snoc]
    simp
  · exact ((hR3.alloc _).set p.length (v : Int)).far (show Br ≠ Bp from fun e => hpr e.symm) _
  · exact tab_but (X := XgX Bp Br l X) hO.t (((But.alloc _ _).trans (But.setCell _ _ _ _ (fun _ => .inr (.inr (.inr rfl))))).trans (But.setCell _ _ _ _ (fun _ => .inr (.inr (.inl rfl))))) L.x1
  · exact ((But.alloc _ _).trans (But.setCell _ _ _ _ (fun _ => .inr (.inr (.inr rfl))))).trans (But.setCell _ _ _ _ (fun _ => .inr (.inr (.inl rfl))))

/-- The last name is taken off again. -/
theorem off_nameX {By Bp Bg Br l m n₁ : Nat} {X : Nat → Prop} (L : LiesX By Bp Bg Br l X n₁) {W : World} {p : List Nat} {v : Nat} (hO : OS By Bp Bg Br l m W (p ++ [v])) :
    OS By Bp Bg Br l m (W.setCell ⟨Bp, 0, none⟩ (.slice (some ⟨Br, 0, none⟩) p.length m)) p ∧ But (XgX Bp Br l X) W (W.setCell ⟨Bp, 0, none⟩ (.slice (some ⟨Br, 0, none⟩) p.length m)) := by
  obtain ⟨R, hR1, hR2, hR3⟩ := hO.r
  have hgr := L.gr; have hyr := L.yr; have hyp := L.yp; have hgp := L.gp; have hpr := L.pr
  have hbt : But (XgX Bp Br l X) W (W.setCell ⟨Bp, 0, none⟩ (.slice (some ⟨Br, 0, none⟩) p.length m)) := But.setCell _ _ _ _ (fun _ => .inr (.inr (.inl rfl)))
  refine ⟨⟨HasBlk.far hO.y (show By ≠ Bp from hyp) _, HasBlk.far hO.g (show Bg ≠ Bp from hgp) _, hO.q.set _, ⟨R, hR1, ?_, hR3.far (show Br ≠ Bp from fun e => hpr e.symm) _⟩, tab_but hO.t hbt L.x1⟩, hbt⟩
  have := congrArg (List.take p.length) hR2
  rw [List.take_take, nI_snoc, List.length_append, Nat.min_eq_left (by simp)] at this
  rw [this, List.take_left' (nI_len p)]

set_option maxRecDepth 100000 in
set_option maxHeartbeats 2000000 in
theorem nameGo0 (By Bp Bg Br l m n₁ N : Nat) (X : Nat → Prop) (L : LiesX By Bp Bg Br l X n₁) (J Jx : List (Value × List Nat) → World → Prop) (hJ : OwnAll n₁ J) (hJx : OwnB n₁ Jx)
    (hY : ∀ k pre x W1, J pre W1 → OkN m x W1 → pre.length < N → YieldAt Fence.wide k Tryd.prog l #[x.1] W1 fun e W' => (e = .returned (.bool true) ∧ J (pre ++ [x]) W' ∧ But (fun k => k = l ∨ X k) W1 W') ∨ (e = .returned (.bool false) ∧ Jx (pre ++ [x]) W' ∧ But (fun k => k = l ∨ X k) W1 W'))
    (p : List Nat) (hp : p.length = m) (hpv : ∀ v ∈ p, v < m) (pre : List (Value × List Nat)) (hpN : pre.length < N) (W : World) (hn : n₁ ≤ W.heap.size) (h0 : J pre W) (hO : OS By Bp Bg Br l m W p) :
    Calls Tryd.prog 116 #[.int .i64 0, .pointer (some ⟨By, 0, none⟩), .pointer (some ⟨Bp, 0, none⟩), .pointer (some ⟨Bg, 0, none⟩)] W fun e W' =>
      (e = .returned (.bool true) ∧ (∃ xs : List (Value × List Nat), xs.map (·.2) = [p] ∧ J (pre ++ xs) W') ∧ OS By Bp Bg Br l m W' p ∧ But (XgX Bp Br l X) W W') ∨
      (e = .returned (.bool false) ∧ (∃ xs : List (Value × List Nat), xs.map (·.2) <+: [p] ∧ xs ≠ [] ∧ Jx (pre ++ xs) W') ∧ But (XgX Bp Br l X) W W') := by
  have hO2 := (hO.alloc (.cells #[.int .i64 0] 50)).alloc (.cells #[.bool false] 4)
  have hJ2 : J pre ((W.alloc (.cells #[.int .i64 0] 50)).alloc (.cells #[.bool false] 4)) := hJ _ _ _ none (hJ _ _ _ none h0 (World.grownBy_alloc _ _ _) (by simp)) (World.grownBy_alloc _ _ _) (by simp)
  have hbt : But (XgX Bp Br l X) W ((W.alloc (.cells #[.int .i64 0] 50)).alloc (.cells #[.bool false] 4)) := (But.alloc _ _).trans (But.alloc _ _)
  have q1 := alloc2_1 W (.cells #[.int .i64 0] 50) (.cells #[.bool false] 4)
  obtain ⟨fn, tmps, assign, body, hy, hR⟩ := hY 5 pre (.slice (some ⟨Br, 0, none⟩) p.length m, p) _ hJ2 (hO2.ok hp hpv) hpN
  dsimp only at hy
  have cy := hO2.y.cell
  have cp := hO2.q.cell
  obtain ⟨k, hk⟩ : ∃ k, k = p.length := ⟨_, rfl⟩
  have HK := Lib.hid hk
  rw [← hk] at hy cp
  have HO2 := Lib.hid hO2
  have HBT := Lib.hid hbt
  have HL := Lib.hid L
  have Q1 := Lib.hid q1
  clear hk hO2 hbt q1 hJ2 hY h0 L
  refine (callsIn_wide (n := 6)).1 ?_
  refine callsIn_of_wp Tryd.func116 rfl trivial ?_ rfl
  simp only [Tryd.ntmps116, List.size_toArray, List.length_cons, List.length_nil, Nat.reduceAdd, Nat.reduceSub, Array.replicate_succ, Array.replicate_zero, List.push_toArray, List.append_toArray, List.nil_append, List.cons_append]
  gi_wp2
  refine hR.mono ?_
  rintro e W3 (⟨rfl, hJ3, hb3⟩ | ⟨rfl, hJ3, hb3⟩)
  · have q3 : HasBlk W3 (W.heap.size + 1) #[.bool false] 4 := hb3.keep (fun h => by have := (HL.out.lx _ h).2; omega) Q1.out
    have c3 := (blk_cell q3 0).trans (cell1_0 _)
    have f3 := blk_frozen q3 0
    have hs3 := hb3.size
    have hO3 := HO2.out.butX HL.out hb3
    have HO3 := Lib.hid (hO3.far (B := W.heap.size + 1) (by have := hO.y.lt; omega) (by have := hO.q.lt; omega) (by have := hO.g.lt; omega) (by obtain ⟨_, _, _, h⟩ := hO.r; have := h.lt; omega) (by have := HL.out.l1; have := HL.out.l2; omega) (.bool true))
    have HB3 := Lib.hid (HBT.out.trans ((hb3.mono (Y := XgX Bp Br l X) (fun k _ e => by unfold XgX; rcases e with h | h <;> simp [h]))))
    have HJ3 := Lib.hid hJ3
    clear hb3 hO3 hJ3 q3
    gi_wp2
    refine bodyPost_ret (v := .bool true) (by simp [results, Tryd.results116, go_sem, c3]) rfl ?_
    refine .inl ⟨rfl, ⟨[(.slice (some ⟨Br, 0, none⟩) k m, p)], rfl, ?_⟩, HO3.out, ?_⟩
    · rw [HK.out]
      exact hJ _ _ _ (some (W.heap.size + 1)) HJ3.out (only_setCell (p := ⟨W.heap.size + 1, 0, none⟩) (World.grownBy.refl _ _) rfl _) (fun r e => by injection e; omega)
    · refine ⟨HB3.out.os, HB3.out.tape, HB3.out.output, by have := HB3.out.size; simpa using this, fun i hi hX => ?_⟩
      exact (Below.heap_setCell W3 ⟨W.heap.size + 1, 0, none⟩ _ i (show i ≠ W.heap.size + 1 by omega)).trans (HB3.out.same i hi hX)
  · have q3 : HasBlk W3 (W.heap.size + 1) #[.bool false] 4 := hb3.keep (fun h => by have := (HL.out.lx _ h).2; omega) Q1.out
    have c3 := (blk_cell q3 0).trans (cell1_0 _)
    have f3 := blk_frozen q3 0
    have hs3 := hb3.size
    have hO3 := HO2.out.butX HL.out hb3
    have HO3 := Lib.hid (hO3.far (B := W.heap.size + 1) (by have := hO.y.lt; omega) (by have := hO.q.lt; omega) (by have := hO.g.lt; omega) (by obtain ⟨_, _, _, h⟩ := hO.r; have := h.lt; omega) (by have := HL.out.l1; have := HL.out.l2; omega) (.bool false))
    have HB3 := Lib.hid (HBT.out.trans ((hb3.mono (Y := XgX Bp Br l X) (fun k _ e => by unfold XgX; rcases e with h | h <;> simp [h]))))
    have HJ3 := Lib.hid hJ3
    have HQ3 := Lib.hid q3
    clear hb3 hO3 hJ3 q3
    gi_wp2
    refine bodyPost_ret (v := .bool false) (by simp [results, Tryd.results116, go_sem, c3]) rfl ?_
    refine .inr ⟨rfl, ⟨[(.slice (some ⟨Br, 0, none⟩) k m, p)], List.prefix_refl _, by simp, ?_⟩, ?_⟩
    · rw [HK.out]
      exact hJx.flag (b := W.heap.size + 1) (by omega) HQ3.out HJ3.out
    · refine ⟨HB3.out.os, HB3.out.tape, HB3.out.output, by have := HB3.out.size; simpa using this, fun i hi hX => ?_⟩
      exact (Below.heap_setCell W3 ⟨W.heap.size + 1, 0, none⟩ _ i (show i ≠ W.heap.size + 1 by omega)).trans (HB3.out.same i hi hX)

end Go.Proofs.YtacglafoahmcnaaDoor

/- It is proved what goOn does, if a round may end the loop; conditions: those of each statement. -/
namespace Go.Proofs.YtacglafoahmcnaaDoor
open Go.RowKit Go.Shelf

attribute [local go_sem] Oper.semAt_some

set_option maxRecDepth 100000 in
set_option maxHeartbeats 8000000 in
theorem nameGo (By Bp Bg Br l m n₁ N : Nat) (X : Nat → Prop) (hm : m ≤ 6) (L : LiesX By Bp Bg Br l X n₁) (J Jx : List (Value × List Nat) → World → Prop) (hJ : OwnAll n₁ J) (hJx : OwnB n₁ Jx)
    (hY : ∀ k pre x W1, J pre W1 → OkN m x W1 → pre.length < N → YieldAt Fence.wide k Tryd.prog l #[x.1] W1 fun e W' => (e = .returned (.bool true) ∧ J (pre ++ [x]) W' ∧ But (fun k => k = l ∨ X k) W1 W') ∨ (e = .returned (.bool false) ∧ Jx (pre ++ [x]) W' ∧ But (fun k => k = l ∨ X k) W1 W')) :
    ∀ (k s : Nat), s < 64 → (mem s).length = k → (∀ v ∈ mem s, v < m) → ∀ (p : List Nat) (pre : List (Value × List Nat)) (W : World), p.length + k = m → (∀ v ∈ p, v < m) → pre.length + 6 ^ k ≤ N → n₁ ≤ W.heap.size → J pre W → OS By Bp Bg Br l m W p →
    Calls Tryd.prog 116 #[.int .i64 (s : Int), .pointer (some ⟨By, 0, none⟩), .pointer (some ⟨Bp, 0, none⟩), .pointer (some ⟨Bg, 0, none⟩)] W fun e W' =>
      (e = .returned (.bool true) ∧ (∃ xs : List (Value × List Nat), xs.map (·.2) = (permsL k (mem s)).map (p ++ ·) ∧ J (pre ++ xs) W') ∧ OS By Bp Bg Br l m W' p ∧ But (XgX Bp Br l X) W W') ∨
      (e = .returned (.bool false) ∧ (∃ xs : List (Value × List Nat), xs.map (·.2) <+: (permsL k (mem s)).map (p ++ ·) ∧ xs ≠ [] ∧ Jx (pre ++ xs) W') ∧ But (XgX Bp Br l X) W W')
  | 0, s, hs, hk, hsm, p, pre, W, hp, hpv, hN, hn, h0, hO => by
    obtain rfl : s = 0 := mem_none s hs (List.eq_nil_of_length_eq_zero hk)
    refine (nameGo0 By Bp Bg Br l m n₁ N X L J Jx hJ hJx hY p (by omega) hpv pre (by simp at hN; omega) W hn h0 hO).mono ?_
    rintro e W' (⟨rfl, ⟨xs, hxs, hj⟩, hO', hb⟩ | ⟨rfl, ⟨xs, hxs, hne, hj⟩, hb⟩)
    · exact .inl ⟨rfl, ⟨xs, by rw [hxs]; simp [permsL], hj⟩, hO', hb⟩
    · exact .inr ⟨rfl, ⟨xs, by simpa [permsL] using hxs, hne, hj⟩, hb⟩
  | k + 1, s, hs, hk, hsm, p, pre, W, hp, hpv, hN, hn, h0, hO => by
    have hs0 : ((s : Int) == 0) = false := by
      have : s ≠ 0 := fun e => by subst e; rw [mem_zero] at hk; cases hk
      simp; omega
    have hmx : Tryd.prog.follows .mixedOrders = true := by kernel_rfl
    have h16 : 1 ≤ 6 := by omega
    have hus : (mem s).length ≤ 6 := by omega
    have hO3 := ((hO.alloc (.cells #[.int .i64 (s : Int)] 50)).alloc (.cells #[.bool false] 4)).alloc (.cells #[.int .i64 (s : Int)] 50)
    have hJ3 : J pre (((W.alloc (.cells #[.int .i64 (s : Int)] 50)).alloc (.cells #[.bool false] 4)).alloc (.cells #[.int .i64 (s : Int)] 50)) :=
      hJ _ _ _ none (hJ _ _ _ none (hJ _ _ _ none h0 (World.grownBy_alloc _ _ _) (by simp)) (World.grownBy_alloc _ _ _) (by simp)) (World.grownBy_alloc _ _ _) (by simp)
    have q0 := alloc3_0 W (.cells #[.int .i64 (s : Int)] 50) (.cells #[.bool false] 4) (.cells #[.int .i64 (s : Int)] 50)
    have q1 := alloc3_1 W (.cells #[.int .i64 (s : Int)] 50) (.cells #[.bool false] 4) (.cells #[.int .i64 (s : Int)] 50)
    have q2 := alloc3_2 W (.cells #[.int .i64 (s : Int)] 50) (.cells #[.bool false] 4) (.cells #[.int .i64 (s : Int)] 50)
    have hbt : But (XgX Bp Br l X) W (((W.alloc (.cells #[.int .i64 (s : Int)] 50)).alloc (.cells #[.bool false] 4)).alloc (.cells #[.int .i64 (s : Int)] 50)) := ((But.alloc _ _).trans (But.alloc _ _)).trans (But.alloc _ _)
    have hlt4 : By < W.heap.size ∧ Bp < W.heap.size ∧ Bg < W.heap.size ∧ Br < W.heap.size := ⟨hO.y.lt, hO.q.lt, hO.g.lt, by obtain ⟨_, _, _, h⟩ := hO.r; exact h.lt⟩
    have hx1 : ∀ i, XgX Bp Br l X i → i < W.heap.size := by
      intro i h
      have := L.l2
      rcases h with h | h | h | h
      · omega
      · have := (L.b i h).2; omega
      · omega
      · omega
    have IH := nameGo By Bp Bg Br l m n₁ N X hm L J Jx hJ hJx hY k
    clear h0 hO hY
    refine (callsIn_wide (n := 6)).1 ?_
    refine callsIn_of_wp_marks Tryd.func116 rfl trivial ?_ rfl
    simp only [Tryd.ntmps116, List.size_toArray, List.length_cons, List.length_nil, Nat.reduceAdd, Nat.reduceSub, Array.replicate_succ, Array.replicate_zero, List.push_toArray, List.append_toArray, List.nil_append, List.cons_append]
    gi_wp2_with (refine ⟨trivial, ?_⟩; gi_at_call 49; refine (callsIn_wide.2 (members_any _ _)).mono ?_; rintro e w' ⟨rfl, rfl⟩)
    obtain ⟨W0, hW0⟩ : ∃ W0, ((W.alloc (.cells #[.int .i64 (s : Int)] 50)).alloc (.cells #[.bool false] 4)).alloc (.cells #[.int .i64 (s : Int)] 50) = W0 := ⟨_, rfl⟩
    have hso : W0.heap.size = W.heap.size + 1 + 1 + 1 := by rw [← hW0]; simp
    rw [hW0] at hO3 hJ3 q0 q1 q2 hbt ⊢
    have Q0 : Hid (HasBlk W0 W.heap.size #[.int .i64 (s : Int)] 50) := Lib.hid q0
    have Q1 : Hid (HasBlk W0 (W.heap.size + 1) #[.bool false] 4) := Lib.hid q1
    have HJ3 := Lib.hid hJ3
    have HO3 := Lib.hid hO3
    have HSO := Lib.hid hso
    have HBT := Lib.hid hbt
    have HXl := Lib.hid hx1
    have hst := membersS_stops (6 - 1) (by omega) (W.heap.size + 1 + 1) 2 s hs W0 (by omega) (by have := L.l1; have := L.l2; omega) (by omega) ((blk_cell q2 0).trans (cell1_0 _)) hO3.t
    clear hW0 q0 q1 q2 hJ3 hO3 hbt hso hx1
    refine wpIn_rangeFunc_ownG rfl h16 (gf := 89) (lb := #[.pointer (some ⟨W.heap.size + 1 + 1, 0, none⟩)]) rfl trivial (enters_of Tryd.func89 (by kernel_rfl) rfl)
      hst belowK_t (belowK_b (by have := HSO.out; omega)) (Below.refl _ _) (fun _ => rfl)
      (fun ys Wr => (∃ xs : List (Value × List Nat), xs.map (·.2) = (partL k (mem s) (valsS ys)).map (p ++ ·) ∧ J (pre ++ xs) Wr) ∧ OS By Bp Bg Br l m Wr p ∧ But (XgX Bp Br l X) W0 Wr)
      (fun c ys Wr => c = .ret ∧ (∃ xs : List (Value × List Nat), xs.map (·.2) <+: (partL k (mem s) (valsS ys)).map (p ++ ·) ∧ xs ≠ [] ∧ Jx (pre ++ xs) Wr) ∧ HasBlk Wr (W.heap.size + 1) #[.bool false] 4 ∧ But (fun k => XgX Bp Br l X k ∨ k = W.heap.size + 1) W0 Wr)
      ?own
      ?ownx
      ⟨⟨[], rfl, by rw [List.append_nil]; exact HJ3.out⟩, HO3.out, But.refl _ _⟩
      (fun x => { tmps := #[.int .i64 (s : Int), .pointer (some ⟨By, 0, none⟩), .pointer (some ⟨Bp, 0, none⟩), .pointer (some ⟨Bg, 0, none⟩), .pointer (some ⟨W.heap.size, 0, none⟩), .pointer (some ⟨W.heap.size + 1, 0, none⟩), .int .i64 (x.1 : Int), .int .i64 (s : Int), .bool false, undef, undef, undef, .int .i64 (s : Int), .func (.func 89) #[] #[.pointer (some ⟨W.heap.size + 1 + 1, 0, none⟩)], .int .i64 (x.1 : Int), undef, undef, undef, undef, undef, undef, undef, undef, undef, undef, undef, undef, undef, undef, undef], defers := [] }) ?assign ?body ?done ?stop
    case own =>
      rintro ys A B row ⟨⟨xs, hxs, hj⟩, hO, hb⟩ hg hr
      have hr' : ∀ r, row = some r → W0.heap.size ≤ r := fun r e => (hr r e).1
      have hs0 := HSO.out
      refine ⟨⟨xs, hxs, hJ _ _ _ row hj hg (fun r e => by have := hr' r e; omega)⟩, hO.grown hg (fun r e => by have := hr' r e; have := L.l1; have := L.l2; omega), ?_⟩
      exact ⟨hg.os.trans hb.os, hg.tape.trans hb.tape, hg.output.trans hb.output, Nat.le_trans hb.size hg.size, fun i hi hX => (hg.block i (Nat.lt_of_lt_of_le hi hb.size) (fun e => by have := hr' i e.symm; omega)).trans (hb.same i hi hX)⟩
    case ownx =>
      rintro c ys A B row ⟨hc, ⟨xs, hxs, hne, hj⟩, hq, hb⟩ hg hr
      have hr' : ∀ r, row = some r → W0.heap.size ≤ r := fun r e => (hr r e).1
      have hs0 := HSO.out
      have hql : W.heap.size + 1 < A.heap.size := lt_of_some hq
      refine ⟨hc, ⟨xs, hxs, hne, hJx.from _ _ _ row hj hg (fun r e => ⟨by have := hr' r e; omega, (hr r e).2⟩)⟩, (hg.block _ hql (fun e => by have := hr' _ e.symm; omega)).trans hq, ?_⟩
      exact ⟨hg.os.trans hb.os, hg.tape.trans hb.tape, hg.output.trans hb.output, Nat.le_trans hb.size hg.size, fun i hi hX => (hg.block i (Nat.lt_of_lt_of_le hi hb.size) (fun e => by have := hr' i e.symm; omega)).trans (hb.same i hi hX)⟩
    case assign =>
      intro l1 x Wr K hK
      gi_wp2
      exact hK
    case body =>
      rintro l1 ys x Wr ⟨⟨xs, hxs, hj⟩, hO, hb⟩ hlt
      obtain ⟨v, hv⟩ := x
      have hv6 : v < 6 := by
        have := (mem_mem s v).1 hv
        omega
      have hpm : p.length < m := by omega
      obtain ⟨E, hE, hOE, hbE, hsE⟩ := put_nameX L hO hpm v
      have hgE : J (pre ++ xs) E := by
        rw [← hE]
        have a0 := hJ _ _ _ none hj (World.grownBy_alloc _ (.cells #[.int .i64 (v : Int)] 3) none) (by simp)
        have a1 := hJ _ _ _ (some Br) a0 (only_setCell (p := ⟨Br, p.length, none⟩) (World.grownBy.refl _ _) rfl (.int .i64 (v : Int))) (fun r e => by injection e with e; rw [← e]; exact L.r)
        exact hJ _ _ _ (some Bp) a1 (only_setCell (p := ⟨Bp, 0, none⟩) (World.grownBy.refl _ _) rfl (.slice (some ⟨Br, 0, none⟩) (p.length + 1) m)) (fun r e => by injection e with e; rw [← e]; exact L.p)
      have cp := hO.q.cell
      have fp := (hO.q.alloc (.cells #[.int .i64 (v : Int)] 3)).frozen
      have cp' := (hO.q.alloc (.cells #[.int .i64 (v : Int)] 3)).cell
      have hprne : ¬ (Bp = Br) := L.pr
      obtain ⟨R, hR1, hR2, hR3⟩ := hO.r
      have cr := hR3.cell p.length (by omega)
      have fr := (hR3.alloc (.cells #[.int .i64 (v : Int)] 3)).frozen p.length
      have cr' := (hR3.alloc (.cells #[.int .i64 (v : Int)] 3)).cell p.length (by omega)
      have cl0 := (blk_cell (show HasBlk Wr W.heap.size #[.int .i64 (s : Int)] 50 from hb.keep (fun e => by have := HXl.out _ e; omega) Q0.out) 0).trans (cell1_0 _)
      have clE := (blk_cell (show HasBlk E W.heap.size #[.int .i64 (s : Int)] 50 from hbE.keep (fun e => by have := HXl.out _ e; omega) (hb.keep (fun e => by have := HXl.out _ e; omega) Q0.out)) 0).trans (cell1_0 _)
      have cgE := hOE.g.cell
      have hxl : xs.length ≤ ys.length * 6 ^ k := by
        have h1 := congrArg List.length hxs
        rw [List.length_map, List.length_map] at h1
        have h2 := partL_count k (mem s) (valsS ys) hus
        rw [show (valsS ys).length = ys.length from by simp [valsS]] at h2
        omega
      have hpn : (pre ++ xs).length + 6 ^ k ≤ N := by
        rw [List.length_append]
        have h1 : ys.length * 6 ^ k + 6 ^ k ≤ 6 * 6 ^ k := by
          rw [← Nat.succ_mul]; exact Nat.mul_le_mul_right _ hlt
        rw [Nat.pow_succ, Nat.mul_comm (6 ^ k) 6] at hN
        omega
      have hwm : mem (woP s v) = (mem s).erase v := wo_mem s v hs hv6
      have IHc := IH (woP s v) (by have := wo_le s v; omega) (by rw [hwm, List.length_erase_of_mem hv]; omega) (fun u hu => hsm u (List.mem_of_mem_erase (by rw [hwm] at hu; exact hu))) (p ++ [v]) (pre ++ xs) E.drew (by simp; omega) (fun u hu => by rcases List.mem_append.1 hu with h | h; exact hpv u h; simp at h; rw [h]; exact hsm v hv) hpn (show n₁ ≤ E.heap.size by have := HSO.out; have := hb.size; omega) (hJ _ _ _ none hgE ⟨rfl, rfl, rfl, Nat.le_refl _, fun _ _ _ => rfl⟩ (by simp)) hOE.drew
      rw [hwm] at IHc
      obtain ⟨pl, hpl⟩ : ∃ pl, pl = p.length := ⟨_, rfl⟩
      have HPL := Lib.hid hpl
      have hplm : pl < m := by omega
      have hplI : (pl : Int) < (m : Int) := by omega
      have HO := Lib.hid hO
      have HB := Lib.hid hb
      have HXS := Lib.hid hxs
      have HBE := Lib.hid hbE
      have HW1 : Hid (∀ (W4 : World), OS By Bp Bg Br l m W4 (p ++ [v]) → OS By Bp Bg Br l m (W4.setCell ⟨Bp, 0, none⟩ (.slice (some ⟨Br, 0, none⟩) pl m)) p ∧ But (XgX Bp Br l X) W4 (W4.setCell ⟨Bp, 0, none⟩ (.slice (some ⟨Br, 0, none⟩) pl m))) := Lib.hid (fun W4 h => by rw [hpl]; exact off_nameX L h)
      rw [← hpl] at hE cp cr fr cr' cp'
      clear hO hb hxs hbE hR1 hR2 hR3 hj hgE hOE hxl hpn hwm hpl hpm hp
      gi_wp2
      refine wpIn_region_still_tail_o (Fence.Open.wide.inRound l1) 4 hmx (by kernel_rfl) (by kernel_rfl) ?_
      simp only [List.take_succ_cons, List.take_zero, List.drop_succ_cons, List.drop_zero]
      repeat still_step
      still_call ((without_any s v hs hv6 _).mono fun _ _ h => ⟨h.1, h.2.symm⟩)
      repeat still_step
      refine wpStill_nil ?_
      change wpListIn _ _ _ _ _ _ _ E.drew
      have qb : HasBlk Wr (W.heap.size + 1) #[.bool false] 4 := HB.out.keep (fun e => by have := HXl.out _ e; omega) Q1.out
      have qE : HasBlk E.drew (W.heap.size + 1) #[.bool false] 4 := (But.drew (X := XgX Bp Br l X) E).keep (fun e => by have := HXl.out _ e; omega) (HBE.out.keep (fun e => by have := HXl.out _ e; omega) qb)
      have HQE := Lib.hid qE
      clear qb qE
      gi_wp2_with fail
      refine ⟨trivial, ?_⟩
      gi_at_call 116
      refine (CallsIn.inRound l1 (callsIn_wide.2 IHc)).mono ?_
      rintro e W4 (⟨rfl, ⟨xs2, hxs2, hj2⟩, hO4, hb4⟩ | ⟨rfl, ⟨xs2, hxs2, hne2, hj2⟩, hb4⟩)
      · have c4 := hO4.q.cell
        have f4 := hO4.q.frozen
        rw [show (p ++ [v]).length = pl + 1 from by rw [List.length_append, HPL.out]; rfl] at c4
        have HJ2 := Lib.hid hj2; have HO4 := Lib.hid hO4; have HB4 := Lib.hid hb4; have HXS2 := Lib.hid hxs2
        clear hj2 hO4 hb4 hxs2
        gi_wp2
        obtain ⟨hO5, hb5⟩ := HW1.out W4 HO4.out
        have hbt5 := (HBE.out.trans (But.drew E)).trans (HB4.out.trans hb5)
        have hs0 := HSO.out
        refine ⟨hbt5.from (fun i o hB hi hX => by have := HXl.out i hX; omega), hbt5.below (B := 2) (by have := HB.out.size; omega) (fun i hX => L.x1 i hX), ⟨xs ++ xs2, ?_, ?_⟩, hO5, HB.out.trans hbt5⟩
        · rw [valsS_snoc, partL_snoc, List.map_append, List.map_append, HXS.out, HXS2.out, List.map_map]
          congr 1
          apply List.map_congr_left
          intro z _
          simp
        · rw [← List.append_assoc]
          exact hJ _ _ _ (some Bp) HJ2.out (only_setCell (p := ⟨Bp, 0, none⟩) (World.grownBy.refl _ _) rfl _) (fun r e => by injection e with e; rw [← e]; exact L.p)
      · have q4 : HasBlk W4 (W.heap.size + 1) #[.bool false] 4 := hb4.keep (fun e => by have := HXl.out _ e; omega) HQE.out
        have c4 := (blk_cell q4 0).trans (cell1_0 _)
        have f4 := blk_frozen q4 0
        have HQ4 := Lib.hid q4
        have HJ2 := Lib.hid hj2; have HB4 := Lib.hid hb4; have HXS2 := Lib.hid hxs2; have HNE2 := Lib.hid hne2
        clear hj2 hb4 hxs2 hne2 q4
        gi_wp2
        have hs0 := HSO.out
        have hbY : But (fun k => XgX Bp Br l X k ∨ k = W.heap.size + 1) Wr (W4.setCell ⟨W.heap.size + 1, 0, none⟩ (.bool false)) :=
          (((HBE.out.trans (But.drew E)).trans HB4.out).mono (fun k _ e => .inl e)).trans (But.setCell _ _ _ _ (fun _ => .inr rfl))
        refine ⟨hbY.from (fun i o hB hi hX => by rcases hX with hX | hX; (have := HXl.out i hX; omega); omega), rfl, ⟨xs ++ xs2, ?_, by simp [HNE2.out], ?_⟩, (show Boxed W4 (W.heap.size + 1) 4 (.bool false) from HQ4.out).set (.bool false), (HB.out.mono (fun k _ e => .inl e)).trans hbY⟩
        · rw [valsS_snoc, partL_snoc, List.map_append, List.map_append, HXS.out, List.map_map]
          obtain ⟨r, hr⟩ := HXS2.out
          refine ⟨r, ?_⟩
          rw [List.append_assoc, hr]
          congr 1
          apply List.map_congr_left
          intro z _
          simp
        · rw [← List.append_assoc]
          exact hJx.flag (b := W.heap.size + 1) (by omega) HQ4.out HJ2.out
    case done =>
      rintro D ys Wr hD hys ⟨⟨xs, hxs, hj⟩, hO, hb⟩ hK
      rw [hys] at hxs
      have qr : HasBlk Wr (W.heap.size + 1) #[.bool false] 4 := hb.keep (fun e => by have := HXl.out _ e; omega) Q1.out
      have c3 := (blk_cell qr 0).trans (cell1_0 _)
      have f3 := blk_frozen qr 0
      have hs0 := HSO.out
      have hK1 : (Wr.setCell ⟨W.heap.size + 1, 0, none⟩ (.bool true)).heap[D]? = some (.deferred (some [])) := (Below.heap_setCell Wr ⟨W.heap.size + 1, 0, none⟩ (.bool true) D (show D ≠ W.heap.size + 1 by omega)).trans hK
      have hDl : D < Wr.heap.size := lt_of_some hK
      have hL1 := L.l1
      have hL2 := L.l2
      have hO5 : OS By Bp Bg Br l m ((Wr.setCell ⟨W.heap.size + 1, 0, none⟩ (.bool true)).putObj D (.deferred none)) p := OS.grown (hO.far (B := W.heap.size + 1) (by omega) (by omega) (by omega) (by omega) (by omega) (.bool true)) (grownBy_putObj' _ D _) (fun r e => by injection e; omega)
      have hJ5 : J (pre ++ xs) ((Wr.setCell ⟨W.heap.size + 1, 0, none⟩ (.bool true)).putObj D (.deferred none)) :=
        hJ _ _ _ (some D) (hJ _ _ _ (some (W.heap.size + 1)) hj (only_setCell (p := ⟨W.heap.size + 1, 0, none⟩) (World.grownBy.refl _ _) rfl _) (fun r e => by injection e; omega)) (grownBy_putObj' _ D _) (fun r e => by injection e; omega)
      have qr5 : HasBlk ((Wr.setCell ⟨W.heap.size + 1, 0, none⟩ (.bool true)).putObj D (.deferred none)) (W.heap.size + 1) #[.bool true] 4 := (World.putObj_heap_other (by omega)).trans ((show Boxed Wr (W.heap.size + 1) 4 (.bool false) from qr).set (.bool true))
      have c5 := (blk_cell qr5 0).trans (cell1_0 _)
      have HB5 : Hid (But (XgX Bp Br l X) W ((Wr.setCell ⟨W.heap.size + 1, 0, none⟩ (.bool true)).putObj D (.deferred none))) := Lib.hid (by
        have h1 := HBT.out.trans hb
        exact ⟨h1.os, h1.tape, h1.output, by have := h1.size; simpa using this, fun i hi hX => (World.putObj_heap_other (by omega)).trans ((Below.heap_setCell Wr ⟨W.heap.size + 1, 0, none⟩ _ i (show i ≠ W.heap.size + 1 by omega)).trans (h1.same i hi hX))⟩)
      have HO5 := Lib.hid hO5
      have HJ5 := Lib.hid hJ5
      have HXS := Lib.hid hxs
      clear hO hb hO5 hJ5 hj hxs hK qr qr5
      gi_wp2
      refine ⟨by simp, .inl ⟨_, _, rfl, run_takeDeferred hK1, ?_⟩⟩
      refine ⟨.bool true, by simp [results, Tryd.results116, go_sem, c5], .inl ⟨rfl, ⟨xs, ?_, HJ5.out⟩, HO5.out, HB5.out⟩⟩
      rw [HXS.out]
      rfl
    case stop =>
      rintro D c ys Wr hD hSp ⟨rfl, ⟨xs, hxs, hne, hj⟩, hq, hb⟩ hK
      have hs0 := HSO.out
      have hDl : D < Wr.heap.size := lt_of_some hK
      have q5 : HasBlk (Wr.putObj D (.deferred none)) (W.heap.size + 1) #[.bool false] 4 := (World.putObj_heap_other (by omega)).trans hq
      have c5 := (blk_cell q5 0).trans (cell1_0 _)
      have hL2 := L.l2
      have hJ5 : Jx (pre ++ xs) (Wr.putObj D (.deferred none)) := hJx.from.putObj (.deferred none) hj (by omega) hK rfl
      have HB5 : Hid (But (XgX Bp Br l X) W (Wr.putObj D (.deferred none))) := Lib.hid (by
        have h1 := (HBT.out.mono (Y := fun k => XgX Bp Br l X k ∨ k = W.heap.size + 1) (fun k _ e => .inl e)).trans hb
        exact ⟨h1.os, h1.tape, h1.output, by have := h1.size; simpa using this, fun i hi hX => (World.putObj_heap_other (by omega)).trans (h1.same i hi (fun h => by rcases h with h | h; exact hX h; omega))⟩)
      have HJ5 := Lib.hid hJ5
      have HXS : Hid (xs.map (·.2) <+: (permsL (k + 1) (mem s)).map (p ++ ·)) := Lib.hid (by
        refine hxs.trans ?_
        obtain ⟨r, hr⟩ := hSp
        rw [← partL_all, ← hr]
        refine ⟨(r.flatMap fun v => (permsL k ((mem s).erase v)).map (v :: ·)).map (p ++ ·), ?_⟩
        rw [hr, ← List.map_append]
        congr 1
        rw [← hr]
        simp [partL])
      have HNE := Lib.hid hne
      clear hb hJ5 hj hxs q5 hq hne
      gi_wp2
      refine ⟨by simp, .inl ⟨_, _, rfl, run_takeDeferred hK, ?_⟩⟩
      exact ⟨.bool false, by simp [results, Tryd.results116, go_sem, c5], .inr ⟨rfl, ⟨xs, HXS.out, HNE.out, HJ5.out⟩, HB5.out⟩⟩

end Go.Proofs.YtacglafoahmcnaaDoor
