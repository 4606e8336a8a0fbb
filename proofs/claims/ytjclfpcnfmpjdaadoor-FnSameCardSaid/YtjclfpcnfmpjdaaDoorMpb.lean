import Derived.StillTailTactics
import Derived.RowKit
import Derived.Laws.CopyRow
import Derived.Lib.SlBuf
import Derived.RangeFuncNested
import Derived.RangeFuncBound
import Derived.RangeFuncCalls
import Derived.RangeFuncLeaves
import Derived.RangeFuncBox
import Derived.RangeFuncWrites
import Derived.Test.YtjclfpcnfmpjdaaDoorRows
import Derived.WalkKit
import Derived.WalkSpells
import Derived.ProofKit
import Derived.OpenShut
import Derived.ShutString
import Derived.ChangeOld
import Derived.Below
import Derived.Deep.RegionHeld3
import Derived.Deep.QuietTactic
import Derived.BigQuiet
import Derived.Lib.Hide
import Derived.Lib.SmallJoins
import Derived.Outline
import Derived.Laws.MakeOwn
import Derived.Laws.OwnMore
import Derived.IntWalk
import Derived.Shelf.Abstract
import Derived.Shelf.RegionOpen
import Derived.OwnWalkIn
import Derived.TacticsInMore
import Derived.LoopNIn
import Derived.LoopIn
import Derived.Maps.AppendAt
import Derived.Deep.AppendLies
import Derived.OwnWalk
import Derived.StillTail
import Derived.StillTactics
import Derived.OrdersIn
import Derived.TacticsIn
import Derived.Shelf.Spec.TrailingZeros
import Derived.Test.YtjclfpcnfmpjdaaDoorMpa
import Derived.Lib.AppendZeros
import Derived.Maps.OwnIn
import Derived.Maps.Ext
import Derived.DeepKeys4
import Derived.MapKept
import Derived.Lib.SlicesCompact
import Derived.Lib.OwnBridge
import Derived.Shelf.Sort.Plain
import Derived.Shelf.Slices.In.SortNone
import Derived.Shelf.Slices.CompactI
import Derived.Ground.Names2Prog
/- It is proved what goOn does; conditions: those of each statement. -/
namespace Go.Proofs.YtjclfpcnfmpjdaaDoor
open Go.RowKit Go.Shelf

attribute [local go_sem] Oper.semAt_some

theorem OS.drew {By Bp Bg Br l m : Nat} {W : World} {p : List Nat} (h : OS By Bp Bg Br l m W p) : OS By Bp Bg Br l m W.drew p := ⟨h.y, h.g, h.q, h.r, h.t⟩
theorem OS.grown {By Bp Bg Br l m : Nat} {W W' : World} {p : List Nat} {row : Option Nat} (h : OS By Bp Bg Br l m W p) (hg : W.grownBy W' row) (hr : ∀ r, row = some r → r ≠ By ∧ r ≠ Bp ∧ r ≠ Bg ∧ r ≠ Br ∧ 1 < r) : OS By Bp Bg Br l m W' p := by
  obtain ⟨R, hR1, hR2, hR3⟩ := h.r
  have hb : But (fun k => row = some k) W W' := But.of_grownBy hg (fun r e _ => e)
  exact ⟨hb.keep (fun e => (hr _ e).1 rfl) h.y, hb.keep (fun e => (hr _ e).2.2.1 rfl) h.g, hb.keep (fun e => (hr _ e).2.1 rfl) h.q, ⟨R, hR1, hR2, hb.keep (fun e => (hr _ e).2.2.2.1 rfl) hR3⟩, tab_but h.t hb (fun k e => (hr k e).2.2.2.2)⟩

theorem Lies.x1 {By Bp Bg Br l b n₁ : Nat} (L : Lies By Bp Bg Br l b n₁) : ∀ k, Xg Bp Br l b k → 1 < k := by
  intro k h
  have := L.l1; have := L.l2; have := L.b1; have := L.p; have := L.r
  unfold Xg at h; omega

theorem mem_none (s : Nat) (hs : s < 64) (h : mem s = []) : s = 0 := by
  by_cases h0 : s = 0
  · exact h0
  · rw [mem_cons s hs h0] at h; cases h

/-- A name is put behind the names so far: what that leaves. -/
theorem put_name {By Bp Bg Br l m b n₁ : Nat} (L : Lies By Bp Bg Br l b n₁) {W : World} {p : List Nat} (hO : OS By Bp Bg Br l m W p) (hp : p.length < m) (v : Nat) :
    ∃ E, ((W.alloc (.cells #[.int .i64 (v : Int)] 3)).setCell ⟨Br, p.length, none⟩ (.int .i64 (v : Int))).setCell ⟨Bp, 0, none⟩ (.slice (some ⟨Br, 0, none⟩) (p.length + 1) m) = E ∧ OS By Bp Bg Br l m E (p ++ [v]) ∧ But (Xg Bp Br l b) W E ∧ W.heap.size ≤ E.heap.size := by
  obtain ⟨R, hR1, hR2, hR3⟩ := hO.r
  have hgr := L.gr; have hyr := L.yr; have hyp := L.yp; have hgp := L.gp; have hpr := L.pr
  refine ⟨_, rfl, ⟨?_, ?_, ?_, ⟨R.set p.length (v : Int), by rw [List.length_set, hR1], ?_, ?_⟩, ?_⟩, ?_, by simp⟩
  · exact HasBlk.far (HasBlk.far (HasBlk.alloc hO.y _) (show By ≠ Br from hyr) _) (show By ≠ Bp from hyp) _
  · exact HasBlk.far (HasBlk.far (HasBlk.alloc hO.g _) (show Bg ≠ Br from hgr) _) (show Bg ≠ Bp from hgp) _
  · rw [List.length_append]
    exact (show Boxed _ Bp 23 _ from HasBlk.far (HasBlk.alloc hO.q (.cells #[.int .i64 (v : Int)] 3)) (show Bp ≠ Br from hpr) (.int .i64 (v : Int))).set _
  · rw [List.length_append, List.length_singleton, List.take_succ_eq_append_getElem (by rw [List.length_set]; omega), List.take_set_of_le (Nat.le_refl _), hR2, nI_snoc]
    simp
  · exact ((hR3.alloc _).set p.length (v : Int)).far (show Br ≠ Bp from fun e => hpr e.symm) _
  · exact tab_but (X := Xg Bp Br l b) hO.t (((But.alloc _ _).trans (But.setCell _ _ _ _ (fun _ => .inr (.inr (.inr rfl))))).trans (But.setCell _ _ _ _ (fun _ => .inr (.inr (.inl rfl))))) L.x1
  · exact ((But.alloc _ _).trans (But.setCell _ _ _ _ (fun _ => .inr (.inr (.inr rfl))))).trans (But.setCell _ _ _ _ (fun _ => .inr (.inr (.inl rfl))))

/-- The last name is taken off again. -/
theorem off_name {By Bp Bg Br l m b n₁ : Nat} (L : Lies By Bp Bg Br l b n₁) {W : World} {p : List Nat} {v : Nat} (hO : OS By Bp Bg Br l m W (p ++ [v])) :
    OS By Bp Bg Br l m (W.setCell ⟨Bp, 0, none⟩ (.slice (some ⟨Br, 0, none⟩) p.length m)) p ∧ But (Xg Bp Br l b) W (W.setCell ⟨Bp, 0, none⟩ (.slice (some ⟨Br, 0, none⟩) p.length m)) := by
  obtain ⟨R, hR1, hR2, hR3⟩ := hO.r
  have hgr := L.gr; have hyr := L.yr; have hyp := L.yp; have hgp := L.gp; have hpr := L.pr
  have hbt : But (Xg Bp Br l b) W (W.setCell ⟨Bp, 0, none⟩ (.slice (some ⟨Br, 0, none⟩) p.length m)) := But.setCell _ _ _ _ (fun _ => .inr (.inr (.inl rfl)))
  refine ⟨⟨HasBlk.far hO.y (show By ≠ Bp from hyp) _, HasBlk.far hO.g (show Bg ≠ Bp from hgp) _, hO.q.set _, ⟨R, hR1, ?_, hR3.far (show Br ≠ Bp from fun e => hpr e.symm) _⟩, tab_but hO.t hbt L.x1⟩, hbt⟩
  have := congrArg (List.take p.length) hR2
  rw [List.take_take, nI_snoc, List.length_append, Nat.min_eq_left (by simp)] at this
  rw [this, List.take_left' (nI_len p)]

end Go.Proofs.YtjclfpcnfmpjdaaDoor

/- It is proved what without returns; conditions: those of each statement. -/
namespace Go.Proofs.YtjclfpcnfmpjdaaDoor
open Go.RowKit Go.Shelf

/-- A set without a member. -/
def woP (s v : Nat) : Nat := s &&& (63 - 2 ^ v)

set_option maxRecDepth 100000 in
theorem wo_fin : ∀ x : Fin 64, ∀ p : Fin 6, bits BinOp.andNot IntKind.i64 (x.val : Int) (2 ^ p.val) = ((woP x.val p.val : Nat) : Int) := by decide +kernel

theorem wo_at (x p : Nat) (hx : x < 64) (hp : p < 6) : bits BinOp.andNot IntKind.i64 (x : Int) (2 ^ p) = ((woP x p : Nat) : Int) := wo_fin ⟨x, hx⟩ ⟨p, hp⟩
set_option maxRecDepth 100000 in
theorem wo_mem_fin : ∀ x : Fin 64, ∀ p : Fin 6, mem (woP x.val p.val) = (mem x.val).erase p.val := by decide +kernel

theorem wo_mem (x p : Nat) (hx : x < 64) (hp : p < 6) : mem (woP x p) = (mem x).erase p := wo_mem_fin ⟨x, hx⟩ ⟨p, hp⟩
theorem wo_le (x p : Nat) : woP x p ≤ x := Nat.and_le_left
theorem without_any (x p : Nat) (hx : x < 64) (hp : p < 6) (w : World) :
    Calls Tryd.prog 107 #[.int .i64 (x : Int), .int .i64 (p : Int)] w fun e w' => e = .returned (.int .i64 ((woP x p : Nat) : Int)) ∧ w = w' := by
  have hp8 : (p : Int) < 8 := by omega
  obtain ⟨h1, h2⟩ := p2_small p (by omega)
  have HO := Lib.hid (wo_at x p hx hp)
  go_enter Tryd.func107, Tryd.ntmps107
  go_wp2
  go_ret
  exact ⟨by rw [HO.out]; rfl, rfl⟩

end Go.Proofs.YtjclfpcnfmpjdaaDoor

/- It is proved that the dual of a dual is the family; conditions: those of each statement. -/
namespace Go.Proofs.YtjclfpcnfmpjdaaDoor
open Go.RowKit

theorem mem_mem (s v : Nat) : v ∈ mem s ↔ v < 6 ∧ s.testBit v = true := by simp [mem]
end Go.Proofs.YtjclfpcnfmpjdaaDoor

/- It is proved what goOn does; conditions: those of each statement. -/
namespace Go.Proofs.YtjclfpcnfmpjdaaDoor
open Go.RowKit Go.Shelf

attribute [local go_sem] Oper.semAt_some

set_option maxRecDepth 100000 in
set_option maxHeartbeats 8000000 in
theorem goOn_any (By Bp Bg Br l m b n₁ N : Nat) (hm : m ≤ 6) (L : Lies By Bp Bg Br l b n₁) (J : List (Value × List Nat) → World → Prop) (hJ : OwnAll n₁ J)
    (hY : ∀ k pre x W1, J pre W1 → OkN m x W1 → pre.length < N → YieldAt Fence.wide k Tryd.prog l #[x.1] W1 fun e W' => e = .returned (.bool true) ∧ J (pre ++ [x]) W' ∧ But (fun k => k = l ∨ k = b) W1 W') :
    ∀ (k s : Nat), s < 64 → (mem s).length = k → (∀ v ∈ mem s, v < m) → ∀ (p : List Nat) (pre : List (Value × List Nat)) (W : World), p.length + k = m → (∀ v ∈ p, v < m) → pre.length + 6 ^ k ≤ N → n₁ ≤ W.heap.size → J pre W → OS By Bp Bg Br l m W p →
    Calls Tryd.prog 106 #[.int .i64 (s : Int), .pointer (some ⟨By, 0, none⟩), .pointer (some ⟨Bp, 0, none⟩), .pointer (some ⟨Bg, 0, none⟩)] W fun e W' => e = .returned (.bool true) ∧
      (∃ xs : List (Value × List Nat), xs.map (·.2) = (permsL k (mem s)).map (p ++ ·) ∧ J (pre ++ xs) W') ∧ OS By Bp Bg Br l m W' p ∧ But (Xg Bp Br l b) W W'
  | 0, s, hs, hk, hsm, p, pre, W, hp, hpv, hN, hn, h0, hO => by
    obtain rfl : s = 0 := mem_none s hs (List.eq_nil_of_length_eq_zero hk)
    refine (goOn0 By Bp Bg Br l m b n₁ N L J hJ hY p (by omega) hpv pre (by simp at hN; omega) W hn h0 hO).mono ?_
    rintro e W' ⟨rfl, ⟨xs, hxs, hj⟩, hO', hb⟩
    exact ⟨rfl, ⟨xs, by rw [hxs]; simp [permsL], hj⟩, hO', hb⟩
  | k + 1, s, hs, hk, hsm, p, pre, W, hp, hpv, hN, hn, h0, hO => by
    have hs0 : ((s : Int) == 0) = false := by
      have : s ≠ 0 := fun e => by subst e; rw [mem_zero] at hk; cases hk
      simp; omega
    have hmx : Tryd.prog.follows .mixedOrders = true := by kernel_rfl
    have h16 : 1 ≤ 6 := by omega
    have hus : (mem s).length ≤ 6 := by omega
    have hO3 := ((hO.alloc (.cells #[.int .i64 (s : Int)] 64)).alloc (.cells #[.bool false] 4)).alloc (.cells #[.int .i64 (s : Int)] 64)
    have hJ3 : J pre (((W.alloc (.cells #[.int .i64 (s : Int)] 64)).alloc (.cells #[.bool false] 4)).alloc (.cells #[.int .i64 (s : Int)] 64)) :=
      hJ _ _ _ none (hJ _ _ _ none (hJ _ _ _ none h0 (World.grownBy_alloc _ _ _) (by simp)) (World.grownBy_alloc _ _ _) (by simp)) (World.grownBy_alloc _ _ _) (by simp)
    have q0 := alloc3_0 W (.cells #[.int .i64 (s : Int)] 64) (.cells #[.bool false] 4) (.cells #[.int .i64 (s : Int)] 64)
    have q1 := alloc3_1 W (.cells #[.int .i64 (s : Int)] 64) (.cells #[.bool false] 4) (.cells #[.int .i64 (s : Int)] 64)
    have q2 := alloc3_2 W (.cells #[.int .i64 (s : Int)] 64) (.cells #[.bool false] 4) (.cells #[.int .i64 (s : Int)] 64)
    have hbt : But (Xg Bp Br l b) W (((W.alloc (.cells #[.int .i64 (s : Int)] 64)).alloc (.cells #[.bool false] 4)).alloc (.cells #[.int .i64 (s : Int)] 64)) := ((But.alloc _ _).trans (But.alloc _ _)).trans (But.alloc _ _)
    have hlt4 : By < W.heap.size ∧ Bp < W.heap.size ∧ Bg < W.heap.size ∧ Br < W.heap.size := ⟨hO.y.lt, hO.q.lt, hO.g.lt, by obtain ⟨_, _, _, h⟩ := hO.r; exact h.lt⟩
    have hx1 : ∀ i, Xg Bp Br l b i → i < W.heap.size := by intro i h; have := L.l2; have := L.b2; unfold Xg at h; omega
    have IH := goOn_any By Bp Bg Br l m b n₁ N hm L J hJ hY k
    clear h0 hO hY
    refine (callsIn_wide (n := 6)).1 ?_
    refine callsIn_of_wp_marks Tryd.func106 rfl trivial ?_ rfl
    simp only [Tryd.ntmps106, List.size_toArray, List.length_cons, List.length_nil, Nat.reduceAdd, Nat.reduceSub, Array.replicate_succ, Array.replicate_zero, List.push_toArray, List.append_toArray, List.nil_append, List.cons_append]
    gi_wp2_with (refine ⟨trivial, ?_⟩; gi_at_call 53; refine (callsIn_wide.2 (members_any _ _)).mono ?_; rintro e w' ⟨rfl, rfl⟩)
    obtain ⟨W0, hW0⟩ : ∃ W0, ((W.alloc (.cells #[.int .i64 (s : Int)] 64)).alloc (.cells #[.bool false] 4)).alloc (.cells #[.int .i64 (s : Int)] 64) = W0 := ⟨_, rfl⟩
    have hso : W0.heap.size = W.heap.size + 1 + 1 + 1 := by rw [← hW0]; simp
    rw [hW0] at hO3 hJ3 q0 q1 q2 hbt ⊢
    have Q0 : Hid (HasBlk W0 W.heap.size #[.int .i64 (s : Int)] 64) := Lib.hid q0
    have Q1 : Hid (HasBlk W0 (W.heap.size + 1) #[.bool false] 4) := Lib.hid q1
    have HJ3 := Lib.hid hJ3
    have HO3 := Lib.hid hO3
    have HSO := Lib.hid hso
    have HBT := Lib.hid hbt
    have HXl := Lib.hid hx1
    have hst := membersS_stops (6 - 1) (by omega) (W.heap.size + 1 + 1) 2 s hs W0 (by omega) (by have := L.l1; have := L.l2; omega) (by omega) ((blk_cell q2 0).trans (cell1_0 _)) hO3.t
    clear hW0 q0 q1 q2 hJ3 hO3 hbt hso hx1
    refine wpIn_rangeFunc_ownG rfl h16 (gf := 88) (lb := #[.pointer (some ⟨W.heap.size + 1 + 1, 0, none⟩)]) rfl trivial (enters_of Tryd.func88 (by kernel_rfl) rfl)
      hst belowK_t (belowK_b (by have := HSO.out; omega)) (Below.refl _ _) (fun _ => rfl)
      (fun ys Wr => (∃ xs : List (Value × List Nat), xs.map (·.2) = (partL k (mem s) (valsS ys)).map (p ++ ·) ∧ J (pre ++ xs) Wr) ∧ OS By Bp Bg Br l m Wr p ∧ But (Xg Bp Br l b) W0 Wr)
      (fun _ _ _ => False)
      ?own
      (fun _ _ _ _ _ hs _ _ => hs)
      ⟨⟨[], rfl, by rw [List.append_nil]; exact HJ3.out⟩, HO3.out, But.refl _ _⟩
      (fun x => { tmps := #[.int .i64 (s : Int), .pointer (some ⟨By, 0, none⟩), .pointer (some ⟨Bp, 0, none⟩), .pointer (some ⟨Bg, 0, none⟩), .pointer (some ⟨W.heap.size, 0, none⟩), .pointer (some ⟨W.heap.size + 1, 0, none⟩), .int .i64 (x.1 : Int), .int .i64 (s : Int), .bool false, undef, undef, undef, .int .i64 (s : Int), .func (.func 88) #[] #[.pointer (some ⟨W.heap.size + 1 + 1, 0, none⟩)], .int .i64 (x.1 : Int), undef, undef, undef, undef, undef, undef, undef, undef, undef, undef, undef, undef, undef, undef, undef], defers := [] }) ?assign ?body ?done ?stop
    case own =>
      rintro ys A B row ⟨⟨xs, hxs, hj⟩, hO, hb⟩ hg hr
      have hr' : ∀ r, row = some r → W0.heap.size ≤ r := fun r e => (hr r e).1
      have hs0 := HSO.out
      refine ⟨⟨xs, hxs, hJ _ _ _ row hj hg (fun r e => by have := hr' r e; omega)⟩, hO.grown hg (fun r e => by have := hr' r e; have := L.l1; have := L.l2; omega), ?_⟩
      exact ⟨hg.os.trans hb.os, hg.tape.trans hb.tape, hg.output.trans hb.output, Nat.le_trans hb.size hg.size, fun i hi hX => (hg.block i (Nat.lt_of_lt_of_le hi hb.size) (fun e => by have := hr' i e.symm; omega)).trans (hb.same i hi hX)⟩
    case assign =>
      intro l1 x Wr K hK
      gi_wp2
      exact hK
    case body =>
      rintro l1 ys x Wr ⟨⟨xs, hxs, hj⟩, hO, hb⟩ hlt
      obtain ⟨v, hv⟩ := x
      have hv6 : v < 6 := by
        have := (mem_mem s v).1 hv
        omega
      have hpm : p.length < m := by omega
      obtain ⟨E, hE, hOE, hbE, hsE⟩ := put_name L hO hpm v
      have hgE : J (pre ++ xs) E := by
        rw [← hE]
        have a0 := hJ _ _ _ none hj (World.grownBy_alloc _ (.cells #[.int .i64 (v : Int)] 3) none) (by simp)
        have a1 := hJ _ _ _ (some Br) a0 (only_setCell (p := ⟨Br, p.length, none⟩) (World.grownBy.refl _ _) rfl (.int .i64 (v : Int))) (fun r e => by injection e with e; rw [← e]; exact L.r)
        exact hJ _ _ _ (some Bp) a1 (only_setCell (p := ⟨Bp, 0, none⟩) (World.grownBy.refl _ _) rfl (.slice (some ⟨Br, 0, none⟩) (p.length + 1) m)) (fun r e => by injection e with e; rw [← e]; exact L.p)
      have cp := hO.q.cell
      have fp := (hO.q.alloc (.cells #[.int .i64 (v : Int)] 3)).frozen
      have cp' := (hO.q.alloc (.cells #[.int .i64 (v : Int)] 3)).cell
      have hprne : ¬ (Bp = Br) := L.pr
      obtain ⟨R, hR1, hR2, hR3⟩ := hO.r
      have cr := hR3.cell p.length (by omega)
      have fr := (hR3.alloc (.cells #[.int .i64 (v : Int)] 3)).frozen p.length
      have cr' := (hR3.alloc (.cells #[.int .i64 (v : Int)] 3)).cell p.length (by omega)
      have cl0 := (blk_cell (show HasBlk Wr W.heap.size #[.int .i64 (s : Int)] 64 from hb.keep (fun e => by have := HXl.out _ e; omega) Q0.out) 0).trans (cell1_0 _)
      have clE := (blk_cell (show HasBlk E W.heap.size #[.int .i64 (s : Int)] 64 from hbE.keep (fun e => by have := HXl.out _ e; omega) (hb.keep (fun e => by have := HXl.out _ e; omega) Q0.out)) 0).trans (cell1_0 _)
      have cgE := hOE.g.cell
      have hxl : xs.length ≤ ys.length * 6 ^ k := by
        have h1 := congrArg List.length hxs
        rw [List.length_map, List.length_map] at h1
        have h2 := partL_count k (mem s) (valsS ys) hus
        rw [show (valsS ys).length = ys.length from by simp [valsS]] at h2
        omega
      have hpn : (pre ++ xs).length + 6 ^ k ≤ N := by
        rw [List.length_append]
        have h1 : ys.length * 6 ^ k + 6 ^ k ≤ 6 * 6 ^ k := by
          rw [← Nat.succ_mul]; exact Nat.mul_le_mul_right _ hlt
        rw [Nat.pow_succ, Nat.mul_comm (6 ^ k) 6] at hN
        omega
      have hwm : mem (woP s v) = (mem s).erase v := wo_mem s v hs hv6
      have IHc := IH (woP s v) (by have := wo_le s v; omega) (by rw [hwm, List.length_erase_of_mem hv]; omega) (fun u hu => hsm u (List.mem_of_mem_erase (by rw [hwm] at hu; exact hu))) (p ++ [v]) (pre ++ xs) E.drew (by simp; omega) (fun u hu => by rcases List.mem_append.1 hu with h | h; exact hpv u h; simp at h; rw [h]; exact hsm v hv) hpn (show n₁ ≤ E.heap.size by have := HSO.out; have := hb.size; omega) (hJ _ _ _ none hgE ⟨rfl, rfl, rfl, Nat.le_refl _, fun _ _ _ => rfl⟩ (by simp)) hOE.drew
      rw [hwm] at IHc
      obtain ⟨pl, hpl⟩ : ∃ pl, pl = p.length := ⟨_, rfl⟩
      have HPL := Lib.hid hpl
      have hplm : pl < m := by omega
      have hplI : (pl : Int) < (m : Int) := by omega
      have HO := Lib.hid hO
      have HB := Lib.hid hb
      have HXS := Lib.hid hxs
      have HBE := Lib.hid hbE
      have HW1 : Hid (∀ (W4 : World), OS By Bp Bg Br l m W4 (p ++ [v]) → OS By Bp Bg Br l m (W4.setCell ⟨Bp, 0, none⟩ (.slice (some ⟨Br, 0, none⟩) pl m)) p ∧ But (Xg Bp Br l b) W4 (W4.setCell ⟨Bp, 0, none⟩ (.slice (some ⟨Br, 0, none⟩) pl m))) := Lib.hid (fun W4 h => by rw [hpl]; exact off_name L h)
      rw [← hpl] at hE cp cr fr cr' cp'
      clear hO hb hxs hbE hR1 hR2 hR3 hj hgE hOE hxl hpn hwm hpl hpm hp
      gi_wp2
      refine wpIn_region_still_tail_o (Fence.Open.wide.inRound l1) 4 hmx (by kernel_rfl) (by kernel_rfl) ?_
      simp only [List.take_succ_cons, List.take_zero, List.drop_succ_cons, List.drop_zero]
      repeat still_step
      still_call ((without_any s v hs hv6 _).mono fun _ _ h => ⟨h.1, h.2.symm⟩)
      repeat still_step
      refine wpStill_nil ?_
      change wpListIn _ _ _ _ _ _ _ E.drew
      gi_wp2_with (refine ⟨trivial, ?_⟩; gi_at_call 106; refine (CallsIn.inRound l1 (callsIn_wide.2 IHc)).mono ?_; rintro e W4 ⟨rfl, ⟨xs2, hxs2, hj2⟩, hO4, hb4⟩; have c4 := hO4.q.cell; have f4 := hO4.q.frozen; rw [show (p ++ [v]).length = pl + 1 from by rw [List.length_append, HPL.out]; rfl] at c4; have HJ2 := Lib.hid hj2; have HO4 := Lib.hid hO4; have HB4 := Lib.hid hb4; have HXS2 := Lib.hid hxs2; clear hj2 hO4 hb4 hxs2)
      obtain ⟨hO5, hb5⟩ := HW1.out W4 HO4.out
      have hbt5 := (HBE.out.trans (But.drew E)).trans (HB4.out.trans hb5)
      have hs0 := HSO.out
      refine ⟨hbt5.from (fun i o hB hi hX => by have := HXl.out i hX; omega), hbt5.below (B := 2) (by have := HB.out.size; omega) (fun i hX => L.x1 i hX), ⟨xs ++ xs2, ?_, ?_⟩, hO5, HB.out.trans hbt5⟩
      · rw [valsS_snoc, partL_snoc, List.map_append, List.map_append, HXS.out, HXS2.out, List.map_map]
        congr 1
        apply List.map_congr_left
        intro z _
        simp
      · rw [← List.append_assoc]
        exact hJ _ _ _ (some Bp) HJ2.out (only_setCell (p := ⟨Bp, 0, none⟩) (World.grownBy.refl _ _) rfl _) (fun r e => by injection e with e; rw [← e]; exact L.p)
    case done =>
      rintro D ys Wr hD hys ⟨⟨xs, hxs, hj⟩, hO, hb⟩ hK
      rw [hys] at hxs
      have qr : HasBlk Wr (W.heap.size + 1) #[.bool false] 4 := hb.keep (fun e => by have := HXl.out _ e; omega) Q1.out
      have c3 := (blk_cell qr 0).trans (cell1_0 _)
      have f3 := blk_frozen qr 0
      have hs0 := HSO.out
      have hK1 : (Wr.setCell ⟨W.heap.size + 1, 0, none⟩ (.bool true)).heap[D]? = some (.deferred (some [])) := (Below.heap_setCell Wr ⟨W.heap.size + 1, 0, none⟩ (.bool true) D (show D ≠ W.heap.size + 1 by omega)).trans hK
      have hDl : D < Wr.heap.size := lt_of_some hK
      have hL1 := L.l1
      have hL2 := L.l2
      have hO5 : OS By Bp Bg Br l m ((Wr.setCell ⟨W.heap.size + 1, 0, none⟩ (.bool true)).putObj D (.deferred none)) p := OS.grown (hO.far (B := W.heap.size + 1) (by omega) (by omega) (by omega) (by omega) (by omega) (.bool true)) (grownBy_putObj' _ D _) (fun r e => by injection e; omega)
      have hJ5 : J (pre ++ xs) ((Wr.setCell ⟨W.heap.size + 1, 0, none⟩ (.bool true)).putObj D (.deferred none)) :=
        hJ _ _ _ (some D) (hJ _ _ _ (some (W.heap.size + 1)) hj (only_setCell (p := ⟨W.heap.size + 1, 0, none⟩) (World.grownBy.refl _ _) rfl _) (fun r e => by injection e; omega)) (grownBy_putObj' _ D _) (fun r e => by injection e; omega)
      have qr5 : HasBlk ((Wr.setCell ⟨W.heap.size + 1, 0, none⟩ (.bool true)).putObj D (.deferred none)) (W.heap.size + 1) #[.bool true] 4 := (World.putObj_heap_other (by omega)).trans ((show Boxed Wr (W.heap.size + 1) 4 (.bool false) from qr).set (.bool true))
      have c5 := (blk_cell qr5 0).trans (cell1_0 _)
      have HB5 : Hid (But (Xg Bp Br l b) W ((Wr.setCell ⟨W.heap.size + 1, 0, none⟩ (.bool true)).putObj D (.deferred none))) := Lib.hid (by
        have h1 := HBT.out.trans hb
        exact ⟨h1.os, h1.tape, h1.output, by have := h1.size; simpa using this, fun i hi hX => (World.putObj_heap_other (by omega)).trans ((Below.heap_setCell Wr ⟨W.heap.size + 1, 0, none⟩ _ i (show i ≠ W.heap.size + 1 by omega)).trans (h1.same i hi hX))⟩)
      have HO5 := Lib.hid hO5
      have HJ5 := Lib.hid hJ5
      have HXS := Lib.hid hxs
      clear hO hb hO5 hJ5 hj hxs hK qr qr5
      gi_wp2
      refine ⟨by simp, .inl ⟨_, _, rfl, run_takeDeferred hK1, ?_⟩⟩
      refine ⟨.bool true, by simp [results, Tryd.results106, go_sem, c5], rfl, ⟨xs, ?_, HJ5.out⟩, HO5.out, HB5.out⟩
      rw [HXS.out]
      rfl
    case stop =>
      rintro D c pre W _ _ h _
      exact h.elim

end Go.Proofs.YtjclfpcnfmpjdaaDoor

/- It is proved what FamilyCommon of the program and of the model return; conditions: those of each statement. -/
namespace Go.Proofs.YtjclfpcnfmpjdaaDoor
open Go.RowKit Go.Shelf

attribute [local go_sem] Oper.semAt_some

def andAll (m : Int) (zs : List Int) : Int := zs.foldl (fun s z => bits .and .i64 s z) (fullI m)
def famCommon (m : Int) (zs : List Int) : Int := if famIn m zs then andAll m zs else 0
theorem full_any (m : Int) (a : Option Addr) (n cap : Nat) (w : World) (h1 : 1 ≤ m) (h2 : m ≤ 6) :
    Calls Tryd.prog 56 #[.agg #[.int .i64 m, .slice a n cap]] w fun e w' => e = .returned (.int .i64 (fullI m)) ∧ w' = w.alloc (.cells #[.int .i64 m, .slice a n cap] 25) := by
  rcases m16 h1 h2 with rfl | rfl | rfl | rfl | rfl | rfl
  all_goals
    go_enter Tryd.func56, Tryd.ntmps56
    go_wp2
    go_ret
    exact ⟨rfl, rfl⟩

end Go.Proofs.YtjclfpcnfmpjdaaDoor

/- It is proved what allNames yields; conditions: those of each statement. -/
namespace Go.Proofs.YtjclfpcnfmpjdaaDoor
open Go.RowKit Go.Shelf

set_option maxRecDepth 100000 in
theorem mem_full_fin : ∀ m : Fin 7, mem (2 ^ m.val - 1) = List.range m.val := by decide +kernel

theorem mem_fullR (m : Nat) (hm : m ≤ 6) : mem (2 ^ m - 1) = List.range m := mem_full_fin ⟨m, by omega⟩
theorem full_nat (m : Nat) : fullI (m : Int) = ((2 ^ m - 1 : Nat) : Int) := by
  have h1 : 1 ≤ 2 ^ m := Nat.one_le_two_pow
  have : ((2 ^ m - 1 : Nat) : Int) = ((2 ^ m : Nat) : Int) - 1 := by omega
  rw [this]; simp [fullI]

theorem run_make0 (m : Nat) (hm : m ≤ 6) (w : World) : (Instr.makeSlice 23 (.int .i64 0) (.int .i64 (m : Int))).run Tryd.prog w = .ok (.slice (some ⟨w.heap.size, 0, none⟩) 0 m) (w.alloc (.cells (iv (List.replicate m 0)) 3)) := by
  obtain ⟨i0, hi0, hz0, hz1, hz2⟩ := info_parts Tryd.info3
  have := run_make (P := Tryd.prog) w 23 3 i0 (.int .i64 0) Tryd.underlying23 hi0 hz0 .i64 .i64 0 (m : Int) (Int.le_refl _) (by omega) (by rw [hz2]; omega) (by omega)
  rw [this, hz1]
  have e : madeCells (Value.int .i64 0).cells ((m : Int).toNat * 1) = iv (List.replicate m 0) := by
    apply Array.toList_inj.1
    rw [show (Value.int .i64 0).cells = #[Value.int .i64 0] from rfl, toList_madeCells_one]; simp [iv]
  rw [e]; rfl

theorem store_new (w : World) (n : Nat) (hn : n = w.heap.size) (u v : Value) (t : TypeId) (hv : v.oneCell' = true) : (store ⟨n, 0, none⟩ v).run Tryd.prog (w.alloc (.cells #[u] t)) = .ok () (w.alloc (.cells #[v] t)) := by
  subst hn
  have q : Boxed (w.alloc (.cells #[u] t)) w.heap.size t u := Boxed.new w t u
  rw [run_store _ _ _ _ _ hv, q.cell]
  simp only [q.frozen]
  rw [World.setCell_alloc_new]
  rfl

set_option maxRecDepth 100000 in
set_option maxHeartbeats 4000000 in
theorem allNames1_in (m b n : Nat) (hm0 : 1 ≤ m) (hm : m ≤ 6) (hb1 : 1 < b) (Bm : Nat) (w : World) (hBm : Bm < w.heap.size) (hc : w.cell? ⟨Bm, 0, none⟩ = some (.int .i64 (m : Int))) (hT : Tab w) :
    SeqCells n Tryd.prog 105 #[.pointer (some ⟨Bm, 0, none⟩)] (fun x : Value × List Nat => #[x.1]) b (OkN m) (fun xs => xs.map (·.2) = permsL m (List.range m)) (6 ^ m) w := by
  intro l J W hW hl1 hl2 hb2 hJ hY h0
  refine callsIn_wide.2 ?_
  have hT1 := hT.lt
  have hTW : Tab W := hT.below hW (by omega)
  have hcW := (hW.cell (p := ⟨Bm, 0, none⟩) hBm).trans hc
  have hBW : Bm < W.heap.size := Nat.lt_of_lt_of_le hBm hW.size
  have hmk := run_make0 m hm
  have hlen : (mem (2 ^ m - 1)).length = m := by rw [mem_fullR m hm, List.length_range]
  have h63 : 2 ^ m - 1 < 64 := by have := Nat.pow_le_pow_right (n := 2) (by decide) hm; omega
  obtain ⟨W4, hW4, q0, q1, q2, q3, hs4, hb4⟩ : ∃ W4, (((W.alloc (.cells #[.func (.yield l) #[] #[]] 122)).alloc (.cells (iv (List.replicate m 0)) 3)).alloc (.cells #[.slice (some ⟨W.heap.size + 1, 0, none⟩) 0 m] 23)).alloc (.cells #[.func (.func 106) #[] #[.pointer (some ⟨W.heap.size, 0, none⟩), .pointer (some ⟨W.heap.size + 1 + 1, 0, none⟩), .pointer (some ⟨W.heap.size + 1 + 1 + 1, 0, none⟩)]] 123) = W4 ∧
      HasBlk W4 W.heap.size #[.func (.yield l) #[] #[]] 122 ∧ Nums W4 (W.heap.size + 1) 3 (List.replicate m 0) ∧ HasBlk W4 (W.heap.size + 1 + 1) #[.slice (some ⟨W.heap.size + 1, 0, none⟩) 0 m] 23 ∧
      HasBlk W4 (W.heap.size + 1 + 1 + 1) #[.func (.func 106) #[] #[.pointer (some ⟨W.heap.size, 0, none⟩), .pointer (some ⟨W.heap.size + 1 + 1, 0, none⟩), .pointer (some ⟨W.heap.size + 1 + 1 + 1, 0, none⟩)]] 123 ∧ W4.heap.size = W.heap.size + 1 + 1 + 1 + 1 ∧ Below W.heap.size W W4 := by
    refine ⟨_, rfl, ?_, ?_, ?_, ?_, by simp, (below3 W _ _ _).alloc (by simp; omega) _⟩
    · exact (alloc_old _ _ _ (by simp <;> omega)).trans (alloc3_0 W _ _ _)
    · exact (alloc_old _ _ _ (by simp <;> omega)).trans (alloc3_1 W _ _ _)
    · exact (alloc_old _ _ _ (by simp <;> omega)).trans (alloc3_2 W _ _ _)
    · unfold HasBlk
      rw [show W.heap.size + 1 + 1 + 1 = (((W.alloc (.cells #[.func (.yield l) #[] #[]] 122)).alloc (.cells (iv (List.replicate m 0)) 3)).alloc (.cells #[.slice (some ⟨W.heap.size + 1, 0, none⟩) 0 m] 23)).heap.size from by simp]
      exact alloc_new _ _
  have hJ4 : J [] W4 := by
    rw [← hW4]
    exact hJ _ _ _ none (hJ _ _ _ none (hJ _ _ _ none (hJ _ _ _ none h0 (World.grownBy_alloc _ _ _) (by simp)) (World.grownBy_alloc _ _ _) (by simp)) (World.grownBy_alloc _ _ _) (by simp)) (World.grownBy_alloc _ _ _) (by simp)
  have hO4 : OS W.heap.size (W.heap.size + 1 + 1) (W.heap.size + 1 + 1 + 1) (W.heap.size + 1) l m W4 [] := ⟨q0, q3, q2, ⟨List.replicate m 0, by simp, by simp [nI], q1⟩, hTW.below hb4 hTW.lt⟩
  have LL : Lies W.heap.size (W.heap.size + 1 + 1) (W.heap.size + 1 + 1 + 1) (W.heap.size + 1) l b W.heap.size :=
    ⟨by omega, hl2, hb1, hb2, by omega, by omega, by omega, by omega, by omega, by omega, by omega, by omega, by omega⟩
  have IH := goOn_any W.heap.size (W.heap.size + 1 + 1) (W.heap.size + 1 + 1 + 1) (W.heap.size + 1) l m b W.heap.size (6 ^ m) hm LL J hJ (fun k pre x W1 h1 h2 h3 => yield_any k (hY pre x W1 h1 h2 h3)) m (2 ^ m - 1) h63 hlen (fun v hv => by rw [mem_fullR m hm] at hv; simpa using hv) [] []
  have cg := q3
  have cgc := (blk_cell q3 0).trans (cell1_0 _)
  have cm : W4.cell? ⟨Bm, 0, none⟩ = some (.int .i64 (m : Int)) := (hb4.cell (p := ⟨Bm, 0, none⟩) hBW).trans hcW
  rw [mem_fullR m hm] at IH
  have HIH := Lib.hid IH
  have HJ4 := Lib.hid hJ4
  have HO4 := Lib.hid hO4
  have HJ5 : Hid (J [] (W4.drew.alloc (.cells #[.int .i64 (m : Int), .slice none 0 0] 25))) := Lib.hid (hJ _ _ _ none (show J [] W4.drew from hJ _ _ _ none hJ4 (show W4.grownBy W4.drew none from ⟨rfl, rfl, rfl, Nat.le_refl _, fun _ _ _ => rfl⟩) (by simp)) (World.grownBy_alloc _ _ _) (by simp))
  have HO5 := Lib.hid (hO4.drew.alloc (.cells #[.int .i64 (m : Int), .slice none 0 0] 25))
  have HF := Lib.hid (full_nat m)
  have hm1I : 1 ≤ (m : Int) := by omega
  have hm6I : (m : Int) ≤ 6 := by omega
  have HS4 := Lib.hid hs4
  have hB4 : Bm < W4.heap.size := by omega
  clear IH hJ4 hO4 hY h0 hJ q0 q1 q2 q3 hb4 LL hlen hs4 cg hTW hW
  go_enter Tryd.func105, Tryd.ntmps105
  have hst := store_new (((W.alloc (.cells #[.func (.yield l) #[] #[]] 122)).alloc (.cells (iv (List.replicate m 0)) 3)).alloc (.cells #[.slice (some ⟨W.heap.size + 1, 0, none⟩) 0 m] 23)) (W.heap.size + 1 + 1 + 1) (by simp) .nilFunc (.func (.func 106) #[] #[.pointer (some ⟨W.heap.size, 0, none⟩), .pointer (some ⟨W.heap.size + 1 + 1, 0, none⟩), .pointer (some ⟨W.heap.size + 1 + 1 + 1, 0, none⟩)]) 123 rfl
  rw [hW4] at hst
  go_wp2
  have hg4 : W.heap.size + 1 + 1 + 1 < W4.heap.size := by have := HS4.out; omega
  clear hst hW4 hmk
  go_region_with (first
    | (go_at_call 56; refine (full_any _ _ _ _ _ hm1I hm6I).mono ?_; rintro e w' ⟨rfl, rfl⟩; rw [HF.out])
    | (go_at_call 106; refine (HIH.out _ (by simp) (by simp) (by simp) (show W.heap.size ≤ (W4.drew.alloc (.cells #[.int .i64 (m : Int), .slice none 0 0] 25)).heap.size by simp; omega) HJ5.out HO5.out).mono ?_; rintro e w' ⟨rfl, ⟨xs, hxs, hj⟩, -, -⟩))
  all_goals
    go_wp2
    go_end0
    exact ⟨⟨_, rfl⟩, xs, by rw [hxs]; simp, hj⟩

end Go.Proofs.YtjclfpcnfmpjdaaDoor

/- It is proved what the method and of a naming returns; conditions: those of each statement. -/
namespace Go.Proofs.YtjclfpcnfmpjdaaDoor
open Go.RowKit Go.Shelf

set_option maxRecDepth 100000 in
set_option maxHeartbeats 2000000 in
theorem and_any (xs : List Int) (hl : xs.length = 13) (hm0 : (0 : Int) ≤ xs[6]?.getD 0) (hm1 : xs[6]?.getD 0 ≤ 1000000) (hc : ∀ i, 7 ≤ i → i < 13 → ∃ q : Nat, q < 64 ∧ xs[i]?.getD 0 = (q : Int))
    (a : Option Addr) (c : Nat) (ps : List Int) (hp : ps.length ≤ 6) (hp0 : 1 ≤ ps.length) (hpv : ∀ v, v < ps.length → ∃ q : Nat, q < 6 ∧ ps[v]?.getD 0 = (q : Int)) (w : World) (ha : Ints w w.heap.size a ps) :
    Calls Tryd.prog 95 #[.agg (iv xs), .slice a ps.length c] w fun e w' => e = .returned (.agg (iv (andL xs ps))) ∧ Below w.heap.size w w' := by
  obtain ⟨m, hm⟩ : ∃ m, m = xs[6]?.getD 0 := ⟨_, rfl⟩
  have h6 : (iv xs)[6]? = some (.int .i64 m) := by rw [hm]; exact iv_at xs 6 (by omega)
  obtain ⟨W3, hcp, hN3, hZ3, hB3⟩ := copy_first xs ps hl hp hp0 a c w ha
  have q0 := alloc2_0 w (.cells (iv xs) 78) (.cells z13 78)
  have q1 := alloc2_1 w (.cells (iv xs) 78) (.cells z13 78)
  have b2 := below2 w (.cells (iv xs) 78) (.cells z13 78)
  unfold z13 at hcp q0 q1 b2
  obtain ⟨n, hn⟩ : ∃ n, n = ps.length := ⟨_, rfl⟩
  have HN := Lib.hid hn
  have HA := Lib.hid ha
  have HC := Lib.hid hc
  have HPV := Lib.hid hpv
  have HL := Lib.hid hl
  have HM := Lib.hid hm
  rw [← hn] at hcp hp hp0 ⊢
  rw [← hm] at hm0 hm1
  have hm3 : m < 9223372036854775807 := by omega
  have HMM : Hid (IntKind.i64.wrap (m + 1) = m + 1) := Lib.hid (IntWalk.i64_in _ (by omega))
  by_cases hz : m = 0
  · have hF : Nums W3 w.heap.size 78 (andF xs ps) := by rw [andF, if_pos (by rw [← HM.out]; exact hz)]; exact hN3
    have hlf : (andF xs ps).length = 13 := by rw [andF_len (by omega), hl]
    have c6 := hF.cell 6 (by omega)
    have h6' : (andF xs ps)[6]?.getD 0 = 0 := by
      rw [andF, if_pos (by rw [← HM.out]; exact hz), List.getElem?_append_right (by omega), List.getElem?_drop, show ps.length + (6 - ps.length) = 6 from by omega, ← HM.out]; exact hz
    rw [h6'] at c6
    have f6 := hF.frozen 6
    have HG : Hid (Nums (W3.setCell ⟨w.heap.size, 6, none⟩ (.int .i64 1)) w.heap.size 78 (andC (andM xs ps) ps 0)) := Lib.hid (by
      have := hF.set 6 1
      rw [show andC (andM xs ps) ps 0 = (andF xs ps).set 6 1 from by rw [andC, andM, ← HM.out, hz]; rfl]
      exact this)
    have HZ1 : Hid (HasBlk (W3.setCell ⟨w.heap.size, 6, none⟩ (.int .i64 1)) (w.heap.size + 1) z13 78) := Lib.hid (HasBlk.far hZ3 (show w.heap.size + 1 ≠ w.heap.size by omega) _)
    have HB1 : Hid (Below w.heap.size w (W3.setCell ⟨w.heap.size, 6, none⟩ (.int .i64 1))) := Lib.hid (hB3.setCell (p := ⟨w.heap.size, 6, none⟩) (Nat.le_refl _) _)
    subst hz
    clear ha hc hpv hl hm hn q0 q1 b2 hN3 hZ3 hB3 hF hlf h6'
    go_enter Tryd.func95, Tryd.ntmps95
    go_wp2_with (at_builtin; refine Lib.wpList_copy_run _ rfl _ _ 23 23 rfl _ _ rfl rfl (hcp _) ?_)
    go_loopw [20] (fun i wr => ∃ k : Nat, k ≤ n ∧ i = .int .i64 (k : Int) ∧ Nums wr w.heap.size 78 (andC (andM xs ps) ps k) ∧ HasBlk wr (w.heap.size + 1) z13 78 ∧ Below w.heap.size w wr) (fun i _ => n - (intOf i).toNat)
    case atStart => exact ⟨0, Nat.zero_le _, rfl, HG.out, HZ1.out, HB1.out⟩
    case round =>
      obtain ⟨k, hk, rfl, hG, hZ, hB⟩ := hrel
      by_cases hlt : k < n
      · obtain ⟨b, off, rfl, hbb, hcc⟩ := HA.out.at_ (k := k) (by have := HN.out; omega)
        obtain ⟨q, hq6, hq⟩ := HPV.out k (by have := HN.out; omega)
        obtain ⟨x, hx64, hx⟩ := HC.out (7 + k) (by omega) (by omega)
        have c1 := (hB.cell (p := ⟨b, off + k, none⟩) hbb).trans hcc
        rw [hq] at c1
        have hl13 : (andC (andM xs ps) ps k).length = 13 := by rw [andC_len, andM_len (by have := HN.out; have := HL.out; omega), HL.out]
        have c2 := hG.cell (7 + k) (by omega)
        rw [andC_here (by have := HN.out; omega), hx] at c2
        have f2 := hG.frozen (7 + k)
        have HG2 : Hid (andC (andM xs ps) ps (k + 1) = (andC (andM xs ps) ps k).set (7 + k) (((x ||| 2 ^ q : Nat) : Int))) := Lib.hid (by rw [andC, andC_here (by have := HN.out; omega), hx, hq]; simp [orI])
        have hk0 : (0 : Int) ≤ (k : Int) := by omega
        have hk1 : (k : Int) < (n : Int) := by omega
        have hk6 : (k : Int) < 6 := by omega
        have HG0 := Lib.hid hG
        have HZ0 := Lib.hid hZ
        have HB0 := Lib.hid hB
        clear hG hZ hB hcc hq hx hl13
        go_wp2_with (go_at_call 90; refine (with_any x q (by omega) (by omega) _).mono ?_; rintro e w' ⟨rfl, rfl⟩)
        go_roundw
        case rel => exact ⟨k + 1, by omega, by go_num, by rw [HG2.out]; exact HG0.out.set _ _, HasBlk.far HZ0.out (show w.heap.size + 1 ≠ w.heap.size by omega) _, HB0.out.setCell (p := ⟨w.heap.size, 7 + k, none⟩) (Nat.le_refl _) _⟩
        case measure => simp [intOf]; omega
      · obtain rfl : k = n := by omega
        have HE : Hid (andC (andM xs ps) ps k = andL xs ps) := Lib.hid (by rw [andL, ← HN.out])
        rw [HE.out] at hG
        have hl13 : (andL xs ps).length = 13 := by rw [andL, andC_len, andM_len (by have := HN.out; have := HL.out; omega), HL.out]
        have HI := Lib.hid (iv13 hl13)
        have d0 := hG.cell 0 (by omega)
        have d1 := hG.cell 1 (by omega)
        have d2 := hG.cell 2 (by omega)
        have d3 := hG.cell 3 (by omega)
        have d4 := hG.cell 4 (by omega)
        have d5 := hG.cell 5 (by omega)
        have d6 := hG.cell 6 (by omega)
        have d7 := hG.cell 7 (by omega)
        have d8 := hG.cell 8 (by omega)
        have d9 := hG.cell 9 (by omega)
        have d10 := hG.cell 10 (by omega)
        have d11 := hG.cell 11 (by omega)
        have d12 := hG.cell 12 (by omega)
        have e0 : wr.cell? ⟨w.heap.size + 1, 0, none⟩ = some (.int .i64 0) := blk_cell hZ 0
        have g0 : wr.frozen? ⟨w.heap.size + 1, 0, none⟩ = false := blk_frozen hZ 0
        have e1 : wr.cell? ⟨w.heap.size + 1, 1, none⟩ = some (.int .i64 0) := blk_cell hZ 1
        have g1 : wr.frozen? ⟨w.heap.size + 1, 1, none⟩ = false := blk_frozen hZ 1
        have e2 : wr.cell? ⟨w.heap.size + 1, 2, none⟩ = some (.int .i64 0) := blk_cell hZ 2
        have g2 : wr.frozen? ⟨w.heap.size + 1, 2, none⟩ = false := blk_frozen hZ 2
        have e3 : wr.cell? ⟨w.heap.size + 1, 3, none⟩ = some (.int .i64 0) := blk_cell hZ 3
        have g3 : wr.frozen? ⟨w.heap.size + 1, 3, none⟩ = false := blk_frozen hZ 3
        have e4 : wr.cell? ⟨w.heap.size + 1, 4, none⟩ = some (.int .i64 0) := blk_cell hZ 4
        have g4 : wr.frozen? ⟨w.heap.size + 1, 4, none⟩ = false := blk_frozen hZ 4
        have e5 : wr.cell? ⟨w.heap.size + 1, 5, none⟩ = some (.int .i64 0) := blk_cell hZ 5
        have g5 : wr.frozen? ⟨w.heap.size + 1, 5, none⟩ = false := blk_frozen hZ 5
        have e6 : wr.cell? ⟨w.heap.size + 1, 6, none⟩ = some (.int .i64 0) := blk_cell hZ 6
        have g6 : wr.frozen? ⟨w.heap.size + 1, 6, none⟩ = false := blk_frozen hZ 6
        have e7 : wr.cell? ⟨w.heap.size + 1, 7, none⟩ = some (.int .i64 0) := blk_cell hZ 7
        have g7 : wr.frozen? ⟨w.heap.size + 1, 7, none⟩ = false := blk_frozen hZ 7
        have e8 : wr.cell? ⟨w.heap.size + 1, 8, none⟩ = some (.int .i64 0) := blk_cell hZ 8
        have g8 : wr.frozen? ⟨w.heap.size + 1, 8, none⟩ = false := blk_frozen hZ 8
        have e9 : wr.cell? ⟨w.heap.size + 1, 9, none⟩ = some (.int .i64 0) := blk_cell hZ 9
        have g9 : wr.frozen? ⟨w.heap.size + 1, 9, none⟩ = false := blk_frozen hZ 9
        have e10 : wr.cell? ⟨w.heap.size + 1, 10, none⟩ = some (.int .i64 0) := blk_cell hZ 10
        have g10 : wr.frozen? ⟨w.heap.size + 1, 10, none⟩ = false := blk_frozen hZ 10
        have e11 : wr.cell? ⟨w.heap.size + 1, 11, none⟩ = some (.int .i64 0) := blk_cell hZ 11
        have g11 : wr.frozen? ⟨w.heap.size + 1, 11, none⟩ = false := blk_frozen hZ 11
        have e12 : wr.cell? ⟨w.heap.size + 1, 12, none⟩ = some (.int .i64 0) := blk_cell hZ 12
        have g12 : wr.frozen? ⟨w.heap.size + 1, 12, none⟩ = false := blk_frozen hZ 12
        have HZ0 := Lib.hid hZ
        have HB0 := Lib.hid hB
        clear hG hZ hB hl13
        go_wp2
        refine bodyPost_ret (v := .agg (iv (andL xs ps))) ?_ rfl ?_
        · rw [← HI.out]
          simp [results, Tryd.results95, go_sem, e0, e1, e2, e3, e4, e5, e6, e7, e8, e9, e10, e11, e12]
        · have st : ∀ (W : World) (i : Nat) (v : Value), Below w.heap.size w W → Below w.heap.size w (W.setCell ⟨w.heap.size + 1, i, none⟩ v) := fun W i v h => h.setCell (p := ⟨w.heap.size + 1, i, none⟩) (Nat.le_succ _) v
          exact ⟨rfl, (st _ _ _ (st _ _ _ (st _ _ _ (st _ _ _ (st _ _ _ (st _ _ _ (st _ _ _ (st _ _ _ (st _ _ _ (st _ _ _ (st _ _ _ (st _ _ _ (st _ _ _ HB0.out)))))))))))))⟩
  · have hF : andF xs ps = xs := by rw [andF, if_neg (by rw [← HM.out]; exact hz)]
    have HG : Hid (Nums ((w.alloc (.cells ((iv xs).setIfInBounds 6 (.int .i64 (m + 1))) 78)).alloc (.cells #[Value.int IntKind.i64 0, Value.int IntKind.i64 0, Value.int IntKind.i64 0, Value.int IntKind.i64 0, Value.int IntKind.i64 0, Value.int IntKind.i64 0, Value.int IntKind.i64 0, Value.int IntKind.i64 0, Value.int IntKind.i64 0, Value.int IntKind.i64 0, Value.int IntKind.i64 0, Value.int IntKind.i64 0, Value.int IntKind.i64 0] 78)) w.heap.size 78 (andC (andM xs ps) ps 0)) := Lib.hid (by
      have := alloc2_0 w (.cells ((iv xs).setIfInBounds 6 (.int .i64 (m + 1))) 78) (.cells #[Value.int IntKind.i64 0, Value.int IntKind.i64 0, Value.int IntKind.i64 0, Value.int IntKind.i64 0, Value.int IntKind.i64 0, Value.int IntKind.i64 0, Value.int IntKind.i64 0, Value.int IntKind.i64 0, Value.int IntKind.i64 0, Value.int IntKind.i64 0, Value.int IntKind.i64 0, Value.int IntKind.i64 0, Value.int IntKind.i64 0] 78)
      rw [show andC (andM xs ps) ps 0 = xs.set 6 (m + 1) from by rw [andC, andM, ← HM.out, hF]]
      unfold Nums HasBlk
      rw [this]
      simp [iv, List.map_set])
    have HZ1 : Hid (HasBlk ((w.alloc (.cells ((iv xs).setIfInBounds 6 (.int .i64 (m + 1))) 78)).alloc (.cells #[Value.int IntKind.i64 0, Value.int IntKind.i64 0, Value.int IntKind.i64 0, Value.int IntKind.i64 0, Value.int IntKind.i64 0, Value.int IntKind.i64 0, Value.int IntKind.i64 0, Value.int IntKind.i64 0, Value.int IntKind.i64 0, Value.int IntKind.i64 0, Value.int IntKind.i64 0, Value.int IntKind.i64 0, Value.int IntKind.i64 0] 78)) (w.heap.size + 1) z13 78) := Lib.hid (alloc2_1 w (.cells ((iv xs).setIfInBounds 6 (.int .i64 (m + 1))) 78) (.cells #[Value.int IntKind.i64 0, Value.int IntKind.i64 0, Value.int IntKind.i64 0, Value.int IntKind.i64 0, Value.int IntKind.i64 0, Value.int IntKind.i64 0, Value.int IntKind.i64 0, Value.int IntKind.i64 0, Value.int IntKind.i64 0, Value.int IntKind.i64 0, Value.int IntKind.i64 0, Value.int IntKind.i64 0, Value.int IntKind.i64 0] 78))
    have HB1 := Lib.hid (below2 w (.cells ((iv xs).setIfInBounds 6 (.int .i64 (m + 1))) 78) (.cells #[Value.int IntKind.i64 0, Value.int IntKind.i64 0, Value.int IntKind.i64 0, Value.int IntKind.i64 0, Value.int IntKind.i64 0, Value.int IntKind.i64 0, Value.int IntKind.i64 0, Value.int IntKind.i64 0, Value.int IntKind.i64 0, Value.int IntKind.i64 0, Value.int IntKind.i64 0, Value.int IntKind.i64 0, Value.int IntKind.i64 0] 78))
    have hz' : (m == 0) = false := by simp [hz]
    clear ha hc hpv hl hm hn q0 q1 b2 hN3 hZ3 hB3 hF hcp
    go_enter Tryd.func95, Tryd.ntmps95
    go_wp2
    go_loopw [20] (fun i wr => ∃ k : Nat, k ≤ n ∧ i = .int .i64 (k : Int) ∧ Nums wr w.heap.size 78 (andC (andM xs ps) ps k) ∧ HasBlk wr (w.heap.size + 1) z13 78 ∧ Below w.heap.size w wr) (fun i _ => n - (intOf i).toNat)
    case atStart => exact ⟨0, Nat.zero_le _, rfl, HG.out, HZ1.out, HB1.out⟩
    case round =>
      obtain ⟨k, hk, rfl, hG, hZ, hB⟩ := hrel
      by_cases hlt : k < n
      · obtain ⟨b, off, rfl, hbb, hcc⟩ := HA.out.at_ (k := k) (by have := HN.out; omega)
        obtain ⟨q, hq6, hq⟩ := HPV.out k (by have := HN.out; omega)
        obtain ⟨x, hx64, hx⟩ := HC.out (7 + k) (by omega) (by omega)
        have c1 := (hB.cell (p := ⟨b, off + k, none⟩) hbb).trans hcc
        rw [hq] at c1
        have hl13 : (andC (andM xs ps) ps k).length = 13 := by rw [andC_len, andM_len (by have := HN.out; have := HL.out; omega), HL.out]
        have c2 := hG.cell (7 + k) (by omega)
        rw [andC_here (by have := HN.out; omega), hx] at c2
        have f2 := hG.frozen (7 + k)
        have HG2 : Hid (andC (andM xs ps) ps (k + 1) = (andC (andM xs ps) ps k).set (7 + k) (((x ||| 2 ^ q : Nat) : Int))) := Lib.hid (by rw [andC, andC_here (by have := HN.out; omega), hx, hq]; simp [orI])
        have hk0 : (0 : Int) ≤ (k : Int) := by omega
        have hk1 : (k : Int) < (n : Int) := by omega
        have hk6 : (k : Int) < 6 := by omega
        have HG0 := Lib.hid hG
        have HZ0 := Lib.hid hZ
        have HB0 := Lib.hid hB
        clear hG hZ hB hcc hq hx hl13
        go_wp2_with (go_at_call 90; refine (with_any x q (by omega) (by omega) _).mono ?_; rintro e w' ⟨rfl, rfl⟩)
        go_roundw
        case rel => exact ⟨k + 1, by omega, by go_num, by rw [HG2.out]; exact HG0.out.set _ _, HasBlk.far HZ0.out (show w.heap.size + 1 ≠ w.heap.size by omega) _, HB0.out.setCell (p := ⟨w.heap.size, 7 + k, none⟩) (Nat.le_refl _) _⟩
        case measure => simp [intOf]; omega
      · obtain rfl : k = n := by omega
        have HE : Hid (andC (andM xs ps) ps k = andL xs ps) := Lib.hid (by rw [andL, ← HN.out])
        rw [HE.out] at hG
        have hl13 : (andL xs ps).length = 13 := by rw [andL, andC_len, andM_len (by have := HN.out; have := HL.out; omega), HL.out]
        have HI := Lib.hid (iv13 hl13)
        have d0 := hG.cell 0 (by omega)
        have d1 := hG.cell 1 (by omega)
        have d2 := hG.cell 2 (by omega)
        have d3 := hG.cell 3 (by omega)
        have d4 := hG.cell 4 (by omega)
        have d5 := hG.cell 5 (by omega)
        have d6 := hG.cell 6 (by omega)
        have d7 := hG.cell 7 (by omega)
        have d8 := hG.cell 8 (by omega)
        have d9 := hG.cell 9 (by omega)
        have d10 := hG.cell 10 (by omega)
        have d11 := hG.cell 11 (by omega)
        have d12 := hG.cell 12 (by omega)
        have e0 : wr.cell? ⟨w.heap.size + 1, 0, none⟩ = some (.int .i64 0) := blk_cell hZ 0
        have g0 : wr.frozen? ⟨w.heap.size + 1, 0, none⟩ = false := blk_frozen hZ 0
        have e1 : wr.cell? ⟨w.heap.size + 1, 1, none⟩ = some (.int .i64 0) := blk_cell hZ 1
        have g1 : wr.frozen? ⟨w.heap.size + 1, 1, none⟩ = false := blk_frozen hZ 1
        have e2 : wr.cell? ⟨w.heap.size + 1, 2, none⟩ = some (.int .i64 0) := blk_cell hZ 2
        have g2 : wr.frozen? ⟨w.heap.size + 1, 2, none⟩ = false := blk_frozen hZ 2
        have e3 : wr.cell? ⟨w.heap.size + 1, 3, none⟩ = some (.int .i64 0) := blk_cell hZ 3
        have g3 : wr.frozen? ⟨w.heap.size + 1, 3, none⟩ = false := blk_frozen hZ 3
        have e4 : wr.cell? ⟨w.heap.size + 1, 4, none⟩ = some (.int .i64 0) := blk_cell hZ 4
        have g4 : wr.frozen? ⟨w.heap.size + 1, 4, none⟩ = false := blk_frozen hZ 4
        have e5 : wr.cell? ⟨w.heap.size + 1, 5, none⟩ = some (.int .i64 0) := blk_cell hZ 5
        have g5 : wr.frozen? ⟨w.heap.size + 1, 5, none⟩ = false := blk_frozen hZ 5
        have e6 : wr.cell? ⟨w.heap.size + 1, 6, none⟩ = some (.int .i64 0) := blk_cell hZ 6
        have g6 : wr.frozen? ⟨w.heap.size + 1, 6, none⟩ = false := blk_frozen hZ 6
        have e7 : wr.cell? ⟨w.heap.size + 1, 7, none⟩ = some (.int .i64 0) := blk_cell hZ 7
        have g7 : wr.frozen? ⟨w.heap.size + 1, 7, none⟩ = false := blk_frozen hZ 7
        have e8 : wr.cell? ⟨w.heap.size + 1, 8, none⟩ = some (.int .i64 0) := blk_cell hZ 8
        have g8 : wr.frozen? ⟨w.heap.size + 1, 8, none⟩ = false := blk_frozen hZ 8
        have e9 : wr.cell? ⟨w.heap.size + 1, 9, none⟩ = some (.int .i64 0) := blk_cell hZ 9
        have g9 : wr.frozen? ⟨w.heap.size + 1, 9, none⟩ = false := blk_frozen hZ 9
        have e10 : wr.cell? ⟨w.heap.size + 1, 10, none⟩ = some (.int .i64 0) := blk_cell hZ 10
        have g10 : wr.frozen? ⟨w.heap.size + 1, 10, none⟩ = false := blk_frozen hZ 10
        have e11 : wr.cell? ⟨w.heap.size + 1, 11, none⟩ = some (.int .i64 0) := blk_cell hZ 11
        have g11 : wr.frozen? ⟨w.heap.size + 1, 11, none⟩ = false := blk_frozen hZ 11
        have e12 : wr.cell? ⟨w.heap.size + 1, 12, none⟩ = some (.int .i64 0) := blk_cell hZ 12
        have g12 : wr.frozen? ⟨w.heap.size + 1, 12, none⟩ = false := blk_frozen hZ 12
        have HZ0 := Lib.hid hZ
        have HB0 := Lib.hid hB
        clear hG hZ hB hl13
        go_wp2
        refine bodyPost_ret (v := .agg (iv (andL xs ps))) ?_ rfl ?_
        · rw [← HI.out]
          simp [results, Tryd.results95, go_sem, e0, e1, e2, e3, e4, e5, e6, e7, e8, e9, e10, e11, e12]
        · have st : ∀ (W : World) (i : Nat) (v : Value), Below w.heap.size w W → Below w.heap.size w (W.setCell ⟨w.heap.size + 1, i, none⟩ v) := fun W i v h => h.setCell (p := ⟨w.heap.size + 1, i, none⟩) (Nat.le_succ _) v
          exact ⟨rfl, (st _ _ _ (st _ _ _ (st _ _ _ (st _ _ _ (st _ _ _ (st _ _ _ (st _ _ _ (st _ _ _ (st _ _ _ (st _ _ _ (st _ _ _ (st _ _ _ (st _ _ _ HB0.out)))))))))))))⟩

end Go.Proofs.YtjclfpcnfmpjdaaDoor

/- It is proved that a region that draws its order may be walked one operation at a time where what each operation gives does not hang on the order; conditions: those of each statement. -/
namespace Go
section
variable {F : Fence} {n : Nat} {P : Program} {ops : Array Oper} {Q : Exit → Act → World → Prop} {md : Region.Mode}

/-- Q, but K where nothing jumps. -/
def UponK (K : Act → World → Prop) (Q : Exit → Act → World → Prop) : Exit → Act → World → Prop
  | .normal, a, w => K a w
  | .ret, a, w => Q .ret a w
  | .exit i, a, w => Q (.exit i) a w
  | .goto t, a, w => Q (.goto t) a w
  | .panic c, a, w => Q (.panic c) a w
  | .outgrown, a, w => Q .outgrown a w

theorem Oper.wpIn_uponK {o : Oper} {a : Act} {w : World} {K K' : Act → World → Prop} (hh : o.wpIn F n P a w K (UponK K' Q)) : o.wpIn F n P a w K Q := by
  unfold Oper.wpIn at *
  refine ⟨hh.1, ?_⟩
  have hh := hh.2
  generalize (o.semAt F.round a.eval).run P w = r at *
  cases r with
  | ok x w' =>
    cases x <;> simp only [Oper.uponIn] at hh ⊢ <;>
      first
        | exact hh
        | exact ⟨hh.1, CallsIn.mono hh.2 (fun e w'' he => by cases e <;> exact he)⟩
        | exact ⟨hh.1, RoundIn.mono hh.2 (fun e w'' he => by cases e <;> exact he)⟩
  | halt x w' => cases x <;> simp only [Oper.uponIn] at hh ⊢ <;> exact hh

theorem wpOpIn_of_list {i : Nat} {o : Oper} {a : Act} {w : World} {K : Act → World → Prop} (ho : ops[i]? = some o) (h : wpListIn F n P ops (UponK K Q) [o] a w) : wpOpIn F n P ops Q i K a w := by
  unfold wpOpIn
  simp only [ho]
  unfold wpListIn at h
  split
  · rename_i hw; simp only [hw, if_true] at h; exact Oper.wpIn_uponK h
  · rename_i hw; simp only [hw] at h; exact h

def masks : Nat → List (List Bool)
  | 0 => [[]]
  | k + 1 => (masks k).flatMap fun m => [false :: m, true :: m]

theorem mem_masks : ∀ l : List Bool, l ∈ masks l.length
  | [] => by simp [masks]
  | b :: l => by
    simp only [List.length_cons, masks, List.mem_flatMap]
    exact ⟨l, mem_masks l, by cases b <;> simp⟩

/-- Where no operation may come next, all have come. -/
def Region.endsB (md : Region.Mode) (ops : Array Oper) : Bool := (masks ops.size).all fun l => !(Region.ready md ops l.toArray).isEmpty || l.all id

theorem count_set : ∀ (l : List Bool) (i : Nat), l[i]? = some false → (l.set i true).count false + 1 = l.count false
  | [], i, h => by simp at h
  | b :: l, 0, h => by simp at h; subst h; simp
  | b :: l, i + 1, h => by
    have := count_set l i (by simpa using h)
    cases b <;> simp [List.count_cons] <;> omega

theorem wpAnyIn_held {A : Array Bool → Act} {S : Array Bool → World → Prop} (hends : Region.endsB md ops = true)
    (hstep : ∀ listed w i, listed.size = ops.size → i ∈ Region.ready md ops listed → S listed w → wpOpIn F n P ops Q i (fun a' w' => a' = A (listed.setIfInBounds i true) ∧ S (listed.setIfInBounds i true) w') (A listed) w)
    (hend : ∀ listed w, listed.size = ops.size → (listed.toList.all id) = true → S listed w → Q .normal (A listed) w) :
    ∀ fuel listed w, listed.size = ops.size → listed.toList.count false ≤ fuel → S listed w → wpAnyIn F n P md ops Q fuel listed (A listed) w
  | 0, listed, w, hs, hc, hS => by
    have hall : listed.toList.all id = true := by
      rw [List.all_eq_true]
      intro x hx
      cases x
      · have := List.count_pos_iff.2 hx; omega
      · rfl
    refine ⟨?_, hend listed w hs hall hS⟩
    unfold Region.ready
    rw [List.filter_eq_nil_iff]
    intro i hi
    rw [List.mem_range] at hi
    have hi' : i < listed.size := by omega
    have : listed.getD i true = true := by
      have h1 := List.all_eq_true.1 hall listed[i] (by simp)
      simp only [id] at h1
      simp [Array.getD, hi', h1]
    simp [this]
  | fuel + 1, listed, w, hs, hc, hS => by
    refine ⟨fun h0 => hend listed w hs ?_ hS, fun i hi => ?_⟩
    · have h1 := List.all_eq_true.1 hends listed.toList (by have := mem_masks listed.toList; rwa [Array.length_toList, hs] at this)
      simpa [h0] using h1
    · refine wpOpIn_mono ?_ (hstep listed w i hs hi hS)
      rintro a' w' ⟨rfl, hS'⟩
      refine wpAnyIn_held hends hstep hend fuel _ w' (by simpa using hs) ?_ hS'
      have hu : listed.toList[i]? = some false := by
        unfold Region.ready at hi
        rw [List.mem_filter, Bool.and_eq_true, List.mem_range] at hi
        have hi' : i < listed.size := by omega
        have := hi.2.1
        simp [Array.getD, hi'] at this
        simp [hi', this]
      have := count_set listed.toList i hu
      simp only [Array.toList_setIfInBounds]
      omega

theorem wpIn_region_held {A : Array Bool → Act} {S : Array Bool → World → Prop} {id' : Nat} {a : Act} {w : World} (hm : P.follows .mixedOrders = true) (hends : Region.endsB .any ops = true)
    (ha : A (Array.replicate ops.size false) = a) (hS : S (Array.replicate ops.size false) { w with drawn := w.drawn + 1 })
    (hstep : ∀ listed w i, listed.size = ops.size → i ∈ Region.ready .any ops listed → S listed w → wpOpIn F n P ops Q i (fun a' w' => a' = A (listed.setIfInBounds i true) ∧ S (listed.setIfInBounds i true) w') (A listed) w)
    (hend : ∀ listed w, listed.size = ops.size → (listed.toList.all id) = true → S listed w → Q .normal (A listed) w) : (Code.region id' ops true).wpIn F n P Q a w := by
  subst ha
  exact wpIn_region_any hm (wpAnyIn_held hends hstep hend ops.size _ _ (by simp) (by simp) hS)

end
end Go

/- It is proved what the method ask leaves in its map; conditions: those of each statement. -/
namespace Go.Proofs.YtjclfpcnfmpjdaaDoor
open Go.RowKit Go.Shelf Go.Maps

attribute [local go_sem] Oper.semAt_some

theorem arr8 (x : Array Bool) (h : x.size = 8) : ∃ l0 l1 l2 l3 l4 l5 l6 l7 : Bool, x = #[l0, l1, l2, l3, l4, l5, l6, l7] := by
  obtain ⟨l⟩ := x
  match l, h with
  | [l0, l1, l2, l3, l4, l5, l6, l7], _ => exact ⟨_, _, _, _, _, _, _, _, rfl⟩

theorem zeroNm (w : World) : (zeroValue 78).run Tryd.prog w = .ok (.agg (iv zero13)) w := by kernel_rfl
theorem wpListIn_lookup_row {F : Fence} {nF : Nat} (w : World) {ops : Array Oper} {rest : List Oper} {o : Oper} {a : Act} {Q : Exit → Act → World → Prop}
    (hg : o.guard = none) (mm x : Operand) (hop : o.op = Op.lookup 55 mm x false) (b n : Nat) (D : DataW Unit)
    (hm : a.eval mm = .map (some b)) (hown : OwnT w b n D) (key : Value) (lk : Lit) (hx : a.eval x = key) (hkey : keyOf Tryd.prog 57 key = some lk) (L : List Int) (hat : D.atKey lk (intsD zero13) = intsD L)
    (hK : wpListIn F nF Tryd.prog ops Q rest (a.put o.dst (.agg (iv L))) w) : wpListIn F nF Tryd.prog ops Q (o :: rest) a w := by
  refine wpListIn_plain hg fun K' hK' => ?_
  obtain ⟨v, ps, hrun, hv⟩ := hown.lookup keyLaw Tryd.underlying55 (zeroNm w) (rowR_mk zero13) hkey
  rw [hat] at hv
  obtain rfl := rowR_inv hv
  unfold Oper.wpIn
  refine ⟨by simp [Oper.about, hop], ?_⟩
  rw [Oper.semAt_plain F _ _ (by rw [hop]; intro c hc'; cases hc')]
  simp [execOp, hop, hm, hx, hrun, Result.andThen]
  exact hK' _ _ hK

/-- Before the map is written. -/
structure PreA (W W' : World) (h Mb b n m : Nat) (pa : Option Addr) (p : List Nat) (K : Array Value) (D : DataW Unit) : Prop where
  k : HasBlk W' h #[.map (some b)] 55
  q : HasBlk W' Mb K 57
  i : Ints W' W'.heap.size pa (nI p)
  o : OwnT W' b n D
  t : But (fun k => k = b) W W'

/-- Behind it. -/
structure PostA (W W' : World) (b n : Nat) (D : DataW Unit) : Prop where
  o : OwnT W' b n D
  t : But (fun k => k = b) W W'

theorem PreA.below {W W' W2 : World} {h Mb b n m : Nat} {pa : Option Addr} {p : List Nat} {K : Array Value} {D : DataW Unit} (P : PreA W W' h Mb b n m pa p K D) (hb : Below W'.heap.size W' W2) : PreA W W2 h Mb b n m pa p K D :=
  ⟨(hb.block _ (lt_of_some P.k)).trans P.k, (hb.block _ (lt_of_some P.q)).trans P.q, (P.i.below hb).mono hb.size, P.o.but (But.of_below (X := fun _ => False) hb) (fun h => h), P.t.trans (But.of_below hb)⟩

theorem ints_putObj {A : World} {B l : Nat} {o : Obj} {a : Option Addr} {zs : List Int} (h : Ints A B a zs) (hl : ∃ o', A.heap[l]? = some o' ∧ o'.isCells = false) : Ints (A.putObj l o) B a zs := by
  rcases h with h | ⟨g, off, e, hg, hc⟩
  · exact .inl h
  · by_cases hz : zs = []
    · exact .inl hz
    · refine .inr ⟨g, off, e, hg, fun j hj => ?_⟩
      have hne : g ≠ l := by
        rintro rfl
        obtain ⟨o', ho, hn⟩ := hl
        have := hc 0 (List.length_pos_iff.2 hz)
        cases o' <;> simp [World.cell?, ho] at this
        cases hn
      exact (World.cell?_of_block (a := ⟨g, off + j, none⟩) (World.putObj_heap_other hne)).trans (hc j hj)

set_option maxRecDepth 100000 in
set_option maxHeartbeats 8000000 in
theorem ask_any (m : Nat) (hm0 : 1 ≤ m) (hm : m ≤ 6) (a : Option Addr) (c : Nat) (zs : List Int) (w : World) (ha : Ints w w.heap.size a zs) (hT : Tab w) (hf : famIn (m : Int) zs = true) (b n0 : Nat) (D0 : DataW Unit) (hb1 : 1 < b) (hown : OwnT w b n0 D0) :
    Calls Tryd.prog 76 #[.map (some b), .agg #[.int .i64 (m : Int), .slice a zs.length c]] w fun e w' => e = .returned (.tuple #[]) ∧
      (∃ n D, OwnT w' b n D ∧ TabD zs D (permsL m (List.range m))) ∧ But (fun k => k = b) w w' := by
  have hbw : b < w.heap.size := hown.lt
  obtain ⟨hm1, hm6, hl8, hz4⟩ := famIn_out hf
  have hown2 : OwnT ((w.alloc (.cells #[.map (some b)] 55)).alloc (.cells #[.int .i64 (m : Int), .slice a zs.length c] 25)) b n0 D0 := (hown.alloc _).alloc _
  obtain ⟨W3, hcl, hown3, hg3⟩ := clear_own hown2
  have hb3 : But (fun k => k = b) w W3 := ((But.alloc _ _).trans (But.alloc _ _)).trans (But.of_grownBy hg3 (fun r e _ => by injection e with e; exact e.symm))
  have q0 : HasBlk W3 w.heap.size #[.map (some b)] 55 := (hg3.block w.heap.size (by simp; omega) (fun e => by injection e; omega)).trans (alloc2_0 w _ _)
  have q1 : HasBlk W3 (w.heap.size + 1) #[.int .i64 (m : Int), .slice a zs.length c] 25 := (hg3.block (w.heap.size + 1) (by simp) (fun e => by injection e; omega)).trans (alloc2_1 w _ _)
  have hs3 : w.heap.size + 2 ≤ W3.heap.size := by have := hg3.size; simpa using this
  obtain ⟨n, hn⟩ : ∃ n, n = zs.length := ⟨_, rfl⟩
  have HN := Lib.hid hn
  have HI := Lib.hid ha
  have HT := Lib.hid hT
  have HF := Lib.hid hf
  have hx : n ≤ 8 := by omega
  have hz8 : zs.length ≤ 8 := by omega
  have HZ : Hid (∀ z ∈ zs, z.toNat < 2 ^ m) := Lib.hid (fun z hz => by
    have h1 := hz4 z hz
    have h2 : ((2 ^ m : Nat) : Int) = (2 : Int) ^ m := by simp
    have h3 : fullI (m : Int) = ((2 ^ m - 1 : Nat) : Int) := full_nat m
    have h4 : 1 ≤ 2 ^ m := Nat.one_le_two_pow
    omega)
  rw [← hn] at hcl q1 ⊢
  have c0 := (blk_cell q0 0).trans (cell1_0 _)
  have c1a := (blk_cell q1 0).trans (cell2_0 _ _)
  have c1b := (blk_cell q1 1).trans (cell2_1 _ _)
  have Q0 := Lib.hid q0
  have Q1 := Lib.hid q1
  have HB3 := Lib.hid hb3
  have HO3 := Lib.hid hown3
  have HS3 := Lib.hid hs3
  have HMB := Lib.hid hown.blk
  have hmx : Tryd.prog.follows .mixedOrders = true := by kernel_rfl
  clear ha hT hf hn hz4 hown2 hg3 q0 q1 hb3 hown3 hown
  refine (callsIn_wide (n := 6)).1 ?_
  refine callsIn_of_wp_marks Tryd.func76 rfl trivial ?_ rfl
  simp only [Tryd.ntmps76, List.size_toArray, List.length_cons, List.length_nil, Nat.reduceAdd, Nat.reduceSub, Array.replicate_succ, Array.replicate_zero, List.push_toArray, List.append_toArray, List.nil_append, List.cons_append]
  gi_wp2_with (refine ⟨trivial, ?_⟩; gi_at_call 94; refine (callsIn_wide.2 (allNames_any _ _)).mono ?_; rintro e w' ⟨rfl, rfl⟩)
  obtain ⟨Bm, hBm⟩ : ∃ Bm, Bm = W3.heap.size := ⟨_, rfl⟩
  have hc4 : (W3.alloc (.cells #[.int .i64 (m : Int)] 3)).cell? ⟨Bm, 0, none⟩ = some (.int .i64 (m : Int)) := by rw [hBm]; exact (blk_cell (alloc_new _ _) 0).trans (cell1_0 _)
  have hO4 : OwnT (W3.alloc (.cells #[.int .i64 (m : Int)] 3)) b 0 (.map []) := HO3.out.alloc _
  have hB4 := HB3.out.trans (But.alloc W3 (.cells #[.int .i64 (m : Int)] 3))
  have hQ0 : HasBlk (W3.alloc (.cells #[.int .i64 (m : Int)] 3)) w.heap.size #[.map (some b)] 55 := HasBlk.alloc Q0.out _
  have hQ1 : HasBlk (W3.alloc (.cells #[.int .i64 (m : Int)] 3)) (w.heap.size + 1) #[.int .i64 (m : Int), .slice a n c] 25 := HasBlk.alloc Q1.out _
  have hs4 : (W3.alloc (.cells #[.int .i64 (m : Int)] 3)).heap.size = Bm + 1 := by rw [hBm]; simp
  obtain ⟨W4, hW4⟩ : ∃ W4, W3.alloc (.cells #[.int .i64 (m : Int)] 3) = W4 := ⟨_, rfl⟩
  rw [← hBm]
  rw [hW4] at hc4 hO4 hB4 hQ0 hQ1 hs4 ⊢
  have hT4 : Tab W4 := tab_but HT.out hB4 (fun k e => by omega)
  have hwB : w.heap.size + 1 < Bm := by have := HS3.out; omega
  have Q0 := Lib.hid hQ0
  have Q1 := Lib.hid hQ1
  have HB4 := Lib.hid hB4
  have HO4 := Lib.hid hO4
  have HSO := Lib.hid hs4
  have HT4 := Lib.hid hT4
  clear c0 c1a c1b hcl hW4 hBm hO4 hB4 hQ0 hQ1
  refine wpIn_rangeFunc_cells (n := 6) (by omega) (gf := 105) (lb := #[.pointer (some ⟨Bm, 0, none⟩)]) rfl (enters_of Tryd.func105 (by kernel_rfl) rfl)
    (allNames1_in m b (6 - 1) hm0 hm hb1 Bm W4 (by omega) hc4 hT4) (Below.refl _ _) (by omega) (fun _ => rfl)
    (fun x A l o h hl => ⟨h.1, by obtain ⟨a', c', e, hi⟩ := h.2; exact ⟨a', c', e, by simpa using ints_putObj hi hl⟩⟩)
    (fun xs W => (∃ D, OwnT W b xs.length D ∧ TabD zs D (xs.map (·.2))) ∧ (∀ x ∈ xs, x.2.length = m ∧ ∀ v ∈ x.2, v < m) ∧ But (fun k => k = b) W4 W)
    ?own ⟨⟨_, HO4.out, tab_nil zs⟩, by simp, But.refl _ _⟩
    (fun x => { tmps := #[.map (some b), .agg #[.int .i64 (m : Int), .slice a n c], .pointer (some ⟨w.heap.size, 0, none⟩), .pointer (some ⟨w.heap.size + 1, 0, none⟩), x.1, undef, .map (some b), .pointer (some ⟨w.heap.size + 1, 0, none⟩), .int .i64 (m : Int), .func (.func 105) #[] #[.pointer (some ⟨Bm, 0, none⟩)], x.1, undef, undef, undef, undef, undef, undef, undef, undef, undef, undef], defers := [] }) ?assign ?body ?done
  case own =>
    rintro xs A C row ⟨⟨D, hO, hTd⟩, hall, hB⟩ hg hr
    have hs := HSO.out
    refine ⟨⟨D, hO.kept hg (fun e => by have := hr b e.symm; omega), hTd⟩, hall, ?_⟩
    exact ⟨hg.os.trans hB.os, hg.tape.trans hB.tape, hg.output.trans hB.output, Nat.le_trans hB.size hg.size, fun i hi hX => (hg.block i (Nat.lt_of_lt_of_le hi hB.size) (fun e => by have := hr i e.symm; omega)).trans (hB.same i hi hX)⟩
  case assign =>
    intro l x W K hK
    gi_wp2
    exact hK
  case body =>
    rintro l xs x W ⟨⟨D, hO, hTd⟩, hall, hB⟩ hok hlen
    obtain ⟨v, p⟩ := x
    obtain ⟨⟨hpl, hpv⟩, pa, pc, hv, hpi⟩ := hok
    simp only at hpl hpv hv hpi
    subst hv
    have hokp : Okp m (nI p) := okp_nI hm hpl hpv
    have hnm : NamesOk (nI p) := namesOk_nI hm0 hm hpl hpv
    have hpm : (nI p).length = m := by rw [nI_len, hpl]
    have hwk : WfK (keyL zs (nI p)) := wfK_key hm hz8 HZ.out hokp
    have hks := keyL_len zs (nI p) hz8
    have hWs : W4.heap.size ≤ W.heap.size := hB.size
    have hiW : Ints W W.heap.size a zs := (ints_but (ints_but HI.out (Nat.le_refl _) HB4.out HMB.out) (by have := HB4.out.size; omega) hB (by obtain ⟨es, clk, h⟩ := HO4.out.blk; exact ⟨es, clk, h⟩)).mono (by have := HSO.out; omega)
    have hTW : Tab W := tab_but HT4.out hB (fun k e => by omega)
    have HLB := listBy_any m a c zs pa pc (nI p) hokp W hiW hpi hTW HF.out
    rw [← HN.out, hpm] at HLB
    have x0 := (blk_cell (show HasBlk W (w.heap.size + 1) #[.int .i64 (m : Int), .slice a n c] 25 from hB.keep (by omega) Q1.out) 0).trans (cell2_0 _ _)
    have x1 := (blk_cell (show HasBlk W (w.heap.size + 1) #[.int .i64 (m : Int), .slice a n c] 25 from hB.keep (by omega) Q1.out) 1).trans (cell2_1 _ _)
    have hq0 : HasBlk W w.heap.size #[.map (some b)] 55 := hB.keep (by omega) Q0.out
    have hbW : b < W.heap.size := by omega
    have hwW : w.heap.size + 1 < W.heap.size := by have := HSO.out; omega
    have HO := Lib.hid hO
    have HTD := Lib.hid hTd
    have HALL := Lib.hid hall
    have HB := Lib.hid hB
    have HPI := Lib.hid hpi
    have HQ0 := Lib.hid hq0
    obtain ⟨y0, y1, y2, y3, y4, y5, y6, y7, hy⟩ : ∃ y0 y1 y2 y3 y4 y5 y6 y7 : Int, keyL zs (nI p) = [y0, y1, y2, y3, y4, y5, y6, y7] := by
      generalize keyL zs (nI p) = L at hks
      match L, hks with
      | [y0, y1, y2, y3, y4, y5, y6, y7], _ => exact ⟨_, _, _, _, _, _, _, _, rfl⟩
    have HIV : Hid (iv (keyL zs (nI p)) = #[.int .i64 y0, .int .i64 y1, .int .i64 y2, .int .i64 y3, .int .i64 y4, .int .i64 y5, .int .i64 y6, .int .i64 y7]) := Lib.hid (by rw [hy]; rfl)
    have HPL := Lib.hid hpl
    rw [hpl]
    clear hO hTd hall hB hpi hokp hiW hTW hq0 hpl hks hy
    gi_wp2_with (refine ⟨trivial, ?_⟩; gi_at_call 91; refine (CallsIn.inRound l (callsIn_wide.2 HLB)).mono ?_; rw [HIV.out]; rintro e w5 ⟨rfl, hb5⟩)
    have hb6 : Below W.heap.size W (w5.alloc (.cells #[.int .i64 y0, .int .i64 y1, .int .i64 y2, .int .i64 y3, .int .i64 y4, .int .i64 y5, .int .i64 y6, .int .i64 y7] 57)) := hb5.alloc hb5.size _
    have hq6 := alloc_new w5 (.cells #[.int .i64 y0, .int .i64 y1, .int .i64 y2, .int .i64 y3, .int .i64 y4, .int .i64 y5, .int .i64 y6, .int .i64 y7] 57)
    have hsz6 : (w5.alloc (.cells #[.int .i64 y0, .int .i64 y1, .int .i64 y2, .int .i64 y3, .int .i64 y4, .int .i64 y5, .int .i64 y6, .int .i64 y7] 57)).heap.size = w5.heap.size + 1 := by simp
    obtain ⟨W6, hW6⟩ : ∃ W6, w5.alloc (.cells #[.int .i64 y0, .int .i64 y1, .int .i64 y2, .int .i64 y3, .int .i64 y4, .int .i64 y5, .int .i64 y6, .int .i64 y7] 57) = W6 := ⟨_, rfl⟩
    rw [hW6] at hb6 hq6 hsz6 ⊢
    obtain ⟨Mb, hMb⟩ : ∃ Mb, Mb = w5.heap.size := ⟨_, rfl⟩
    rw [← hMb] at hq6 hsz6 ⊢
    have hMw : w.heap.size + 1 < Mb := by have := hb5.size; omega
    have hbM : b ≠ Mb := by have := hb5.size; omega
    have HPre : Hid (PreA W W6.drew w.heap.size Mb b xs.length m pa p #[.int .i64 y0, .int .i64 y1, .int .i64 y2, .int .i64 y3, .int .i64 y4, .int .i64 y5, .int .i64 y6, .int .i64 y7] D) := Lib.hid ⟨(hb6.block _ (by omega)).trans HQ0.out, hq6, (show Ints W6 W6.heap.size pa (nI p) from (HPI.out.below hb6).mono hb6.size), (show OwnT W6 b xs.length D from HO.out.but (But.of_below (X := fun _ => False) hb6) (fun h => h)), (But.of_below hb6).trans (But.drew W6)⟩
    have HMBE := Lib.hid hMb
    clear hMb hsz6 hW6
    refine wpIn_region_held (A := fun ls => { tmps := #[.map (some b), .agg #[.int .i64 (m : Int), .slice a n c], .pointer (some ⟨w.heap.size, 0, none⟩), .pointer (some ⟨w.heap.size + 1, 0, none⟩), .slice pa m pc, .pointer (some ⟨Mb, 0, none⟩), .map (some b), .pointer (some ⟨w.heap.size + 1, 0, none⟩), .int .i64 (m : Int), .func (.func 105) #[] #[.pointer (some ⟨Bm, 0, none⟩)], .slice pa m pc, .agg #[.int .i64 (m : Int), .slice a n c], .slice pa m pc, .agg #[.int .i64 y0, .int .i64 y1, .int .i64 y2, .int .i64 y3, .int .i64 y4, .int .i64 y5, .int .i64 y6, .int .i64 y7], bif ls.getD 0 false then .map (some b) else undef, bif ls.getD 1 false then .agg #[.int .i64 y0, .int .i64 y1, .int .i64 y2, .int .i64 y3, .int .i64 y4, .int .i64 y5, .int .i64 y6, .int .i64 y7] else undef, bif ls.getD 2 false then .map (some b) else undef, bif ls.getD 3 false then .agg #[.int .i64 y0, .int .i64 y1, .int .i64 y2, .int .i64 y3, .int .i64 y4, .int .i64 y5, .int .i64 y6, .int .i64 y7] else undef, bif ls.getD 4 false then .agg (iv (nmL zs (xs.map (·.2)) (keyL zs (nI p)))) else undef, bif ls.getD 5 false then .slice pa m pc else undef, bif ls.getD 6 false then .agg (iv (andL (nmL zs (xs.map (·.2)) (keyL zs (nI p))) (nI p))) else undef], defers := [] }) (S := fun ls W' => (ls.getD 7 false = true → ls.toList.all id = true) ∧ (if ls.getD 7 false then PostA W W' b (xs.length + 1) (D.put (keyLit (keyL zs (nI p))) (intsD (andL (nmL zs (xs.map (·.2)) (keyL zs (nI p))) (nI p)))) else PreA W W' w.heap.size Mb b xs.length m pa p #[.int .i64 y0, .int .i64 y1, .int .i64 y2, .int .i64 y3, .int .i64 y4, .int .i64 y5, .int .i64 y6, .int .i64 y7] D)) hmx (by kernel_rfl) rfl ⟨(fun h => (by cases h)), HPre.out⟩ ?step ?fin
    case step =>
      rintro listed W' i hsz hi hS
      obtain ⟨l0, l1, l2, l3, l4, l5, l6, l7, rfl⟩ := arr8 listed hsz
      obtain ⟨hi1, hi2⟩ := List.mem_filter.1 hi
      have hi8 : i < 8 := by simpa using hi1
      have hcase : i = 0 ∨ i = 1 ∨ i = 2 ∨ i = 3 ∨ i = 4 ∨ i = 5 ∨ i = 6 ∨ i = 7 := by omega
      rcases hcase with rfl | rfl | rfl | rfl | rfl | rfl | rfl | rfl
      · simp [Region.binds] at hi2
        subst hi2
        have h7 : l7 = false := by
          cases l7
          · rfl
          · have := hS.1 rfl
            simp at this
        subst h7
        have hP : PreA W W' w.heap.size Mb b xs.length m pa p #[.int .i64 y0, .int .i64 y1, .int .i64 y2, .int .i64 y3, .int .i64 y4, .int .i64 y5, .int .i64 y6, .int .i64 y7] D := hS.2
        refine wpOpIn_of_list rfl ?_
        have ck := (blk_cell hP.k 0).trans (cell1_0 _)
        gi_wp2
        first | exact ⟨rfl, hP⟩ | exact hP | exact ⟨rfl, (fun h => (by cases h)), hP⟩
      · simp [Region.binds] at hi2
        subst hi2
        have h7 : l7 = false := by
          cases l7
          · rfl
          · have := hS.1 rfl
            simp at this
        subst h7
        have hP : PreA W W' w.heap.size Mb b xs.length m pa p #[.int .i64 y0, .int .i64 y1, .int .i64 y2, .int .i64 y3, .int .i64 y4, .int .i64 y5, .int .i64 y6, .int .i64 y7] D := hS.2
        refine wpOpIn_of_list rfl ?_
        have e0 := blk_cell hP.q 0
        have e1 := blk_cell hP.q 1
        have e2 := blk_cell hP.q 2
        have e3 := blk_cell hP.q 3
        have e4 := blk_cell hP.q 4
        have e5 := blk_cell hP.q 5
        have e6 := blk_cell hP.q 6
        have e7 := blk_cell hP.q 7
        simp only [List.getElem?_toArray, List.getElem?_cons_zero, List.getElem?_cons_succ] at e0 e1 e2 e3 e4 e5 e6 e7
        gi_wp2
        first | exact ⟨rfl, hP⟩ | exact hP | exact ⟨rfl, (fun h => (by cases h)), hP⟩
      · simp [Region.binds] at hi2
        subst hi2
        have h7 : l7 = false := by
          cases l7
          · rfl
          · have := hS.1 rfl
            simp at this
        subst h7
        have hP : PreA W W' w.heap.size Mb b xs.length m pa p #[.int .i64 y0, .int .i64 y1, .int .i64 y2, .int .i64 y3, .int .i64 y4, .int .i64 y5, .int .i64 y6, .int .i64 y7] D := hS.2
        refine wpOpIn_of_list rfl ?_
        have ck := (blk_cell hP.k 0).trans (cell1_0 _)
        gi_wp2
        first | exact ⟨rfl, hP⟩ | exact hP | exact ⟨rfl, (fun h => (by cases h)), hP⟩
      · simp [Region.binds] at hi2
        subst hi2
        have h7 : l7 = false := by
          cases l7
          · rfl
          · have := hS.1 rfl
            simp at this
        subst h7
        have hP : PreA W W' w.heap.size Mb b xs.length m pa p #[.int .i64 y0, .int .i64 y1, .int .i64 y2, .int .i64 y3, .int .i64 y4, .int .i64 y5, .int .i64 y6, .int .i64 y7] D := hS.2
        refine wpOpIn_of_list rfl ?_
        have e0 := blk_cell hP.q 0
        have e1 := blk_cell hP.q 1
        have e2 := blk_cell hP.q 2
        have e3 := blk_cell hP.q 3
        have e4 := blk_cell hP.q 4
        have e5 := blk_cell hP.q 5
        have e6 := blk_cell hP.q 6
        have e7 := blk_cell hP.q 7
        simp only [List.getElem?_toArray, List.getElem?_cons_zero, List.getElem?_cons_succ] at e0 e1 e2 e3 e4 e5 e6 e7
        gi_wp2
        first | exact ⟨rfl, hP⟩ | exact hP | exact ⟨rfl, (fun h => (by cases h)), hP⟩
      · simp [Region.binds] at hi2
        obtain ⟨rfl, rfl, rfl⟩ := hi2
        have h7 : l7 = false := by
          cases l7
          · rfl
          · have := hS.1 rfl
            simp at this
        subst h7
        have hP : PreA W W' w.heap.size Mb b xs.length m pa p #[.int .i64 y0, .int .i64 y1, .int .i64 y2, .int .i64 y3, .int .i64 y4, .int .i64 y5, .int .i64 y6, .int .i64 y7] D := hS.2
        refine wpOpIn_of_list rfl ?_
        refine wpListIn_lookup_row W' rfl _ _ rfl b xs.length D rfl hP.o _ (keyLit (keyL zs (nI p))) rfl (by rw [← HIV.out]; exact keyLit_key hwk) _ (HTD.out.at_ _ hwk) ?_
        gi_wp2
        first | exact ⟨rfl, hP⟩ | exact hP | exact ⟨rfl, (fun h => (by cases h)), hP⟩
      · simp [Region.binds] at hi2
        subst hi2
        have h7 : l7 = false := by
          cases l7
          · rfl
          · have := hS.1 rfl
            simp at this
        subst h7
        have hP : PreA W W' w.heap.size Mb b xs.length m pa p #[.int .i64 y0, .int .i64 y1, .int .i64 y2, .int .i64 y3, .int .i64 y4, .int .i64 y5, .int .i64 y6, .int .i64 y7] D := hS.2
        refine wpOpIn_of_list rfl ?_
        gi_wp2
        first | exact ⟨rfl, hP⟩ | exact hP | exact ⟨rfl, (fun h => (by cases h)), hP⟩
      · simp [Region.binds] at hi2
        obtain ⟨rfl, rfl, rfl⟩ := hi2
        have h7 : l7 = false := by
          cases l7
          · rfl
          · have := hS.1 rfl
            simp at this
        subst h7
        have hP : PreA W W' w.heap.size Mb b xs.length m pa p #[.int .i64 y0, .int .i64 y1, .int .i64 y2, .int .i64 y3, .int .i64 y4, .int .i64 y5, .int .i64 y6, .int .i64 y7] D := hS.2
        refine wpOpIn_of_list rfl ?_
        have hno : NmOk (nmL zs (xs.map (·.2)) (keyL zs (nI p))) (xs.map (·.2)).length := nmOk_all _ _ _ (fun q hq => by obtain ⟨x, hx, rfl⟩ := List.mem_map.1 hq; exact namesOk_nI hm0 hm (HALL.out x hx).1 (HALL.out x hx).2)
        have hAND := and_any (nmL zs (xs.map (·.2)) (keyL zs (nI p))) hno.len hno.lo (by have h1 := hno.hi; have h2 : xs.length < 6 ^ m := hlen; have h3 : 6 ^ m ≤ 6 ^ 6 := Nat.pow_le_pow_right (by decide) hm; rw [List.length_map] at h1; omega) hno.cal pa pc (nI p) hnm.1 hnm.2.1 hnm.2.2 W' hP.i
        rw [hpm] at hAND
        clear hno
        gi_wp2_with (refine ⟨trivial, ?_⟩; gi_at_call 95; refine (CallsIn.inRound l (callsIn_wide.2 hAND)).mono ?_; rintro e w7 ⟨rfl, hb7⟩)
        first | exact ⟨rfl, hP.below hb7⟩ | exact hP.below hb7 | exact ⟨rfl, (fun h => (by cases h)), hP.below hb7⟩
      · simp [Region.binds] at hi2
        obtain ⟨rfl, rfl, rfl, rfl, -, -, rfl, rfl, rfl, rfl, -⟩ := hi2
        have hP : PreA W W' w.heap.size Mb b xs.length m pa p #[.int .i64 y0, .int .i64 y1, .int .i64 y2, .int .i64 y3, .int .i64 y4, .int .i64 y5, .int .i64 y6, .int .i64 y7] D := hS.2
        refine wpOpIn_of_list rfl ?_
        refine wpListIn_mapUpdate_own W' rfl _ _ _ 55 rfl 57 78 keyLaw Tryd.underlying55 rowR b xs.length D rfl hP.o (by have h2 : xs.length < 6 ^ m := hlen; have h3 : 6 ^ m ≤ 6 ^ 6 := Nat.pow_le_pow_right (by decide) hm; simp only [maxLen]; omega) _ _ (keyLit (keyL zs (nI p))) rfl rfl (by rw [← HIV.out]; exact keyLit_key hwk) _ [] (rowR_mk _) ?_
        intro w8 hown8 hg8
        gi_wp2
        first | exact ⟨hown8, hP.t.trans (But.of_grownBy hg8 (fun r e _ => by injection e with e; exact e.symm))⟩ | exact ⟨rfl, hown8, hP.t.trans (But.of_grownBy hg8 (fun r e _ => by injection e with e; exact e.symm))⟩ | exact ⟨rfl, (fun h => rfl), hown8, hP.t.trans (But.of_grownBy hg8 (fun r e _ => by injection e with e; exact e.symm))⟩
    case fin =>
      rintro listed W' hsz hal hS
      obtain ⟨l0, l1, l2, l3, l4, l5, l6, l7, rfl⟩ := arr8 listed hsz
      simp at hal
      obtain ⟨rfl, rfl, rfl, rfl, rfl, rfl, rfl, rfl⟩ := hal
      have hP : PostA W W' b (xs.length + 1) (D.put (keyLit (keyL zs (nI p))) (intsD (andL (nmL zs (xs.map (·.2)) (keyL zs (nI p))) (nI p)))) := hS.2
      gi_wp2
      refine ⟨hP.t, ⟨_, by rw [List.length_append]; exact hP.o, ?_⟩, ?_, HB.out.trans hP.t⟩
      · rw [List.map_append]
        exact tab_put HTD.out HO.out.isMap (fun q hq => by obtain ⟨x, hx, rfl⟩ := List.mem_map.1 hq; exact wfK_key hm hz8 HZ.out (okp_nI hm (HALL.out x hx).1 (HALL.out x hx).2)) p hwk
      · intro x1 x2 hx
        rcases List.mem_append.1 hx with h | h
        · exact HALL.out (x1, x2) h
        · have h2 := congrArg Prod.snd (List.mem_singleton.1 h)
          simp only at h2
          rw [h2]; exact ⟨HPL.out, hpv⟩
  case done =>
    rintro D ys W hD hys ⟨⟨D1, hO, hTd⟩, hall, hB⟩ hK
    have HK := Lib.hid hK
    have HO := Lib.hid hO
    have HB := Lib.hid hB
    rw [hys] at hTd
    have HTD := Lib.hid hTd
    have HDne : Hid (D ≠ b) := Lib.hid (by have := HSO.out; omega)
    have hDlt : W4.heap.size ≤ D := hD
    clear hK hO hB hTd hall
    gi_wp2
    refine ⟨by simp, .inl ⟨_, _, rfl, run_takeDeferred HK.out, ?_⟩⟩
    have hD0 : w.heap.size ≤ D := by have := HB4.out.size; omega
    have hbu : But (fun k => k = b) w W := HB4.out.trans HB.out
    refine ⟨_, results_none rfl _ _ _, rfl, ⟨_, D1, HO.out.kept (grownBy_putObj' W D _) (fun e => by injection e with e; exact HDne.out e.symm), HTD.out⟩, ?_⟩
    exact ⟨hbu.os, hbu.tape, hbu.output, by have := hbu.size; simpa using this, fun i hi hX => (World.putObj_heap_other (by omega)).trans (hbu.same i hi hX)⟩

end Go.Proofs.YtjclfpcnfmpjdaaDoor

/- It is proved how rows of ints of the call's own are read and kept; conditions: those of each statement. -/
namespace Go.Proofs.YtjclfpcnfmpjdaaDoor
open Go.RowKit Go.Shelf

theorem ownsRow_below {w w' : World} {B n : Nat} {v : Value} {xs : List Value} (h : w.ownsRow B 3 1 v n xs) (hb : Below w.heap.size w w') : w'.ownsRow B 3 1 v n xs :=
  World.ownsRow.kept h (only_of_below hb none) (by cases v.ownBlock <;> simp)

theorem OwnN.cap_le {w : World} {B : Nat} {a : Option Addr} {n cap : Nat} {zs : List Int} (h : OwnN w B a n cap zs) : n ≤ cap := by
  rcases h.2 with ⟨e, hn⟩ | ⟨g, c, cur, e, hb, hg, hc, _⟩
  · omega
  · injection e with e1 e2 e3
    omega

theorem OwnN.len {w : World} {B : Nat} {a : Option Addr} {n cap : Nat} {zs : List Int} (h : OwnN w B a n cap zs) : zs.length = n := by
  have := h.1; simpa using this

theorem OwnN.ints {w : World} {B : Nat} {a : Option Addr} {n cap : Nat} {zs : List Int} (h : OwnN w B a n cap zs) : Ints w w.heap.size a zs := by
  have hl := h.len
  subst hl
  exact own_ints (n := zs.length) (cap := cap) (B := B) h

theorem OwnN.base {w : World} {B B' : Nat} {a : Option Addr} {n cap : Nat} {zs : List Int} (h : OwnN w B a n cap zs) (hB : B' ≤ B) : OwnN w B' a n cap zs := ownsRow_base h hB
theorem OwnN.below {w w' : World} {B : Nat} {a : Option Addr} {n cap : Nat} {zs : List Int} (h : OwnN w B a n cap zs) (hb : Below w.heap.size w w') : OwnN w' B a n cap zs := ownsRow_below h hb
theorem OwnN.ne {w : World} {B : Nat} {a : Option Addr} {n cap : Nat} {zs : List Int} (h : OwnN w B a n cap zs) {b : Nat} (hb : b < B ∨ w.heap.size ≤ b) : (Value.slice a n cap).ownBlock ≠ some b := by
  intro e
  have := World.ownsRow.lt h b e
  omega

theorem OwnN.cell {w : World} {B g n cap : Nat} {ys : List Int} (h : OwnN w B (some ⟨g, 0, none⟩) n cap ys) {j : Nat} (hj : j < n) : w.cell? ⟨g, j, none⟩ = some (.int .i64 (ys[j]?.getD 0)) := by
  have hl := h.len
  have := World.ownsRow.cellAt h j (by omega)
  rw [this]; simp [show j < ys.length by omega]

theorem OwnN.cellz {w : World} {B g n cap : Nat} {ys : List Int} (h : OwnN w B (some ⟨g, 0, none⟩) n cap ys) {j : Nat} (hj : j < n) : w.cell? ⟨g, j, none⟩ = some (.int .i64 (ys[j]?.getD 0)) := h.cell hj
end Go.Proofs.YtjclfpcnfmpjdaaDoor

/- It is proved what ownNames and keeping return; conditions: those of each statement. -/
namespace Go.Proofs.YtjclfpcnfmpjdaaDoor
open Go.RowKit Go.Shelf Go.Maps

attribute [local go_sem] Oper.semAt_some

set_option maxRecDepth 100000 in
set_option maxHeartbeats 2000000 in
theorem appendSeq_any (s Bs : Nat) (hs : s < 64) (w : World) (hBs : Bs < w.heap.size) (hc : w.cell? ⟨Bs, 0, none⟩ = some (.int .i64 (s : Int))) (hT : Tab w) :
    Calls Tryd.prog 111 #[.slice none 0 0, .func (.func 88) #[] #[.pointer (some ⟨Bs, 0, none⟩)]] w fun e w' => ∃ v, e = .returned v ∧
      w'.ownsRow w.heap.size 3 1 v (mem s).length ((nI (mem s)).map (Value.int .i64)) ∧ Below w.heap.size w w' := by
  obtain ⟨i0, hi, hz0, hz1, hz2⟩ := info_parts Tryd.info3
  have h16 : 1 ≤ 6 := by omega
  have hT1 := hT.lt
  have bO := Boxed.new w 23 (.slice none 0 0)
  have hB0 : Below w.heap.size w (w.alloc (.cells #[.slice none 0 0] 23)) := below1 w _
  have hst := membersS_stops (6 - 1) (by omega) Bs w.heap.size s hs (w.alloc (.cells #[.slice none 0 0] 23)) (by simp; omega) (by simp) (by omega) ((hB0.cell (p := ⟨Bs, 0, none⟩) hBs).trans hc) (hT.below hB0 hT1)
  refine (callsIn_wide (n := 6)).1 ?_
  refine callsIn_of_wp_marks Tryd.func111 rfl trivial ?_ rfl
  simp only [Tryd.ntmps111, List.size_toArray, List.length_cons, List.length_nil, Nat.reduceAdd, Nat.reduceSub, Array.replicate_succ, Array.replicate_zero, List.push_toArray, List.append_toArray, List.nil_append, List.cons_append]
  clear hc
  gi_wp2
  refine wpIn_rangeFunc_ownG rfl h16 (gf := 88) (lb := #[.pointer (some ⟨Bs, 0, none⟩)]) rfl trivial (enters_of Tryd.func88 (by kernel_rfl) rfl)
    hst belowK_t (belowK_b (by simp)) (Below.refl _ _) (fun _ => rfl)
    (fun pre W => (∃ v, Boxed W w.heap.size 23 v ∧ W.ownsRow w.heap.size 3 1 v pre.length ((nI (valsS pre)).map (Value.int .i64)) ∧ True) ∧ Below w.heap.size w W)
    (fun _ _ _ => False)
    (OwnFrom.and (Own.from (holdsRow_own w.heap.size w.heap.size 23 3 1 (fun pre : List (MemS s) => pre.length) (fun pre => (nI (valsS pre)).map (Value.int .i64)) (fun pre v => True)) _) (ownFrom_below (Nat.le_refl _) (by simp)))
    (fun _ _ _ _ _ hs _ _ => hs)
    ⟨⟨_, bO, World.ownsRow_nil _ _ _ _, trivial⟩, hB0⟩
    (fun x => { tmps := #[.slice none 0 0, .func (.func 88) #[] #[.pointer (some ⟨Bs, 0, none⟩)], .pointer (some ⟨w.heap.size, 0, none⟩), undef, .slice none 0 0, .int .i64 (x.1 : Int), .func (.func 88) #[] #[.pointer (some ⟨Bs, 0, none⟩)], .int .i64 (x.1 : Int), undef, undef, undef, undef, undef], defers := [] }) ?assign ?body ?done ?stop
  case assign =>
    intro l x W K hK
    gi_wp2
    exact hK
  case body =>
    rintro l pre x W ⟨⟨v, hv, hrow, -⟩, hB⟩ hlt
    have hc := hv.cell
    gi_wp2_with (gi_at_builtin; refine wpListIn_append_own _ rfl _ _ 23 rfl w.heap.size 3 i0 (.int .i64 0) 1 8 Tryd.underlying23 hi hz0 hz1 hz2 rfl (by decide) _ _ _ rfl (hrow.alloc _) ⟨W.heap.size, 0, none⟩ 1 1 [.int .i64 (x.1 : Int)] rfl rfl (cell_one_new _ _ _) (by simp [Value.oneCell']) (by simp only [maxLen]; omega) (by omega) (by have := hB.size; simp; omega) ?_; intro v' w1 hown' hgrow _; obtain ⟨g', cap', rfl⟩ := ownsRow_succ hown'; obtain ⟨hv1, hv2, hr2, hk2, hb2⟩ := hv.appended (by decide) hrow hB.size (Nat.le_refl _) hown' hgrow; have hc1 := hv1.cell; have hf1 := hv1.frozen)
    exact ⟨hk2.from _, hb2, ⟨_, hv2, by rw [valsS_snoc, nI_snoc, List.map_append, List.length_append]; exact hr2, trivial⟩, hB.trans hb2⟩
  case done =>
    rintro D ys W hD hys ⟨⟨v, hv, hrow, -⟩, hB⟩ hK
    rw [hys, show ys.length = (mem s).length from by rw [← hys]; simp [valsS]] at hrow
    have hc := hv.cell
    gi_wp2
    refine ⟨by simp, .inl ⟨_, _, rfl, run_takeDeferred hK, ?_⟩⟩
    exact ⟨_, results_tmp rfl _ _ _, v, rfl, ownsRow_putObj hrow _ hK rfl, hB.trans (belowK_b (w := w) (Nat.le_refl _) W D _ _ (by simp at hD; omega) hK rfl rfl)⟩
  case stop =>
    rintro D c pre W _ _ h _
    exact h.elim

theorem slice_form {w' : World} {B k : Nat} {v : Value} {ys : List Value} (h : w'.ownsRow B 3 1 v k ys) : ∃ a c, v = .slice a k c := by
  rcases h.2 with ⟨rfl, rfl⟩ | ⟨g, cap, cur, rfl, _⟩
  · exact ⟨none, 0, rfl⟩
  · exact ⟨_, _, rfl⟩

set_option maxRecDepth 100000 in
set_option maxHeartbeats 2000000 in
theorem ownNames_any (m : Nat) (hm0 : 1 ≤ m) (hm : m ≤ 6) (a : Option Addr) (n c : Nat) (w : World) (hT : Tab w) :
    Calls Tryd.prog 92 #[.agg #[.int .i64 (m : Int), .slice a n c]] w fun e w' => ∃ pa pc, e = .returned (.slice pa m pc) ∧ OwnN w' w.heap.size pa m pc (nI (List.range m)) ∧ Below w.heap.size w w' := by
  have hm1I : 1 ≤ (m : Int) := by omega
  have hm6I : (m : Int) ≤ 6 := by omega
  have HF := Lib.hid (full_nat m)
  have hT1 := hT.lt
  have h63 : 2 ^ m - 1 < 64 := by have := Nat.pow_le_pow_right (n := 2) (by decide) hm; omega
  have hC : ∀ (W : World), Tab W → ∀ Bs, Bs < W.heap.size → W.cell? ⟨Bs, 0, none⟩ = some (.int .i64 ((2 ^ m - 1 : Nat) : Int)) → Calls Tryd.prog 104 #[.func (.func 88) #[] #[.pointer (some ⟨Bs, 0, none⟩)]] W fun e w' => ∃ pa pc, e = .returned (.slice pa m pc) ∧ OwnN w' W.heap.size pa m pc (nI (List.range m)) ∧ Below W.heap.size W w' := by
    intro W hTW Bs hBs hc
    have hA := appendSeq_any (2 ^ m - 1) Bs h63 W hBs hc hTW
    rw [mem_fullR m hm, List.length_range] at hA
    clear hc hTW
    go_enter Tryd.func104, Tryd.ntmps104
    go_wp2_with (go_at_call 111; refine hA.mono ?_; rintro e w' ⟨v, rfl, ho, hb⟩)
    go_ret
    obtain ⟨pa, pc, rfl⟩ := slice_form ho
    exact ⟨pa, pc, rfl, ho, hb⟩
  have hb3 := below3 w (.cells #[.int .i64 (m : Int), .slice a n c] 25) (.cells #[.int .i64 (m : Int), .slice a n c] 25) (.cells #[.int .i64 ((2 ^ m - 1 : Nat) : Int)] 64)
  have q2 := alloc3_2 w (.cells #[.int .i64 (m : Int), .slice a n c] 25) (.cells #[.int .i64 (m : Int), .slice a n c] 25) (.cells #[.int .i64 ((2 ^ m - 1 : Nat) : Int)] 64)
  have hCW := hC _ (hT.below hb3 hT1) (w.heap.size + 1 + 1) (by simp) ((blk_cell q2 0).trans (cell1_0 _))
  clear hC q2 hT
  go_enter Tryd.func92, Tryd.ntmps92
  go_wp2_with (first
    | (go_at_call 56; refine (full_any _ _ _ _ _ hm1I hm6I).mono ?_; rintro e w' ⟨rfl, rfl⟩; rw [HF.out])
    | (go_at_call 53; refine (members_any _ _).mono ?_; rintro e w' ⟨rfl, rfl⟩)
    | (go_at_call 104; refine hCW.mono ?_; rintro e w' ⟨pa, pc, rfl, ho, hb⟩))
  go_ret
  exact ⟨pa, pc, rfl, ho.base (by simp; omega), hb3.trans (hb.mono (by simp; omega))⟩

end Go.Proofs.YtjclfpcnfmpjdaaDoor

/- It is proved what keeping returns; conditions: those of each statement. -/
namespace Go.Proofs.YtjclfpcnfmpjdaaDoor
open Go.RowKit Go.Shelf Go.Maps

theorem lookup_eq {W : World} {b n : Nat} {D : DataW Unit} {zs : List Int} {L : List (List Nat)} (hown : OwnT W b n D) (hT : TabD zs D L) {c : List Int} (hc : WfK c) :
    (Instr.lookup 55 (.map (some b)) (.agg (iv c)) false).run Tryd.prog W = .ok (.agg (iv (nmL zs L c))) W := by
  obtain ⟨v, ps, hrun, hv⟩ := hown.lookup keyLaw Tryd.underlying55 (zeroNm W) (rowR_mk zero13) (keyLit_key hc)
  rw [hT.at_ c hc] at hv
  obtain rfl := rowR_inv hv
  exact hrun

theorem store13 {W : World} {R t : Nat} {L : List Int} (x0 x1 x2 x3 x4 x5 x6 x7 x8 x9 x10 x11 x12 : Int) (h : HasBlk W R z13 t) : ∃ W', (((((((((((((W.setCell ⟨R, 0, none⟩ (.int .i64 x0)).setCell ⟨R, 1, none⟩ (.int .i64 x1)).setCell ⟨R, 2, none⟩ (.int .i64 x2)).setCell ⟨R, 3, none⟩ (.int .i64 x3)).setCell ⟨R, 4, none⟩ (.int .i64 x4)).setCell ⟨R, 5, none⟩ (.int .i64 x5)).setCell ⟨R, 6, none⟩ (.int .i64 x6)).setCell ⟨R, 7, none⟩ (.int .i64 x7)).setCell ⟨R, 8, none⟩ (.int .i64 x8)).setCell ⟨R, 9, none⟩ (.int .i64 x9)).setCell ⟨R, 10, none⟩ (.int .i64 x10)).setCell ⟨R, 11, none⟩ (.int .i64 x11)).setCell ⟨R, 12, none⟩ (.int .i64 x12)) = W' ∧ Nums W' R t [x0, x1, x2, x3, x4, x5, x6, x7, x8, x9, x10, x11, x12] ∧ ∀ (B : Nat), B ≤ R → Below B W W' := by
  refine ⟨_, rfl, ?_, fun B hB => ?_⟩
  · have h' : Nums W R t (List.replicate 13 0) := h
    exact ((((((((((((h'.set 0 x0).set 1 x1).set 2 x2).set 3 x3).set 4 x4).set 5 x5).set 6 x6).set 7 x7).set 8 x8).set 9 x9).set 10 x10).set 11 x11).set 12 x12
  · have st : ∀ (W1 : World) (i : Nat) (v : Value), Below B W W1 → Below B W (W1.setCell ⟨R, i, none⟩ v) := fun W1 i v h => h.setCell (p := ⟨R, i, none⟩) hB v
    exact st _ _ _ (st _ _ _ (st _ _ _ (st _ _ _ (st _ _ _ (st _ _ _ (st _ _ _ (st _ _ _ (st _ _ _ (st _ _ _ (st _ _ _ (st _ _ _ (st _ _ _ (Below.refl _ _)))))))))))))

set_option maxRecDepth 100000 in
set_option maxHeartbeats 8000000 in
theorem keeping_any (m : Nat) (hm0 : 1 ≤ m) (hm : m ≤ 6) (a : Option Addr) (c : Nat) (zs : List Int) (w : World) (ha : Ints w w.heap.size a zs) (hT : Tab w) (hf : famIn (m : Int) zs = true) (b n0 : Nat) (D0 : DataW Unit) (hb1 : 1 < b) (hown : OwnT w b n0 D0) :
    Calls Tryd.prog 65 #[.map (some b), .agg #[.int .i64 (m : Int), .slice a zs.length c]] w fun e w' => e = .returned (.agg (iv (nmL zs (permsL m (List.range m)) (keyL zs (nI (List.range m)))))) ∧ But (fun k => k = b) w w' := by
  have hbw : b < w.heap.size := hown.lt
  obtain ⟨hm1, hm6, hl8, hz4⟩ := famIn_out hf
  obtain ⟨es0, clk0, hblk⟩ := hown.blk
  have hown2 : OwnT ((w.alloc (.cells #[.int .i64 (m : Int), .slice a zs.length c] 25)).alloc (.cells z13 78)) b n0 D0 := (hown.alloc _).alloc _
  have hb2 := below2 w (.cells #[.int .i64 (m : Int), .slice a zs.length c] 25) (.cells z13 78)
  have q0 := alloc2_0 w (.cells #[.int .i64 (m : Int), .slice a zs.length c] 25) (.cells z13 78)
  have q1 := alloc2_1 w (.cells #[.int .i64 (m : Int), .slice a zs.length c] 25) (.cells z13 78)
  have hsz2 : ((w.alloc (.cells #[.int .i64 (m : Int), .slice a zs.length c] 25)).alloc (.cells z13 78)).heap.size = w.heap.size + 1 + 1 := by simp
  obtain ⟨W2, hW2⟩ : ∃ W2, (w.alloc (.cells #[.int .i64 (m : Int), .slice a zs.length c] 25)).alloc (.cells z13 78) = W2 := ⟨_, rfl⟩
  rw [hW2] at hown2 hb2 q0 q1 hsz2
  have hASK := ask_any m hm0 hm a c zs W2 ((ha.below hb2).mono hb2.size) (hT.below hb2 hT.lt) hf b n0 D0 hb1 hown2
  have hz8 : zs.length ≤ 8 := by omega
  have hr6 : (List.range m).length = m := List.length_range
  have hrv : ∀ v ∈ List.range m, v < m := fun v hv => by simpa using hv
  have hokp : Okp m (nI (List.range m)) := okp_nI hm hr6 hrv
  have hz : ∀ z ∈ zs, z.toNat < 2 ^ m := fun z hz => by
    have h1 := hz4 z hz
    have h3 : fullI (m : Int) = ((2 ^ m - 1 : Nat) : Int) := full_nat m
    have h4 : 1 ≤ 2 ^ m := Nat.one_le_two_pow
    omega
  have hwk : WfK (keyL zs (nI (List.range m))) := wfK_key hm hz8 hz hokp
  have hnm : NmOk (nmL zs (permsL m (List.range m)) (keyL zs (nI (List.range m)))) (permsL m (List.range m)).length := nmOk_all _ _ _ (fun p hp => by
    rw [← lvlL_perms] at hp
    exact namesOk_nI hm0 hm (lvlL_in hp) (lvlL_lt hp))
  obtain ⟨x0, x1, x2, x3, x4, x5, x6, x7, x8, x9, x10, x11, x12, hx⟩ : ∃ x0 x1 x2 x3 x4 x5 x6 x7 x8 x9 x10 x11 x12 : Int, nmL zs (permsL m (List.range m)) (keyL zs (nI (List.range m))) = [x0, x1, x2, x3, x4, x5, x6, x7, x8, x9, x10, x11, x12] := by
    have h13 := hnm.len
    generalize nmL zs (permsL m (List.range m)) (keyL zs (nI (List.range m))) = L at h13
    match L, h13 with
    | [x0, x1, x2, x3, x4, x5, x6, x7, x8, x9, x10, x11, x12], _ => exact ⟨_, _, _, _, _, _, _, _, _, _, _, _, _, rfl⟩
  obtain ⟨n, hn⟩ : ∃ n, n = zs.length := ⟨_, rfl⟩
  have HN := Lib.hid hn
  have HA := Lib.hid ha
  have HT := Lib.hid hT
  have HF := Lib.hid hf
  have HOKP := Lib.hid hokp
  have HWK := Lib.hid hwk
  have HX := Lib.hid hx
  have HB2 := Lib.hid hb2
  have HQ0 : Hid (HasBlk W2 w.heap.size #[.int .i64 (m : Int), .slice a zs.length c] 25) := Lib.hid q0
  have HQ1 : Hid (HasBlk W2 (w.heap.size + 1) z13 78) := Lib.hid q1
  have HS2 := Lib.hid hsz2
  have HBLK := Lib.hid hblk
  have y0 := (blk_cell q0 0).trans (cell2_0 _ _)
  have y1 := (blk_cell q0 1).trans (cell2_1 _ _)
  unfold z13 at hW2
  have hT1w := hT.lt
  rw [← hn] at hW2 hASK y1 ⊢
  clear ha hT hf hokp hwk hx hnm hb2 q0 q1 hsz2 hown hown2 hblk hz hn hz4
  go_enter Tryd.func65, Tryd.ntmps65
  go_wp2_with (go_at_call 76; refine hASK.mono ?_; rintro e w1 ⟨rfl, ⟨n1, D1, hO1, hT1⟩, hb1'⟩)
  have hbs : w.heap.size + 1 + 1 ≤ w1.heap.size := by have := HS2.out; have := hb1'.size; omega
  have q0 : HasBlk w1 w.heap.size #[.int .i64 (m : Int), .slice a zs.length c] 25 := hb1'.keep (by omega) HQ0.out
  have q1 : HasBlk w1 (w.heap.size + 1) z13 78 := hb1'.keep (by omega) HQ1.out
  have hbw1 : But (fun k => k = b) w w1 := (But.of_below HB2.out).trans hb1'
  have hTw1 : Tab w1 := tab_but HT.out hbw1 (fun k e => by omega)
  have hIw1 : Ints w1 w.heap.size a zs := ints_but HA.out (Nat.le_refl _) hbw1 ⟨es0, clk0, HBLK.out⟩
  have z0 := (blk_cell q0 0).trans (cell2_0 _ _)
  have z1 := (blk_cell q0 1).trans (cell2_1 _ _)
  rw [← HN.out] at z1
  have HO1 := Lib.hid hO1
  have HT1 := Lib.hid hT1
  have HBW1 := Lib.hid hbw1
  have HTW1 := Lib.hid hTw1
  have HIW1 := Lib.hid hIw1
  have HQ0 := Lib.hid q0
  have HQ1 := Lib.hid q1
  clear y0 y1 hW2 hASK hO1 hT1 hb1' q0 q1 hbw1 hTw1 hIw1
  go_region_with (first
    | (go_at_call 92; refine (ownNames_any m hm0 hm _ _ _ w1.drew HTW1.out).mono ?_; rintro e w2 ⟨pa, pc, rfl, ho, hb⟩
       have hb' : Below w1.heap.size w1 w2 := ⟨hb.os, hb.tape, hb.output, hb.size, hb.block⟩
       have q0 : HasBlk w2 w.heap.size #[.int .i64 (m : Int), .slice a zs.length c] 25 := (hb'.block _ (by omega)).trans HQ0.out
       have z0' := (blk_cell q0 0).trans (cell2_0 _ _)
       have z1' := (blk_cell q0 1).trans (cell2_1 _ _)
       rw [← HN.out] at z1'
       have hli : (nI (List.range m)).length = m := by rw [nI_len, List.length_range]
       have hLB := listBy_any m a c zs pa pc (nI (List.range m)) HOKP.out w2 ((HIW1.out.below (hb'.mono (by omega))).mono (by have := hb'.size; omega)) (own_ints (show OwnI w2 w1.heap.size (.slice pa (nI (List.range m)).length pc) (nI (List.range m)) from by rw [hli]; unfold OwnI; rw [hli]; exact ho)) (HTW1.out.below hb' (by omega)) HF.out
       rw [hli, ← HN.out] at hLB
       have HB' := Lib.hid hb'
       clear ho hb hb' q0 hli)
    | (go_at_call 91; refine hLB.mono ?_; rintro e w3 ⟨rfl, hb3⟩
       have HO3 : Hid (OwnT w3 b n1 D1) := Lib.hid ((HO1.out.but (But.of_below (X := fun _ => False) HB'.out) (fun h => h)).but (But.of_below (X := fun _ => False) hb3) (fun h => h))
       have HZ3 : Hid (HasBlk w3 (w.heap.size + 1) z13 78) := Lib.hid ((hb3.block _ (by have := HB'.out.size; omega)).trans ((HB'.out.block _ (by omega)).trans HQ1.out))
       have hrun := lookup_eq HO3.out HT1.out HWK.out
       rw [HX.out] at hrun
       simp only [show iv [x0, x1, x2, x3, x4, x5, x6, x7, x8, x9, x10, x11, x12] = #[.int .i64 x0, .int .i64 x1, .int .i64 x2, .int .i64 x3, .int .i64 x4, .int .i64 x5, .int .i64 x6, .int .i64 x7, .int .i64 x8, .int .i64 x9, .int .i64 x10, .int .i64 x11, .int .i64 x12] from rfl] at hrun
       have HB3 := Lib.hid hb3
       have e0 : w3.cell? ⟨w.heap.size + 1, 0, none⟩ = some (.int .i64 0) := blk_cell HZ3.out 0
       have g0 : w3.frozen? ⟨w.heap.size + 1, 0, none⟩ = false := blk_frozen HZ3.out 0
       have e1 : w3.cell? ⟨w.heap.size + 1, 1, none⟩ = some (.int .i64 0) := blk_cell HZ3.out 1
       have g1 : w3.frozen? ⟨w.heap.size + 1, 1, none⟩ = false := blk_frozen HZ3.out 1
       have e2 : w3.cell? ⟨w.heap.size + 1, 2, none⟩ = some (.int .i64 0) := blk_cell HZ3.out 2
       have g2 : w3.frozen? ⟨w.heap.size + 1, 2, none⟩ = false := blk_frozen HZ3.out 2
       have e3 : w3.cell? ⟨w.heap.size + 1, 3, none⟩ = some (.int .i64 0) := blk_cell HZ3.out 3
       have g3 : w3.frozen? ⟨w.heap.size + 1, 3, none⟩ = false := blk_frozen HZ3.out 3
       have e4 : w3.cell? ⟨w.heap.size + 1, 4, none⟩ = some (.int .i64 0) := blk_cell HZ3.out 4
       have g4 : w3.frozen? ⟨w.heap.size + 1, 4, none⟩ = false := blk_frozen HZ3.out 4
       have e5 : w3.cell? ⟨w.heap.size + 1, 5, none⟩ = some (.int .i64 0) := blk_cell HZ3.out 5
       have g5 : w3.frozen? ⟨w.heap.size + 1, 5, none⟩ = false := blk_frozen HZ3.out 5
       have e6 : w3.cell? ⟨w.heap.size + 1, 6, none⟩ = some (.int .i64 0) := blk_cell HZ3.out 6
       have g6 : w3.frozen? ⟨w.heap.size + 1, 6, none⟩ = false := blk_frozen HZ3.out 6
       have e7 : w3.cell? ⟨w.heap.size + 1, 7, none⟩ = some (.int .i64 0) := blk_cell HZ3.out 7
       have g7 : w3.frozen? ⟨w.heap.size + 1, 7, none⟩ = false := blk_frozen HZ3.out 7
       have e8 : w3.cell? ⟨w.heap.size + 1, 8, none⟩ = some (.int .i64 0) := blk_cell HZ3.out 8
       have g8 : w3.frozen? ⟨w.heap.size + 1, 8, none⟩ = false := blk_frozen HZ3.out 8
       have e9 : w3.cell? ⟨w.heap.size + 1, 9, none⟩ = some (.int .i64 0) := blk_cell HZ3.out 9
       have g9 : w3.frozen? ⟨w.heap.size + 1, 9, none⟩ = false := blk_frozen HZ3.out 9
       have e10 : w3.cell? ⟨w.heap.size + 1, 10, none⟩ = some (.int .i64 0) := blk_cell HZ3.out 10
       have g10 : w3.frozen? ⟨w.heap.size + 1, 10, none⟩ = false := blk_frozen HZ3.out 10
       have e11 : w3.cell? ⟨w.heap.size + 1, 11, none⟩ = some (.int .i64 0) := blk_cell HZ3.out 11
       have g11 : w3.frozen? ⟨w.heap.size + 1, 11, none⟩ = false := blk_frozen HZ3.out 11
       have e12 : w3.cell? ⟨w.heap.size + 1, 12, none⟩ = some (.int .i64 0) := blk_cell HZ3.out 12
       have g12 : w3.frozen? ⟨w.heap.size + 1, 12, none⟩ = false := blk_frozen HZ3.out 12
       clear hb3 hLB))
  all_goals
    obtain ⟨Wf, hWf, hF, hBf⟩ := store13 (L := []) x0 x1 x2 x3 x4 x5 x6 x7 x8 x9 x10 x11 x12 HZ3.out
    go_wp2
    rw [hWf]
    have r0 : Wf.cell? ⟨w.heap.size + 1, 0, none⟩ = some (.int .i64 x0) := by have := hF.cell 0 (by simp); simpa using this
    have r1 : Wf.cell? ⟨w.heap.size + 1, 1, none⟩ = some (.int .i64 x1) := by have := hF.cell 1 (by simp); simpa using this
    have r2 : Wf.cell? ⟨w.heap.size + 1, 2, none⟩ = some (.int .i64 x2) := by have := hF.cell 2 (by simp); simpa using this
    have r3 : Wf.cell? ⟨w.heap.size + 1, 3, none⟩ = some (.int .i64 x3) := by have := hF.cell 3 (by simp); simpa using this
    have r4 : Wf.cell? ⟨w.heap.size + 1, 4, none⟩ = some (.int .i64 x4) := by have := hF.cell 4 (by simp); simpa using this
    have r5 : Wf.cell? ⟨w.heap.size + 1, 5, none⟩ = some (.int .i64 x5) := by have := hF.cell 5 (by simp); simpa using this
    have r6 : Wf.cell? ⟨w.heap.size + 1, 6, none⟩ = some (.int .i64 x6) := by have := hF.cell 6 (by simp); simpa using this
    have r7 : Wf.cell? ⟨w.heap.size + 1, 7, none⟩ = some (.int .i64 x7) := by have := hF.cell 7 (by simp); simpa using this
    have r8 : Wf.cell? ⟨w.heap.size + 1, 8, none⟩ = some (.int .i64 x8) := by have := hF.cell 8 (by simp); simpa using this
    have r9 : Wf.cell? ⟨w.heap.size + 1, 9, none⟩ = some (.int .i64 x9) := by have := hF.cell 9 (by simp); simpa using this
    have r10 : Wf.cell? ⟨w.heap.size + 1, 10, none⟩ = some (.int .i64 x10) := by have := hF.cell 10 (by simp); simpa using this
    have r11 : Wf.cell? ⟨w.heap.size + 1, 11, none⟩ = some (.int .i64 x11) := by have := hF.cell 11 (by simp); simpa using this
    have r12 : Wf.cell? ⟨w.heap.size + 1, 12, none⟩ = some (.int .i64 x12) := by have := hF.cell 12 (by simp); simpa using this
    have h13 : But (fun k => k = b) w w3 := (HBW1.out.trans (But.of_below HB'.out)).trans (But.of_below HB3.out)
    have h4 := hBf (w.heap.size + 1) (Nat.le_refl _)
    refine bodyPost_ret (v := .agg #[.int .i64 x0, .int .i64 x1, .int .i64 x2, .int .i64 x3, .int .i64 x4, .int .i64 x5, .int .i64 x6, .int .i64 x7, .int .i64 x8, .int .i64 x9, .int .i64 x10, .int .i64 x11, .int .i64 x12]) (by simp [results, Tryd.results65, go_sem, r0, r1, r2, r3, r4, r5, r6, r7, r8, r9, r10, r11, r12]) rfl ⟨by rw [HX.out]; rfl, ?_⟩
    exact ⟨h4.os.trans h13.os, h4.tape.trans h13.tape, h4.output.trans h13.output, Nat.le_trans h13.size h4.size, fun i hi hX => (h4.block i (by omega)).trans (h13.same i hi hX)⟩

end Go.Proofs.YtjclfpcnfmpjdaaDoor

/- It is proved what FamilyAll of the program and of the model return; conditions: those of each statement. -/
namespace Go.Proofs.YtjclfpcnfmpjdaaDoor
open Go.RowKit Go.Shelf

attribute [local go_sem] Oper.semAt_some

/-- What a function of an int and a bool returns; nothing that lay has turned. -/
def RetIB (w : World) (r : Int) (ok : Bool) (e : Ending) (w' : World) : Prop := e = .returned (.tuple #[.int .i64 r, .bool ok]) ∧ Below w.heap.size w w'

end Go.Proofs.YtjclfpcnfmpjdaaDoor

/- It is proved what AlikeSame of the program returns; conditions: those of each statement. -/
namespace Go.Proofs.YtjclfpcnfmpjdaaDoor
open Go.RowKit Go.Shelf Go.Maps

/-- All names that make a family's clubs its own. -/
def ownL (k : Nat) (zs : List Int) : List (List Nat) := (permsL k (List.range k)).filter fun p => keyL zs (nI p) == keyL zs (nI (List.range k))

def sameZ (m : Int) (zs : List Int) : Int := if famIn m zs then ((ownL m.toNat zs).length : Int) else 0
theorem nm_count : ∀ (L : List (List Nat)) (x : List Int), x.length = 13 → (∀ p ∈ L, NamesOk (nI p)) → (L.foldl (fun x p => andL x (nI p)) x)[6]?.getD 0 = x[6]?.getD 0 + (L.length : Int)
  | [], x, _, _ => by simp
  | p :: L, x, hx, hp => by
    have h6 := (hp p (by simp)).1
    rw [List.foldl_cons, nm_count L _ (by rw [andL, andC_len, andM_len (by omega), hx]) (fun q hq => hp q (by simp [hq])), andL_six hx h6, List.length_cons]
    omega

theorem same_six (k : Nat) (hk0 : 1 ≤ k) (hk : k ≤ 6) (zs : List Int) : (nmL zs (permsL k (List.range k)) (keyL zs (nI (List.range k))))[6]?.getD 0 = ((ownL k zs).length : Int) := by
  unfold nmL ownL
  rw [nm_count _ zero13 rfl (fun p hp => by
    have hp := (List.mem_filter.1 hp).1
    rw [← lvlL_perms] at hp
    exact namesOk_nI hk0 hk (lvlL_in hp) (lvlL_lt hp))]
  simp [zero13]

theorem field_six (x0 x1 x2 x3 x4 x5 x6 x7 x8 x9 x10 x11 x12 : Int) (w : World) : (Instr.field 78 (.agg #[.int .i64 x0, .int .i64 x1, .int .i64 x2, .int .i64 x3, .int .i64 x4, .int .i64 x5, .int .i64 x6, .int .i64 x7, .int .i64 x8, .int .i64 x9, .int .i64 x10, .int .i64 x11, .int .i64 x12]) 1).run Tryd.prog w = .ok (.int .i64 x6) w := by kernel_rfl
set_option maxRecDepth 100000 in
set_option maxHeartbeats 4000000 in
theorem implSame_any (m : Int) (a : Option Addr) (c : Nat) (zs : List Int) (w : World) (ha : Ints w w.heap.size a zs) (hT : Tab w) (hx : zs.length ≤ 1048576) :
    Calls Tryd.prog 27 #[.agg #[.int .i64 m, .slice a zs.length c]] w (RetIB w (sameZ m zs) (famIn m zs)) := by
  have HA := Lib.hid ((ha.below (below1 w (.cells #[.int .i64 m, .slice a zs.length c] 25))).mono (B' := (w.alloc (.cells #[.int .i64 m, .slice a zs.length c] 25)).heap.size) (by simp))
  cases hf : famIn m zs
  · have HF := Lib.hid hf
    have HR : Hid (sameZ m zs = 0) := Lib.hid (by simp [sameZ, hf])
    clear hf ha
    go_enter Tryd.func27, Tryd.ntmps27
    go_wp2_with (go_at_call 46; refine (implFamilyIn_any _ _ _ zs _ HA.out hx).mono ?_; rintro e w1 ⟨rfl, hb⟩; rw [HF.out]; have HB := Lib.hid hb; clear hb)
    go_ret2
    exact ⟨by rw [HR.out]; rfl, (below1 _ _).trans (HB.out.mono (by simp))⟩
  · have HF := Lib.hid hf
    obtain ⟨hm1, hm6, hl8, -⟩ := famIn_out hf
    obtain ⟨k, rfl⟩ : ∃ k : Nat, m = (k : Int) := ⟨m.toNat, by omega⟩
    have hk0 : 1 ≤ k := by omega
    have hk6 : k ≤ 6 := by omega
    have HR : Hid (sameZ (k : Int) zs = (nmL zs (permsL k (List.range k)) (keyL zs (nI (List.range k))))[6]?.getD 0) := Lib.hid (by rw [same_six k hk0 hk6 zs]; simp [sameZ, hf])
    have hnm : NmOk (nmL zs (permsL k (List.range k)) (keyL zs (nI (List.range k)))) (permsL k (List.range k)).length := nmOk_all _ _ _ (fun p hp => by
      rw [← lvlL_perms] at hp
      exact namesOk_nI hk0 hk6 (lvlL_in hp) (lvlL_lt hp))
    obtain ⟨x0, x1, x2, x3, x4, x5, x6, x7, x8, x9, x10, x11, x12, hxx⟩ : ∃ x0 x1 x2 x3 x4 x5 x6 x7 x8 x9 x10 x11 x12 : Int, nmL zs (permsL k (List.range k)) (keyL zs (nI (List.range k))) = [x0, x1, x2, x3, x4, x5, x6, x7, x8, x9, x10, x11, x12] := by
      have h13 := hnm.len
      generalize nmL zs (permsL k (List.range k)) (keyL zs (nI (List.range k))) = L at h13
      match L, h13 with
      | [x0, x1, x2, x3, x4, x5, x6, x7, x8, x9, x10, x11, x12], _ => exact ⟨_, _, _, _, _, _, _, _, _, _, _, _, _, rfl⟩
    have HX := Lib.hid hxx
    have HT := Lib.hid hT
    have HI := Lib.hid ha
    have hmm := @run_makeMap Tryd.prog
    have hfs := field_six
    have hT1 := hT.lt
    clear hf ha hnm hxx hT
    go_enter Tryd.func27, Tryd.ntmps27
    go_wp2_with fail
    refine (implFamilyIn_any _ _ _ zs _ HA.out hx).mono ?_
    rintro e w1 ⟨rfl, hb⟩
    rw [HF.out]
    have q0 : HasBlk w1 w.heap.size #[.int .i64 (k : Int), .slice a zs.length c] 25 := (hb.block _ (by simp)).trans (alloc_new w _)
    have hs1 : w.heap.size + 1 ≤ w1.heap.size := by have := hb.size; simpa using this
    have hbw : Below w.heap.size w w1 := (below1 w _).trans (hb.mono (by simp))
    have hb2 : Below w.heap.size w (w1.alloc (.map #[] 0)) := hbw.alloc (by omega) _
    have q2 : HasBlk (w1.alloc (.map #[] 0)) w.heap.size #[.int .i64 (k : Int), .slice a zs.length c] 25 := HasBlk.alloc q0 _
    have x0' := (blk_cell q2 0).trans (cell2_0 _ _)
    have x1' := (blk_cell q2 1).trans (cell2_1 _ _)
    have hown : OwnT (w1.alloc (.map #[] 0)) w1.heap.size 0 (.map []) := World.ownsMap_made w1 _ _ _
    have hK := keeping_any k hk0 hk6 a c zs (w1.alloc (.map #[] 0)) ((HI.out.below hb2).mono (by simp; omega)) (HT.out.below hb2 hT1) HF.out w1.heap.size 0 (.map []) (by omega) hown
    have HB2 := Lib.hid hb2
    clear hb q0 hbw hb2 q2 hown
    go_wp2_with (go_at_call 65; refine hK.mono ?_; rintro e w3 ⟨rfl, hb3⟩; rw [HX.out]; rw [show iv [x0, x1, x2, x3, x4, x5, x6, x7, x8, x9, x10, x11, x12] = #[.int .i64 x0, .int .i64 x1, .int .i64 x2, .int .i64 x3, .int .i64 x4, .int .i64 x5, .int .i64 x6, .int .i64 x7, .int .i64 x8, .int .i64 x9, .int .i64 x10, .int .i64 x11, .int .i64 x12] from rfl]; have HB3 := Lib.hid hb3; clear hb3)
    go_ret2
    refine ⟨by rw [HR.out, HX.out]; rfl, ?_⟩
    exact HB2.out.trans (HB3.out.below (by simp; omega) (fun i e => by omega))

end Go.Proofs.YtjclfpcnfmpjdaaDoor

/- It is proved what the FamilyDrop of the model returns; conditions: those of each statement. -/
namespace Go.Proofs.YtjclfpcnfmpjdaaDoor
open Go.RowKit

theorem app_run_n {w : World} {B n k : Nat} {v : Value} {xs : List Value} (h : w.ownsRow B 3 1 v n xs) (hB : B ≤ w.heap.size) (a : Option Addr) (c : Nat) (zs : List Int) (hk : zs.length = k) (hz : Ints w w.heap.size a zs) (hn : n ≤ 1048576) (hzn : k ≤ 1048576) :
    ∃ a' c' w', (Builtin.append_ #[23, 23] 23 #[v, .slice a k c]).run Tryd.prog w = .ok (.slice a' (n + k) c') w' ∧
      w'.ownsRow B 3 1 (.slice a' (n + k) c') (n + k) (xs ++ zs.map (Value.int .i64)) ∧ w.grownBy w' v.ownBlock := by
  subst hk
  exact app_run h hB a c zs hz hn hzn

/-- An append whose run is known, as a step of a region that draws. -/
theorem step_run {P : Program} {w : World} {ops : Array Oper} {o : Oper} {a : Act} {K : Act → World → Prop} {Q : Exit → Act → World → Prop} {E : Prop} (hgd : o.guard = none) (s x : Operand) (t tn : TypeId)
    (ho : o.op = .call { callee := .builtin .append, args := #[s, x], argTypes := #[t, tn] }) (vs vx : Value) (hs : a.eval s = vs) (hx : a.eval x = vx)
    (v' : Value) (w' : World) (hr : (Builtin.append_ #[t, tn] o.type #[vs, vx]).run P w = .ok v' w') (h : K (a.put o.dst v') w') :
    if Region.wanted o (yielded ops a.tmps) = true then Oper.wp P o a w K Q else E := by
  rw [if_pos (by simp [Region.wanted, hgd])]
  exact Lib.wp_append_run w s x t tn ho vs vx hs hx v' w' hr h

theorem step_run2 {P : Program} {w : World} {ops : Array Oper} {o : Oper} {a : Act} {K : Act → World → Prop} {Q : Exit → Act → World → Prop} {E : Prop} (hgd : o.guard = none) (s x : Operand) (t tn : TypeId)
    (ho : o.op = .call { callee := .builtin .append, args := #[s, x], argTypes := #[t, tn] }) (vs vx : Value) (hs : a.eval s = vs) (hx : a.eval x = vx)
    (h : ∃ v' w', (Builtin.append_ #[t, tn] o.type #[vs, vx]).run P w = .ok v' w' ∧ K (a.put o.dst v') w') :
    if Region.wanted o (yielded ops a.tmps) = true then Oper.wp P o a w K Q else E := by
  obtain ⟨v', w', hr, hk⟩ := h
  exact step_run hgd s x t tn ho vs vx hs hx v' w' hr hk

end Go.Proofs.YtjclfpcnfmpjdaaDoor

/- It is proved what the FamilyPut of the model returns; conditions: those of each statement. -/
namespace Go.Proofs.YtjclfpcnfmpjdaaDoor
open Go.RowKit

theorem step_run3 {P : Program} {w : World} {ops : Array Oper} {o : Oper} {a : Act} {K : Act → World → Prop} {Q : Exit → Act → World → Prop} {E : Prop} (s x : Operand) (t tn : TypeId) (vs vx : Value) (hgd : o.guard = none)
    (ho : o.op = .call { callee := .builtin .append, args := #[s, x], argTypes := #[t, tn] }) (hs : a.eval s = vs) (hx : a.eval x = vx)
    (h : ∃ v' w', (Builtin.append_ #[t, tn] o.type #[vs, vx]).run P w = .ok v' w' ∧ K (a.put o.dst v') w') :
    if Region.wanted o (yielded ops a.tmps) = true then Oper.wp P o a w K Q else E := step_run2 hgd s x t tn ho vs vx hs hx h

theorem app_run0 {w : World} {B : Nat} {v : Value} (h : OwnI w B v []) (hB : B ≤ w.heap.size) (a : Option Addr) (c : Nat) (zs : List Int) (hz : Ints w w.heap.size a zs) (_hn : 0 ≤ 1048576) (hzn : zs.length ≤ 1048576) :
    ∃ a' c' w', (Builtin.append_ #[23, 23] 23 #[v, .slice a zs.length c]).run Tryd.prog w = .ok (.slice a' zs.length c') w' ∧
      w'.ownsRow B 3 1 (.slice a' zs.length c') zs.length (zs.map (Value.int .i64)) ∧ w.grownBy w' v.ownBlock := by
  have := app_run (n := 0) (xs := []) h hB a c zs hz (by omega) hzn
  simpa using this

theorem one_blk {w : World} {x : Int} {b : Nat} (h : w.heap[b]? = some (.cells #[.int .i64 x] 3 (0, 0))) : Ints w w.heap.size (some ⟨b, 0, none⟩) [x] := by
  refine .inr ⟨b, 0, rfl, lt_of_some h, fun j hj => ?_⟩
  obtain rfl : j = 0 := by simpa using hj
  exact blk_cell h 0

theorem one_ints0 (w : World) (x : Int) : Ints (w.alloc (.cells #[.int .i64 x] 3)) (w.alloc (.cells #[.int .i64 x] 3)).heap.size (some ⟨w.heap.size, 0, none⟩) [x] := one_blk (alloc_new w _)
end Go.Proofs.YtjclfpcnfmpjdaaDoor

/- It is proved what l1Put returns; conditions: the bounds in each statement. -/
namespace Go.Proofs.YtjclfpcnfmpjdaaDoor
open Go.RowKit

theorem app_run0n {w : World} {B k : Nat} {v : Value} (h : OwnI w B v []) (hB : B ≤ w.heap.size) (a : Option Addr) (c : Nat) (zs : List Int) (hk : zs.length = k) (hz : Ints w w.heap.size a zs) (hzn : k ≤ 1048576) :
    ∃ a' c' w', (Builtin.append_ #[23, 23] 23 #[v, .slice a k c]).run Tryd.prog w = .ok (.slice a' k c') w' ∧
      w'.ownsRow B 3 1 (.slice a' k c') k (zs.map (Value.int .i64)) ∧ w.grownBy w' v.ownBlock := by
  subst hk
  exact app_run0 h hB a c zs hz (by omega) hzn

theorem app_run_t {w : World} {B n k t : Nat} {v : Value} {xs : List Value} (h : w.ownsRow B 3 1 v n xs) (hB : B ≤ w.heap.size) (a : Option Addr) (c : Nat) (zs : List Int) (hk : zs.length = k) (hz : Ints w w.heap.size a zs) (ht : n + k = t) (hn : n ≤ 1048576) (hzn : k ≤ 1048576) :
    ∃ a' c' w', (Builtin.append_ #[23, 23] 23 #[v, .slice a k c]).run Tryd.prog w = .ok (.slice a' t c') w' ∧
      w'.ownsRow B 3 1 (.slice a' t c') t (xs ++ zs.map (Value.int .i64)) ∧ w.grownBy w' v.ownBlock := by
  subst ht
  exact app_run_n h hB a c zs hk hz hn hzn

end Go.Proofs.YtjclfpcnfmpjdaaDoor
