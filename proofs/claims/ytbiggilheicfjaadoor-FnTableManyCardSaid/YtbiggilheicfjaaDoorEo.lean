/- It is proved what the search for tables does where all clubs are chosen; conditions: those of each statement. -/
import Derived.Sort.QuietIn
import Derived.RowKit
import Derived.Laws.CopyRow
import Derived.Lib.SlBuf
import Derived.RangeFuncNested
import Derived.RangeFuncBound
import Derived.RangeFuncCalls
import Derived.RangeFuncLeaves
import Derived.RangeFuncBox
import Derived.RangeFuncWrites
import Derived.StillTailTactics
import Derived.Test.YtbiggilheicfjaaDoorRows
import Derived.WalkKit
import Derived.WalkSpells
import Derived.ProofKit
import Derived.OpenShut
import Derived.ShutString
import Derived.ChangeOld
import Derived.Below
import Derived.Deep.RegionHeld3
import Derived.Deep.QuietTactic
import Derived.BigQuiet
import Derived.Lib.Hide
import Derived.Lib.SmallJoins
import Derived.Outline
import Derived.Laws.MakeOwn
import Derived.Laws.OwnMore
import Derived.IntWalk
import Derived.Lib.AppendZeros
import Derived.Maps.AppendAt
import Derived.Deep.AppendLies
import Derived.OwnWalk
import Derived.Shelf.Abstract
import Derived.Shelf.RegionOpen
import Derived.OwnWalkIn
import Derived.TacticsInMore
import Derived.LoopNIn
import Derived.LoopIn
import Derived.StillTail
import Derived.StillTactics
import Derived.OrdersIn
import Derived.TacticsIn
import Derived.Shelf.Spec.TrailingZeros
import Derived.Test.YtbiggilheicfjaaDoorMva
import Derived.Test.YtbiggilheicfjaaDoorAh
import Derived.Test.YtbiggilheicfjaaDoorAj
import Derived.Test.YtbiggilheicfjaaDoorEc
import Derived.Test.YtbiggilheicfjaaDoorT
namespace Go.Proofs.YtbiggilheicfjaaDoor
open Go.RowKit Go.Shelf

attribute [local go_sem] Oper.semAt_some

/-- What the search keeps: the sizes, what it is to call, the clubs so far, the function itself. -/
structure TS (Bz By Bm Bg l b : Nat) (za : Option Addr) (zc : Nat) (zs : List Int) (W : World) (ms : List Int) : Prop where
  z : Boxed W Bz 23 (.slice za zs.length zc)
  zi : Ints W b za zs
  y : Boxed W By 104 (.func (.yield l) #[] #[])
  g : Boxed W Bg 105 (.func (.func 96) #[] #[.pointer (some ⟨Bz, 0, none⟩), .pointer (some ⟨By, 0, none⟩), .pointer (some ⟨Bm, 0, none⟩), .pointer (some ⟨Bg, 0, none⟩)])
  m : Nums W Bm 65 ms
  t : Tab W

/-- The blocks that may turn. -/
def Xt (Bm l b : Nat) : Nat → Prop := fun k => k = l ∨ k = b ∨ k = Bm

/-- Where they lie. -/
structure TLies (Bz By Bm Bg l b n₁ : Nat) : Prop where
  b1 : 1 < b
  bz : b < Bz
  zl : Bz < l
  ln : l < n₁
  y : n₁ ≤ By
  m : n₁ ≤ Bm
  g : n₁ ≤ Bg
  ym : By ≠ Bm
  gm : Bg ≠ Bm

theorem TLies.x1 {Bz By Bm Bg l b n₁ : Nat} (L : TLies Bz By Bm Bg l b n₁) : ∀ k, Xt Bm l b k → 1 < k := by
  intro k h
  have := L.b1; have := L.bz; have := L.zl; have := L.ln; have := L.m
  unfold Xt at h; omega

theorem TS.keep {Bz By Bm Bg l b n₁ : Nat} {za : Option Addr} {zc : Nat} {zs : List Int} {W W' : World} {ms : List Int} (h : TS Bz By Bm Bg l b za zc zs W ms) (L : TLies Bz By Bm Bg l b n₁) {X : Nat → Prop} (hb : But X W W') (hX : ∀ k, X k → k = l ∨ k = b ∨ (n₁ ≤ k ∧ k ≠ By ∧ k ≠ Bm ∧ k ≠ Bg)) : TS Bz By Bm Bg l b za zc zs W' ms := by
  have := L.b1; have := L.bz; have := L.zl; have := L.ln; have := L.y; have := L.m; have := L.g
  have hbl : b ≤ W.heap.size := by have := h.z.lt; omega
  refine ⟨hb.keep (fun e => by have := hX _ e; omega) h.z, h.zi.below (hb.below (B := b) hbl (fun k hk => by have := hX k hk; omega)), hb.keep (fun e => by have := hX _ e; omega) h.y, hb.keep (fun e => by have := hX _ e; omega) h.g, hb.keep (fun e => by have := hX _ e; omega) h.m, tab_but h.t hb (fun k e => by have := hX k e; omega)⟩

theorem TS.step {Bz By Bm Bg l b n₁ : Nat} {za : Option Addr} {zc : Nat} {zs : List Int} {W W' : World} {ms : List Int} (h : TS Bz By Bm Bg l b za zc zs W ms) (L : TLies Bz By Bm Bg l b n₁) (hb : Below W.heap.size W W') : TS Bz By Bm Bg l b za zc zs W' ms := h.keep L (But.of_below (X := fun _ => False) hb) (fun _ e => e.elim)
theorem TS.alloc {Bz By Bm Bg l b n₁ : Nat} {za : Option Addr} {zc : Nat} {zs : List Int} {W : World} {ms : List Int} (h : TS Bz By Bm Bg l b za zc zs W ms) (L : TLies Bz By Bm Bg l b n₁) (o : Obj) : TS Bz By Bm Bg l b za zc zs (W.alloc o) ms := h.step L (below1 W o)
theorem TS.put {Bz By Bm Bg l b n₁ : Nat} {za : Option Addr} {zc : Nat} {zs : List Int} {W : World} {ms : List Int} (h : TS Bz By Bm Bg l b za zc zs W ms) (L : TLies Bz By Bm Bg l b n₁) (i : Nat) (x : Int) : TS Bz By Bm Bg l b za zc zs (W.setCell ⟨Bm, i, none⟩ (.int .i64 x)) (ms.set i x) := by
  have := L.b1; have := L.bz; have := L.zl; have := L.ln; have := L.y; have := L.m; have := L.g; have hym := L.ym; have hgm := L.gm
  have hbl : b ≤ W.heap.size := by have := h.z.lt; omega
  have hb : But (fun k => k = Bm) W (W.setCell ⟨Bm, i, none⟩ (.int .i64 x)) := But.setCell _ _ _ _ (fun _ => rfl)
  exact ⟨hb.keep (by omega) h.z, h.zi.below (hb.below (B := b) hbl (fun k e => by omega)), hb.keep hym h.y, hb.keep hgm h.g, h.m.set i x, tab_but h.t hb (fun k e => by omega)⟩

/-- What a round finds of what it is handed: clubs with zeros behind them. -/
def OkT (n : Nat) (x : List Nat) (_ : World) : Prop := x.length = n

theorem Tryd.laidOutW : laidOutB Tryd.prog = true := by kernel_rfl
theorem wantLaw : Maps.Keyed Tryd.prog 81 := Maps.Keyed.of_law (deep_law_laid Tryd.laidOutW (m := 2) (by omega) (of_decide_eq_true (by kernel_rfl)) (by kernel_rfl) (by kernel_rfl))
set_option maxRecDepth 100000 in
theorem want_some {x0 x1 x2 x3 x4 : Int} (w0 : (Lit.int .i64 x0).wf = true) (w1 : (Lit.int .i64 x1).wf = true) (w2 : (Lit.int .i64 x2).wf = true) (w3 : (Lit.int .i64 x3).wf = true) (w4 : (Lit.int .i64 x4).wf = true) : ∃ l, keyOf Tryd.prog 81 (.agg (iv [x0, x1, x2, x3, x4])) = some l := by
  have ht : Tryd.prog.keyType 81 = true := by kernel_rfl
  have hc : Tryd.prog.cellsOf 81 = 5 := by kernel_rfl
  have hc3 : Tryd.prog.cellsOf 3 = 1 := by kernel_rfl
  obtain ⟨d, hd⟩ : ∃ d, Tryd.prog.types.size + 1 = d + 2 := ⟨Tryd.prog.types.size - 1, by have : 1 ≤ Tryd.prog.types.size := of_decide_eq_true (by kernel_rfl); omega⟩
  have k3 : ∀ x : Int, (Lit.int .i64 x).wf = true → Tryd.prog.keyLits (d + 1) 3 [.int .i64 x] = some [.int .i64 x] := by
    intro x hx
    simp [Program.keyLits, Tryd.underlying3, hx]
  refine ⟨.string (keyBytes [.int .i64 x0, .int .i64 x1, .int .i64 x2, .int .i64 x3, .int .i64 x4]), ?_⟩
  unfold keyOf
  simp only [Tryd.underlying81, ht, Value.formed, hc, hd]
  simp [iv, Program.keyLits, Tryd.underlying81, hc, hc3, List.range_succ, k3, w0, w1, w2, w3, w4, Value.cells]
  done

theorem wf_small {x : Int} (h : -10 ≤ x ∧ x ≤ 20) : (Lit.int .i64 x).wf = true := WalkArith.wf_i64 (by omega)
set_option maxRecDepth 100000 in
theorem neq5 {xs : List Int} (hl : xs.length = 5) (hB : ∀ x ∈ xs, -10 ≤ x ∧ x ≤ 20) (w : World) : (binOp BinOp.neq 81 (.agg (iv xs)) (.agg #[.int .i64 0, .int .i64 0, .int .i64 0, .int .i64 0, .int .i64 0])).run Tryd.prog w = .ok (.bool (!(xs.all fun x => x == 0))) w := by
  obtain ⟨x0, x1, x2, x3, x4, rfl⟩ := five hl
  obtain ⟨lx, hx⟩ := want_some (wf_small (hB x0 (by simp))) (wf_small (hB x1 (by simp))) (wf_small (hB x2 (by simp))) (wf_small (hB x3 (by simp))) (wf_small (hB x4 (by simp)))
  obtain ⟨ly, hy⟩ := want_some (x0 := 0) (x1 := 0) (x2 := 0) (x3 := 0) (x4 := 0) (wf_small (by omega)) (wf_small (by omega)) (wf_small (by omega)) (wf_small (by omega)) (wf_small (by omega))
  obtain ⟨r, hr, hiff⟩ := run_equal_deep (P := Tryd.prog) w (m := 2) (by omega) (k := 81) (by kernel_rfl) (by kernel_rfl) hx hy
  have hd : r = ([x0, x1, x2, x3, x4].all fun x => x == 0) := by
    rw [Bool.eq_iff_iff, hiff]
    constructor
    · intro e
      have e2 := wantLaw.inj hx (by rw [e]; exact hy)
      injection e2 with e2
      have e3 := iv_inj e2
      rw [e3]; rfl
    · intro e
      simp at e
      obtain ⟨rfl, rfl, rfl, rfl, rfl⟩ := e
      rw [hx] at hy
      injection hy
  rw [← hd]
  rw [show (#[.int .i64 0, .int .i64 0, .int .i64 0, .int .i64 0, .int .i64 0] : Array Value) = iv [0, 0, 0, 0, 0] from rfl]
  simp [binOp, hr, go_sem]

end Go.Proofs.YtbiggilheicfjaaDoor
