/- It is proved what the search for tables does where all clubs are chosen; conditions: those of each statement. -/
import Derived.RowKit
import Derived.Laws.CopyRow
import Derived.Lib.SlBuf
import Derived.RangeFuncNested
import Derived.RangeFuncBound
import Derived.RangeFuncCalls
import Derived.RangeFuncLeaves
import Derived.RangeFuncBox
import Derived.RangeFuncWrites
import Derived.StillTailTactics
import Derived.Test.YtbiggilheicfjaaDoorRows
import Derived.WalkKit
import Derived.WalkSpells
import Derived.ProofKit
import Derived.OpenShut
import Derived.ShutString
import Derived.ChangeOld
import Derived.Below
import Derived.Deep.RegionHeld3
import Derived.Deep.QuietTactic
import Derived.BigQuiet
import Derived.Lib.Hide
import Derived.Lib.SmallJoins
import Derived.Outline
import Derived.Laws.MakeOwn
import Derived.Laws.OwnMore
import Derived.IntWalk
import Derived.Sort.QuietIn
import Derived.Lib.AppendZeros
import Derived.Maps.AppendAt
import Derived.Deep.AppendLies
import Derived.OwnWalk
import Derived.Shelf.Abstract
import Derived.Shelf.RegionOpen
import Derived.OwnWalkIn
import Derived.TacticsInMore
import Derived.LoopNIn
import Derived.LoopIn
import Derived.StillTail
import Derived.StillTactics
import Derived.OrdersIn
import Derived.TacticsIn
import Derived.Shelf.Spec.TrailingZeros
import Derived.Test.YtbiggilheicfjaaDoorMva
import Derived.Test.YtbiggilheicfjaaDoorAh
import Derived.Test.YtbiggilheicfjaaDoorAi
import Derived.Test.YtbiggilheicfjaaDoorEc
import Derived.Test.YtbiggilheicfjaaDoorEo
namespace Go.Proofs.YtbiggilheicfjaaDoor
open Go.RowKit Go.Shelf

attribute [local go_sem] Oper.semAt_some

/-- The clubs so far, with whatever lies behind them, and zeros at the end. -/
structure MsOk (n : Nat) (p : List Nat) (ms : List Int) : Prop where
  len : ms.length = 5
  pre : ms.take p.length = nI p
  zer : ms.drop n = List.replicate (5 - n) 0

theorem MsOk.full {n : Nat} {p : List Nat} {ms : List Int} (h : MsOk n p ms) (hp : p.length = n) (hn : n ≤ 5) : ms = pad5 (nI p) := by
  have h1 := List.take_append_drop n ms
  have h2 := h.pre
  rw [hp] at h2
  rw [← h1, h2, h.zer, pad5, nI_len, hp]

/-- How clubs are handed. -/
def encT (x : List Nat) : Array Value := #[.agg (iv (pad5 (nI x)))]

set_option maxRecDepth 100000 in
set_option maxHeartbeats 4000000 in
theorem tab0 (Bz By Bm Bg l b n₁ N : Nat) (za : Option Addr) (zc : Nat) (zs : List Int) (hz5 : zs.length ≤ 5) (L : TLies Bz By Bm Bg l b n₁) (J : List (List Nat) → World → Prop) (hJ : OwnAll n₁ J)
    (hY : ∀ k pre x W1, J pre W1 → OkT zs.length x W1 → pre.length < N → YieldAt Fence.wide k Tryd.prog l (encT x) W1 fun e W' => e = .returned (.bool true) ∧ J (pre ++ [x]) W' ∧ But (fun k => k = l ∨ k = b) W1 W')
    (left : List Int) (hl : left.length = 5) (hB : ∀ x ∈ left, 0 ≤ x ∧ x ≤ 5) (p : List Nat) (hp : p.length = zs.length) (pre : List (List Nat)) (hpN : pre.length < N) (ms : List Int) (hm : MsOk zs.length p ms) (W : World) (hn : n₁ ≤ W.heap.size) (h0 : J pre W) (hO : TS Bz By Bm Bg l b za zc zs W ms) :
    Calls Tryd.prog 96 #[.int .i64 (zs.length : Int), .agg (iv left), .pointer (some ⟨Bz, 0, none⟩), .pointer (some ⟨By, 0, none⟩), .pointer (some ⟨Bm, 0, none⟩), .pointer (some ⟨Bg, 0, none⟩)] W fun e W' => e = .returned (.bool true) ∧
      (∃ xs : List (List Nat), xs = (if left.all (fun x => x == 0) then [p] else []) ∧ J (pre ++ xs) W') ∧ TS Bz By Bm Bg l b za zc zs W' ms ∧ But (Xt Bm l b) W W' := by
  obtain ⟨x0, x1, x2, x3, x4, rfl⟩ := five hl
  obtain ⟨m0, m1, m2, m3, m4, rfl⟩ := five hm.len
  have hneq := neq5 (xs := [x0, x1, x2, x3, x4]) rfl (fun x hx => by have := hB x hx; omega)
  rw [show iv [x0, x1, x2, x3, x4] = #[Value.int .i64 x0, .int .i64 x1, .int .i64 x2, .int .i64 x3, .int .i64 x4] from rfl] at hneq ⊢
  have hfull := hm.full hp hz5
  obtain ⟨n, hnn⟩ : ∃ n, n = zs.length := ⟨_, rfl⟩
  have hpn : p.length = n := by omega
  have HNN := Lib.hid hnn
  obtain ⟨W3, hW3, q0, q1, q2, hs3⟩ : ∃ W3, ((W.alloc (.cells #[.int .i64 (n : Int)] 3)).alloc (.cells #[Value.int .i64 x0, .int .i64 x1, .int .i64 x2, .int .i64 x3, .int .i64 x4] 81)).alloc (.cells #[.bool false] 4) = W3 ∧
      HasBlk W3 W.heap.size #[.int .i64 (n : Int)] 3 ∧ HasBlk W3 (W.heap.size + 1) #[Value.int .i64 x0, .int .i64 x1, .int .i64 x2, .int .i64 x3, .int .i64 x4] 81 ∧ HasBlk W3 (W.heap.size + 1 + 1) #[.bool false] 4 ∧ W3.heap.size = W.heap.size + 1 + 1 + 1 :=
    ⟨_, rfl, alloc3_0 W _ _ _, alloc3_1 W _ _ _, alloc3_2 W _ _ _, by simp⟩
  have hO3 : TS Bz By Bm Bg l b za zc zs W3 [m0, m1, m2, m3, m4] := by rw [← hW3]; exact ((hO.alloc L _).alloc L _).alloc L _
  have hJ3 : J pre W3 := by rw [← hW3]; exact hJ _ _ _ none (hJ _ _ _ none (hJ _ _ _ none h0 (World.grownBy_alloc _ _ _) (by simp)) (World.grownBy_alloc _ _ _) (by simp)) (World.grownBy_alloc _ _ _) (by simp)
  have hb3 : But (Xt Bm l b) W W3 := by rw [← hW3]; exact ((But.alloc _ _).trans (But.alloc _ _)).trans (But.alloc _ _)
  have cz := hO3.z.cell
  have cy := hO3.y.cell
  have cm0 := hO3.m.cell 0 (by simp)
  have cm1 := hO3.m.cell 1 (by simp)
  have cm2 := hO3.m.cell 2 (by simp)
  have cm3 := hO3.m.cell 3 (by simp)
  have cm4 := hO3.m.cell 4 (by simp)
  simp only [List.getElem?_cons_zero, List.getElem?_cons_succ, Option.getD_some] at cm0 cm1 cm2 cm3 cm4
  rw [← hnn] at cz ⊢
  have e0 := (blk_cell q0 0).trans (cell1_0 _)
  have d0 := blk_cell q1 0
  have d1 := blk_cell q1 1
  have d2 := blk_cell q1 2
  have d3 := blk_cell q1 3
  have d4 := blk_cell q1 4
  have r0 := (blk_cell q2 0).trans (cell1_0 _)
  have rf := blk_frozen q2 0
  obtain ⟨za0, hza0⟩ : ∃ za0, za0 = ([x0, x1, x2, x3, x4].all fun x => x == 0) := ⟨_, rfl⟩
  simp only [← hza0] at hneq ⊢
  have HZA := Lib.hid hza0
  have HO3 := Lib.hid hO3
  have HJ3 := Lib.hid hJ3
  have HB3 := Lib.hid hb3
  have Q2 := Lib.hid q2
  have HS3 := Lib.hid hs3
  have HLL := Lib.hid L
  have hl1 : l < n₁ := L.ln
  have hYY := hY 5 pre p W3 hJ3 hp hpN
  rw [encT, ← hfull, show iv [m0, m1, m2, m3, m4] = #[Value.int .i64 m0, .int .i64 m1, .int .i64 m2, .int .i64 m3, .int .i64 m4] from rfl] at hYY
  have hb1 := L.b1
  have hbz := L.bz
  have hzl := L.zl
  have hby := hO.y.lt
  have hbm := hO.m.lt
  have hbg := hO.g.lt
  clear hza0 hO3 hJ3 hb3 q0 q1 q2 hs3 hY h0 hO hm hfull hB hl hnn hp
  refine (callsIn_wide (n := 6)).1 ?_
  refine callsIn_of_wp Tryd.func96 rfl trivial ?_ rfl
  simp only [Tryd.ntmps96, List.size_toArray, List.length_cons, List.length_nil, Nat.reduceAdd, Nat.reduceSub, Array.replicate_succ, Array.replicate_zero, List.push_toArray, List.append_toArray, List.nil_append, List.cons_append]
  have fin : ∀ W5 : World, TS Bz By Bm Bg l b za zc zs W5 [m0, m1, m2, m3, m4] → But (Xt Bm l b) W W5 → TS Bz By Bm Bg l b za zc zs (W5.setCell ⟨W.heap.size + 1 + 1, 0, none⟩ (.bool true)) [m0, m1, m2, m3, m4] ∧ But (Xt Bm l b) W (W5.setCell ⟨W.heap.size + 1 + 1, 0, none⟩ (.bool true)) := fun W5 h5 hb5 => by
    refine ⟨h5.keep HLL.out (X := fun k => k = W.heap.size + 1 + 1) (But.setCell _ _ _ _ (fun _ => rfl)) (fun k e => by omega), ⟨hb5.os, hb5.tape, hb5.output, by have := hb5.size; simpa using this, fun i hi hX => ?_⟩⟩
    exact (Below.heap_setCell W5 ⟨W.heap.size + 1 + 1, 0, none⟩ _ i (show i ≠ W.heap.size + 1 + 1 by omega)).trans (hb5.same i hi hX)
  have HFIN := Lib.hid fin
  have HPE : Hid (p.length = n) := Lib.hid hpn
  clear fin hpn
  cases za0
  · gi_wp2
    refine ⟨(fun _ h => by cases h), ?_⟩
    gi_wp2
    refine bodyPost_ret (v := .bool true) (by simp [results, Tryd.results96, go_sem, r0]) rfl ?_
    obtain ⟨h1, h2⟩ := HFIN.out W3 HO3.out HB3.out
    exact ⟨rfl, hJ _ _ _ (some (W.heap.size + 1 + 1)) HJ3.out (only_setCell (p := ⟨W.heap.size + 1 + 1, 0, none⟩) (World.grownBy.refl _ _) rfl _) (fun r e => by injection e; omega), h1, h2⟩
  · obtain ⟨fn, tmps, assign, body, hy, hR⟩ := hYY
    gi_wp2
    refine hR.mono ?_
    rintro e W4 ⟨rfl, hJ4, hb4⟩
    have q4 : HasBlk W4 (W.heap.size + 1 + 1) #[.bool false] 4 := hb4.keep (by omega) Q2.out
    have r4 := (blk_cell q4 0).trans (cell1_0 _)
    have rf4 := blk_frozen q4 0
    have HJ4 := Lib.hid hJ4
    have HB4 := Lib.hid (HB3.out.trans (hb4.mono (Y := Xt Bm l b) (fun k _ e => by unfold Xt; rcases e with h | h <;> simp [h])))
    have HO4 := Lib.hid (HO3.out.keep HLL.out hb4 (fun k e => by rcases e with h | h <;> simp [h]))
    clear hb4 hJ4 q4
    gi_wp2
    refine bodyPost_ret (v := .bool true) (by simp [results, Tryd.results96, go_sem, r4]) rfl ?_
    obtain ⟨h1, h2⟩ := HFIN.out W4 HO4.out HB4.out
    exact ⟨rfl, hJ _ _ _ (some (W.heap.size + 1 + 1)) HJ4.out (only_setCell (p := ⟨W.heap.size + 1 + 1, 0, none⟩) (World.grownBy.refl _ _) rfl _) (fun r e => by injection e; omega), h1, h2⟩

end Go.Proofs.YtbiggilheicfjaaDoor
