/- It is proved what allNames yields; conditions: those of each statement. -/
import Derived.RowKit
import Derived.Laws.CopyRow
import Derived.Lib.SlBuf
import Derived.RangeFuncNested
import Derived.RangeFuncBound
import Derived.RangeFuncCalls
import Derived.RangeFuncLeaves
import Derived.RangeFuncBox
import Derived.RangeFuncWrites
import Derived.StillTailTactics
import Derived.Test.YtgpgocijacgkhaaDoorRows
import Derived.WalkKit
import Derived.WalkSpells
import Derived.ProofKit
import Derived.OpenShut
import Derived.ShutString
import Derived.ChangeOld
import Derived.Below
import Derived.Deep.RegionHeld3
import Derived.Deep.QuietTactic
import Derived.BigQuiet
import Derived.Lib.Hide
import Derived.Lib.SmallJoins
import Derived.Outline
import Derived.Laws.MakeOwn
import Derived.Laws.OwnMore
import Derived.IntWalk
import Derived.Shelf.Abstract
import Derived.Shelf.RegionOpen
import Derived.OwnWalkIn
import Derived.TacticsInMore
import Derived.LoopNIn
import Derived.LoopIn
import Derived.Maps.AppendAt
import Derived.Deep.AppendLies
import Derived.OwnWalk
import Derived.StillTail
import Derived.StillTactics
import Derived.OrdersIn
import Derived.TacticsIn
import Derived.Shelf.Spec.TrailingZeros
import Derived.Test.YtgpgocijacgkhaaDoorRabdxFnAlik
import Derived.Test.YtgpgocijacgkhaaDoorRaao
import Derived.Test.YtgpgocijacgkhaaDoorRabexFnAlik
import Derived.Test.YtgpgocijacgkhaaDoorRabfxFnAlik
import Derived.Test.YtgpgocijacgkhaaDoorRaaa
import Derived.Test.YtgpgocijacgkhaaDoorRaab
import Derived.Test.YtgpgocijacgkhaaDoorRaac
import Derived.Maps.OwnIn
import Derived.Maps.Ext
import Derived.DeepKeys4
import Derived.MapKept
import Derived.Lib.AppendZeros
import Derived.Lib.SlicesCompact
import Derived.Lib.OwnBridge
import Derived.Shelf.Sort.Plain
import Derived.Shelf.Slices.In.SortNone
import Derived.Shelf.Slices.CompactI
import Derived.Ground.Names2Prog
import Derived.Test.YtgpgocijacgkhaaDoorRaah
namespace Go.Proofs.YtgpgocijacgkhaaDoor
open Go.RowKit Go.Shelf

set_option maxRecDepth 100000 in
theorem mem_full_fin : ∀ m : Fin 7, mem (2 ^ m.val - 1) = List.range m.val := by decide +kernel

theorem mem_fullR (m : Nat) (hm : m ≤ 6) : mem (2 ^ m - 1) = List.range m := mem_full_fin ⟨m, by omega⟩
theorem full_nat (m : Nat) : fullI (m : Int) = ((2 ^ m - 1 : Nat) : Int) := by
  have h1 : 1 ≤ 2 ^ m := Nat.one_le_two_pow
  have : ((2 ^ m - 1 : Nat) : Int) = ((2 ^ m : Nat) : Int) - 1 := by omega
  rw [this]; simp [fullI]

theorem run_make0 (m : Nat) (hm : m ≤ 6) (w : World) : (Instr.makeSlice 23 (.int .i64 0) (.int .i64 (m : Int))).run Tryd.prog w = .ok (.slice (some ⟨w.heap.size, 0, none⟩) 0 m) (w.alloc (.cells (iv (List.replicate m 0)) 3)) := by
  obtain ⟨i0, hi0, hz0, hz1, hz2⟩ := info_parts Tryd.info3
  have := run_make (P := Tryd.prog) w 23 3 i0 (.int .i64 0) Tryd.underlying23 hi0 hz0 .i64 .i64 0 (m : Int) (Int.le_refl _) (by omega) (by rw [hz2]; omega) (by omega)
  rw [this, hz1]
  have e : madeCells (Value.int .i64 0).cells ((m : Int).toNat * 1) = iv (List.replicate m 0) := by
    apply Array.toList_inj.1
    rw [show (Value.int .i64 0).cells = #[Value.int .i64 0] from rfl, toList_madeCells_one]; simp [iv]
  rw [e]; rfl

theorem store_new (w : World) (n : Nat) (hn : n = w.heap.size) (u v : Value) (t : TypeId) (hv : v.oneCell' = true) : (store ⟨n, 0, none⟩ v).run Tryd.prog (w.alloc (.cells #[u] t)) = .ok () (w.alloc (.cells #[v] t)) := by
  subst hn
  have q : Boxed (w.alloc (.cells #[u] t)) w.heap.size t u := Boxed.new w t u
  rw [run_store _ _ _ _ _ hv, q.cell]
  simp only [q.frozen]
  rw [World.setCell_alloc_new]
  rfl

set_option maxRecDepth 100000 in
set_option maxHeartbeats 4000000 in
theorem allNames1_in (m b n : Nat) (hm0 : 1 ≤ m) (hm : m ≤ 6) (hb1 : 1 < b) (Bm : Nat) (w : World) (hBm : Bm < w.heap.size) (hc : w.cell? ⟨Bm, 0, none⟩ = some (.int .i64 (m : Int))) (hT : Tab w) :
    SeqCells n Tryd.prog 106 #[.pointer (some ⟨Bm, 0, none⟩)] (fun x : Value × List Nat => #[x.1]) b (OkN m) (fun xs => xs.map (·.2) = permsL m (List.range m)) (6 ^ m) w := by
  intro l J W hW hl1 hl2 hb2 hJ hY h0
  refine callsIn_wide.2 ?_
  have hT1 := hT.lt
  have hTW : Tab W := hT.below hW (by omega)
  have hcW := (hW.cell (p := ⟨Bm, 0, none⟩) hBm).trans hc
  have hBW : Bm < W.heap.size := Nat.lt_of_lt_of_le hBm hW.size
  have hmk := run_make0 m hm
  have hlen : (mem (2 ^ m - 1)).length = m := by rw [mem_fullR m hm, List.length_range]
  have h63 : 2 ^ m - 1 < 64 := by have := Nat.pow_le_pow_right (n := 2) (by decide) hm; omega
  obtain ⟨W4, hW4, q0, q1, q2, q3, hs4, hb4⟩ : ∃ W4, (((W.alloc (.cells #[.func (.yield l) #[] #[]] 121)).alloc (.cells (iv (List.replicate m 0)) 3)).alloc (.cells #[.slice (some ⟨W.heap.size + 1, 0, none⟩) 0 m] 23)).alloc (.cells #[.func (.func 107) #[] #[.pointer (some ⟨W.heap.size, 0, none⟩), .pointer (some ⟨W.heap.size + 1 + 1, 0, none⟩), .pointer (some ⟨W.heap.size + 1 + 1 + 1, 0, none⟩)]] 84) = W4 ∧
      HasBlk W4 W.heap.size #[.func (.yield l) #[] #[]] 121 ∧ Nums W4 (W.heap.size + 1) 3 (List.replicate m 0) ∧ HasBlk W4 (W.heap.size + 1 + 1) #[.slice (some ⟨W.heap.size + 1, 0, none⟩) 0 m] 23 ∧
      HasBlk W4 (W.heap.size + 1 + 1 + 1) #[.func (.func 107) #[] #[.pointer (some ⟨W.heap.size, 0, none⟩), .pointer (some ⟨W.heap.size + 1 + 1, 0, none⟩), .pointer (some ⟨W.heap.size + 1 + 1 + 1, 0, none⟩)]] 84 ∧ W4.heap.size = W.heap.size + 1 + 1 + 1 + 1 ∧ Below W.heap.size W W4 := by
    refine ⟨_, rfl, ?_, ?_, ?_, ?_, by simp, (below3 W _ _ _).alloc (by simp; omega) _⟩
    · exact (alloc_old _ _ _ (by simp <;> omega)).trans (alloc3_0 W _ _ _)
    · exact (alloc_old _ _ _ (by simp <;> omega)).trans (alloc3_1 W _ _ _)
    · exact (alloc_old _ _ _ (by simp <;> omega)).trans (alloc3_2 W _ _ _)
    · unfold HasBlk
      rw [show W.heap.size + 1 + 1 + 1 = (((W.alloc (.cells #[.func (.yield l) #[] #[]] 121)).alloc (.cells (iv (List.replicate m 0)) 3)).alloc (.cells #[.slice (some ⟨W.heap.size + 1, 0, none⟩) 0 m] 23)).heap.size from by simp]
      exact alloc_new _ _
  have hJ4 : J [] W4 := by
    rw [← hW4]
    exact hJ _ _ _ none (hJ _ _ _ none (hJ _ _ _ none (hJ _ _ _ none h0 (World.grownBy_alloc _ _ _) (by simp)) (World.grownBy_alloc _ _ _) (by simp)) (World.grownBy_alloc _ _ _) (by simp)) (World.grownBy_alloc _ _ _) (by simp)
  have hO4 : OS W.heap.size (W.heap.size + 1 + 1) (W.heap.size + 1 + 1 + 1) (W.heap.size + 1) l m W4 [] := ⟨q0, q3, q2, ⟨List.replicate m 0, by simp, by simp [nI], q1⟩, hTW.below hb4 hTW.lt⟩
  have LL : Lies W.heap.size (W.heap.size + 1 + 1) (W.heap.size + 1 + 1 + 1) (W.heap.size + 1) l b W.heap.size :=
    ⟨by omega, hl2, hb1, hb2, by omega, by omega, by omega, by omega, by omega, by omega, by omega, by omega, by omega⟩
  have IH := goOn_any W.heap.size (W.heap.size + 1 + 1) (W.heap.size + 1 + 1 + 1) (W.heap.size + 1) l m b W.heap.size (6 ^ m) hm LL J hJ (fun k pre x W1 h1 h2 h3 => yield_any k (hY pre x W1 h1 h2 h3)) m (2 ^ m - 1) h63 hlen (fun v hv => by rw [mem_fullR m hm] at hv; simpa using hv) [] []
  have cg := q3
  have cgc := (blk_cell q3 0).trans (cell1_0 _)
  have cm : W4.cell? ⟨Bm, 0, none⟩ = some (.int .i64 (m : Int)) := (hb4.cell (p := ⟨Bm, 0, none⟩) hBW).trans hcW
  rw [mem_fullR m hm] at IH
  have HIH := Lib.hid IH
  have HJ4 := Lib.hid hJ4
  have HO4 := Lib.hid hO4
  have HJ5 : Hid (J [] (W4.drew.alloc (.cells #[.int .i64 (m : Int), .slice none 0 0] 25))) := Lib.hid (hJ _ _ _ none (show J [] W4.drew from hJ _ _ _ none hJ4 (show W4.grownBy W4.drew none from ⟨rfl, rfl, rfl, Nat.le_refl _, fun _ _ _ => rfl⟩) (by simp)) (World.grownBy_alloc _ _ _) (by simp))
  have HO5 := Lib.hid (hO4.drew.alloc (.cells #[.int .i64 (m : Int), .slice none 0 0] 25))
  have HF := Lib.hid (full_nat m)
  have hm1I : 1 ≤ (m : Int) := by omega
  have hm6I : (m : Int) ≤ 6 := by omega
  have HS4 := Lib.hid hs4
  have hB4 : Bm < W4.heap.size := by omega
  clear IH hJ4 hO4 hY h0 hJ q0 q1 q2 q3 hb4 LL hlen hs4 cg hTW hW
  go_enter Tryd.func106, Tryd.ntmps106
  have hst := store_new (((W.alloc (.cells #[.func (.yield l) #[] #[]] 121)).alloc (.cells (iv (List.replicate m 0)) 3)).alloc (.cells #[.slice (some ⟨W.heap.size + 1, 0, none⟩) 0 m] 23)) (W.heap.size + 1 + 1 + 1) (by simp) .nilFunc (.func (.func 107) #[] #[.pointer (some ⟨W.heap.size, 0, none⟩), .pointer (some ⟨W.heap.size + 1 + 1, 0, none⟩), .pointer (some ⟨W.heap.size + 1 + 1 + 1, 0, none⟩)]) 84 rfl
  rw [hW4] at hst
  go_wp2
  have hg4 : W.heap.size + 1 + 1 + 1 < W4.heap.size := by have := HS4.out; omega
  clear hst hW4 hmk
  go_region_with (first
    | (go_at_call 59; refine (full_any _ _ _ _ _ hm1I hm6I).mono ?_; rintro e w' ⟨rfl, rfl⟩; rw [HF.out])
    | (go_at_call 107; refine (HIH.out _ (by simp) (by simp) (by simp) (show W.heap.size ≤ (W4.drew.alloc (.cells #[.int .i64 (m : Int), .slice none 0 0] 25)).heap.size by simp; omega) HJ5.out HO5.out).mono ?_; rintro e w' ⟨rfl, ⟨xs, hxs, hj⟩, -, -⟩))
  all_goals
    go_wp2
    go_end0
    exact ⟨⟨_, rfl⟩, xs, by rw [hxs]; simp, hj⟩

end Go.Proofs.YtgpgocijacgkhaaDoor

/- It is proved how a map from lists of clubs to namings is read; conditions: those of each statement. -/
namespace Go.Proofs.YtgpgocijacgkhaaDoor
open Go.RowKit Go.Shelf

/-! ### how an element reads -/
def cellI : Value → Option Int
  | .int .i64 x => some x
  | _ => none

def intsD (xs : List Int) : DataW Unit := .agg (xs.map fun x => .lit (.int .i64 x))
theorem intsD_inj {xs ys : List Int} (h : intsD xs = intsD ys) : xs = ys := by
  unfold intsD at h
  injection h with h
  exact (List.map_inj_right (fun a b e => by injection e with e; injection e)).1 h

def rowR (v : Value) : Option (DataW Unit × List MemPlace) :=
  match v with
  | .agg cs => (cs.toList.mapM cellI).map fun xs => (intsD xs, [])
  | _ => none

theorem mapM_cellI : ∀ xs : List Int, (xs.map (Value.int .i64)).mapM cellI = some xs
  | [] => rfl
  | x :: xs => by simp [List.mapM_cons, cellI, mapM_cellI xs]

theorem mapM_inv : ∀ (cs : List Value) (xs : List Int), cs.mapM cellI = some xs → cs = xs.map (Value.int .i64)
  | [], xs, h => by simp at h; simp [← h]
  | c :: cs, xs, h => by
    simp only [List.mapM_cons, Option.bind_eq_bind, Option.pure_def, Option.bind_eq_some_iff] at h
    obtain ⟨x, hx, ys, hy, e⟩ := h
    injection e with e
    subst e
    rw [List.map_cons, mapM_inv cs ys hy]
    unfold cellI at hx
    split at hx
    · injection hx with hx; rw [hx]
    · cases hx

theorem rowR_mk (xs : List Int) : rowR (.agg (iv xs)) = some (intsD xs, []) := by
  show ((xs.map (Value.int .i64)).mapM cellI).map (fun xs => (intsD xs, [])) = _
  rw [mapM_cellI]; rfl

theorem rowR_inv {v : Value} {xs : List Int} {ps : List MemPlace} (h : rowR v = some (intsD xs, ps)) : v = .agg (iv xs) := by
  unfold rowR at h
  split at h
  · rename_i cs
    cases hm : cs.toList.mapM cellI with
    | none => rw [hm] at h; cases h
    | some ys =>
      rw [hm] at h
      simp only [Option.map_some, Option.some.injEq, Prod.mk.injEq] at h
      have e := intsD_inj h.1
      subst e
      have := mapM_inv _ _ hm
      congr 1
      apply Array.toList_inj.1
      rw [this]; simp [iv]
  · cases h

/-! ### how a key reads -/
theorem Tryd.laidOutM : laidOutB Tryd.prog = true := by kernel_rfl
theorem keyLaw : Maps.Keyed Tryd.prog 77 := Maps.Keyed.of_law (deep_law_laid Tryd.laidOutM (m := 2) (by omega) (of_decide_eq_true (by kernel_rfl)) (by kernel_rfl) (by kernel_rfl))
/-- A number that an int may be. -/
def wfI (x : Int) : Prop := (Lit.int .i64 x).wf = true

theorem key_some {L : List Int} (hl : L.length = 8) (hw : ∀ x ∈ L, wfI x) : ∃ l, keyOf Tryd.prog 77 (.agg (iv L)) = some l := by
  obtain ⟨x0, x1, x2, x3, x4, x5, x6, x7, rfl⟩ : ∃ x0 x1 x2 x3 x4 x5 x6 x7 : Int, L = [x0, x1, x2, x3, x4, x5, x6, x7] := by
    match L, hl with
    | [x0, x1, x2, x3, x4, x5, x6, x7], _ => exact ⟨_, _, _, _, _, _, _, _, rfl⟩
  have w0 := hw x0 (by simp)
  have w1 := hw x1 (by simp)
  have w2 := hw x2 (by simp)
  have w3 := hw x3 (by simp)
  have w4 := hw x4 (by simp)
  have w5 := hw x5 (by simp)
  have w6 := hw x6 (by simp)
  have w7 := hw x7 (by simp)
  unfold wfI at w0 w1 w2 w3 w4 w5 w6 w7
  have ht : Tryd.prog.keyType 77 = true := by kernel_rfl
  have hc : Tryd.prog.cellsOf 77 = 8 := by kernel_rfl
  have hc3 : Tryd.prog.cellsOf 3 = 1 := by kernel_rfl
  obtain ⟨d, hd⟩ : ∃ d, Tryd.prog.types.size + 1 = d + 2 := ⟨Tryd.prog.types.size - 1, by have : 1 ≤ Tryd.prog.types.size := of_decide_eq_true (by kernel_rfl); omega⟩
  have k3 : ∀ x : Int, (Lit.int .i64 x).wf = true → Tryd.prog.keyLits (d + 1) 3 [.int .i64 x] = some [.int .i64 x] := by
    intro x hx
    simp [Program.keyLits, Tryd.underlying3, hx]
  refine ⟨.string (keyBytes [.int .i64 x0, .int .i64 x1, .int .i64 x2, .int .i64 x3, .int .i64 x4, .int .i64 x5, .int .i64 x6, .int .i64 x7]), ?_⟩
  unfold keyOf
  simp only [Tryd.underlying77, ht, Value.formed, hc, hd]
  simp [iv, Program.keyLits, Tryd.underlying77, hc, hc3, List.range_succ, k3, w0, w1, w2, w3, w4, w5, w6, w7, Value.cells]
  done

end Go.Proofs.YtgpgocijacgkhaaDoor

/- It is proved what a map holds to which all names have been told, list by list; conditions: those of each statement. -/
namespace Go.Proofs.YtgpgocijacgkhaaDoor
open Go.RowKit Go.Shelf Go.Maps

theorem wfI_small {x : Int} (h0 : 0 ≤ x) (h1 : x ≤ 1000000) : wfI x := WalkArith.wf_i64 (by omega)
/-- A list that may be a key. -/
def WfK (L : List Int) : Prop := L.length = 8 ∧ ∀ x ∈ L, wfI x

noncomputable def keyLit (L : List Int) : Lit := open Classical in if h : ∃ l, keyOf Tryd.prog 77 (.agg (iv L)) = some l then h.choose else .bool true
theorem keyLit_key {L : List Int} (h : WfK L) : keyOf Tryd.prog 77 (.agg (iv L)) = some (keyLit L) := by
  have hl := key_some h.1 h.2
  unfold keyLit
  rw [dif_pos hl]
  exact hl.choose_spec

theorem keyLit_inj {L M : List Int} (hL : WfK L) (hM : WfK M) (h : keyLit L = keyLit M) : L = M := by
  have e := keyLaw.inj (keyLit_key hL) (by rw [h]; exact keyLit_key hM)
  injection e with e
  exact iv_inj e

theorem keyLit_lit {L : List Int} (h : WfK L) : WideAt.IsKeyLit (keyLit L) := keyLaw.key (keyLit_key h)
def zero13 : List Int := List.replicate 13 0
/-- What is known of the names in L that make the list c. -/
def nmL (zs : List Int) (L : List (List Nat)) (c : List Int) : List Int := (L.filter fun p => keyL zs (nI p) == c).foldl (fun x p => andL x (nI p)) zero13

theorem nmL_same (zs : List Int) (L : List (List Nat)) (p : List Nat) : nmL zs (L ++ [p]) (keyL zs (nI p)) = andL (nmL zs L (keyL zs (nI p))) (nI p) := by
  simp [nmL, List.filter_append]

theorem nmL_other (zs : List Int) (L : List (List Nat)) (p : List Nat) (c : List Int) (h : keyL zs (nI p) ≠ c) : nmL zs (L ++ [p]) c = nmL zs L c := by
  simp [nmL, List.filter_append, h]

/-- What the map reads as. -/
structure TabD (zs : List Int) (D : DataW Unit) (L : List (List Nat)) : Prop where
  at_ : ∀ c, WfK c → D.atKey (keyLit c) (intsD zero13) = intsD (nmL zs L c)
  has_ : ∀ l, Maps.has D l = true ↔ ∃ p ∈ L, l = keyLit (keyL zs (nI p))

theorem tab_nil (zs : List Int) : TabD zs (.map []) [] := ⟨fun c _ => rfl, fun l => by simp [Maps.has]⟩
theorem tab_put {zs : List Int} {D : DataW Unit} {L : List (List Nat)} (h : TabD zs D L) (hm : IsMap D) (hall : ∀ p ∈ L, WfK (keyL zs (nI p))) (p : List Nat) (hp : WfK (keyL zs (nI p))) :
    TabD zs (D.put (keyLit (keyL zs (nI p))) (intsD (andL (nmL zs L (keyL zs (nI p))) (nI p)))) (L ++ [p]) := by
  refine ⟨fun c hc => ?_, fun l => ?_⟩
  · by_cases e : keyL zs (nI p) = c
    · subst e
      rw [atKey_put_same hm (keyLit_lit hp), nmL_same]
    · rw [atKey_put_other (fun h' => e (keyLit_inj hp hc h'.symm)), nmL_other _ _ _ _ e]
      exact h.at_ c hc
  · by_cases e : l = keyLit (keyL zs (nI p))
    · subst e
      rw [has_put_same hm (keyLit_lit hp)]
      exact ⟨fun _ => ⟨p, by simp, rfl⟩, fun _ => rfl⟩
    · rw [has_put_other e, h.has_ l]
      constructor
      · rintro ⟨q, hq, rfl⟩
        exact ⟨q, by simp [hq], rfl⟩
      · rintro ⟨q, hq, rfl⟩
        rcases List.mem_append.1 hq with hq | hq
        · exact ⟨q, hq, rfl⟩
        · simp at hq; subst hq; exact absurd rfl e

/-- A naming's cells, with so many names in it at most. -/
structure NmOk (x : List Int) (n : Nat) : Prop where
  len : x.length = 13
  lo : (0 : Int) ≤ x[6]?.getD 0
  hi : x[6]?.getD 0 ≤ (n : Int)
  cal : ∀ i, 7 ≤ i → i < 13 → ∃ q : Nat, q < 64 ∧ x[i]?.getD 0 = (q : Int)

theorem NmOk.mono {x : List Int} {n k : Nat} (h : NmOk x n) (hk : n ≤ k) : NmOk x k := ⟨h.len, h.lo, by have := h.hi; omega, h.cal⟩
theorem nmOk_zero : NmOk zero13 0 := ⟨rfl, by simp [zero13], by simp [zero13], fun i h1 h2 => ⟨0, by decide, by unfold zero13; rw [List.getElem?_replicate, if_pos h2]; rfl⟩⟩
/-- Names that may be told. -/
def NamesOk (ps : List Int) : Prop := ps.length ≤ 6 ∧ 1 ≤ ps.length ∧ ∀ v, v < ps.length → ∃ q : Nat, q < 6 ∧ ps[v]?.getD 0 = (q : Int)

theorem andC_cal {g ps : List Int} (hg : g.length = 13) (hp : ps.length ≤ 6) (hpv : ∀ v, v < ps.length → ∃ q : Nat, q < 6 ∧ ps[v]?.getD 0 = (q : Int)) (hc : ∀ i, 7 ≤ i → i < 13 → ∃ q : Nat, q < 64 ∧ g[i]?.getD 0 = (q : Int)) :
    ∀ k, k ≤ ps.length → ∀ i, 7 ≤ i → i < 13 → ∃ q : Nat, q < 64 ∧ (andC g ps k)[i]?.getD 0 = (q : Int)
  | 0, _, i, h1, h2 => hc i h1 h2
  | k + 1, hk, i, h1, h2 => by
    rw [andC]
    by_cases e : 7 + k = i
    · subst e
      rw [List.getElem?_set_self (by rw [andC_len, hg]; omega), Option.getD_some]
      obtain ⟨x, hx, hxe⟩ := andC_cal hg hp hpv hc k (by omega) (7 + k) h1 h2
      obtain ⟨q, hq, hqe⟩ := hpv k (by omega)
      rw [hxe, hqe]
      exact ⟨x ||| 2 ^ q, Nat.or_lt_two_pow (n := 6) hx (Nat.pow_lt_pow_right (by decide) hq), by simp [orI]⟩
    · rw [List.getElem?_set_ne e]
      exact andC_cal hg hp hpv hc k (by omega) i h1 h2

theorem andL_six {xs ps : List Int} (hl : xs.length = 13) (hp : ps.length ≤ 6) : (andL xs ps)[6]?.getD 0 = xs[6]?.getD 0 + 1 := by
  rw [andL, andC_far _ _ 6 _ (.inl (by omega)), andM, List.getElem?_set_self (by rw [andF_len (by omega)]; omega)]
  rfl

theorem nmOk_and {x ps : List Int} {n : Nat} (h : NmOk x n) (hp : NamesOk ps) : NmOk (andL x ps) (n + 1) := by
  have hl := h.len
  have h1 := h.lo
  have h2 := h.hi
  have h6 := andL_six hl hp.1
  refine ⟨by rw [andL, andC_len, andM_len (by have := hp.1; omega), hl], by omega, by omega, fun i hi1 hi2 => ?_⟩
  exact andC_cal (by rw [andM_len (by have := hp.1; omega), hl]) hp.1 hp.2.2 (fun i h1 h2 => by rw [andM_far hp.1 i h1]; exact h.cal i h1 h2) _ (Nat.le_refl _) i hi1 hi2

theorem nmOk_fold : ∀ (L : List (List Nat)) (x : List Int) (n : Nat), NmOk x n → (∀ p ∈ L, NamesOk (nI p)) → NmOk (L.foldl (fun x p => andL x (nI p)) x) (n + L.length)
  | [], x, n, h, _ => h
  | p :: L, x, n, h, hp => by
    rw [List.foldl_cons, List.length_cons, show n + (L.length + 1) = (n + 1) + L.length from by omega]
    exact nmOk_fold L _ _ (nmOk_and h (hp p (by simp))) (fun q hq => hp q (by simp [hq]))

theorem nmOk_all (zs : List Int) (L : List (List Nat)) (c : List Int) (h : ∀ p ∈ L, NamesOk (nI p)) : NmOk (nmL zs L c) L.length := by
  have := nmOk_fold (L.filter fun p => keyL zs (nI p) == c) zero13 0 nmOk_zero (fun p hp => h p (List.mem_filter.1 hp).1)
  exact this.mono (by rw [Nat.zero_add]; exact List.length_filter_le _ _)

theorem namesOk_nI {m : Nat} (hm0 : 1 ≤ m) (hm : m ≤ 6) {p : List Nat} (hl : p.length = m) (hv : ∀ v ∈ p, v < m) : NamesOk (nI p) := by
  refine ⟨by rw [nI_len]; omega, by rw [nI_len]; omega, fun v h => ?_⟩
  rw [nI_len] at h
  exact ⟨p[v], by have := hv p[v] (List.getElem_mem h); omega, by simp [nI, h]⟩

theorem okp_nI {m : Nat} (hm : m ≤ 6) {p : List Nat} (hl : p.length = m) (hv : ∀ v ∈ p, v < m) : Okp m (nI p) := by
  refine ⟨by rw [nI_len]; exact hl, fun v h => ?_⟩
  have hv' : v < p.length := by omega
  have := hv p[v] (List.getElem_mem hv')
  simp only [nI, List.getElem?_map, List.getElem?_eq_getElem hv', Option.map_some, Option.getD_some]
  omega

theorem wfK_key {m : Nat} (hm : m ≤ 6) {zs : List Int} (h8 : zs.length ≤ 8) (hz : ∀ z ∈ zs, z.toNat < 2 ^ m) {ps : List Int} (hp : Okp m ps) : WfK (keyL zs ps) := by
  refine ⟨keyL_len _ _ h8, fun x hx => ?_⟩
  unfold keyL at hx
  rcases List.mem_append.1 hx with h | h
  · rw [List.mem_mergeSort, List.mem_map] at h
    obtain ⟨z, hz', rfl⟩ := h
    have : called ps z.toNat < 64 := nm_lt _ _ (fun v hv => by
      have := mem_lt m hm z.toNat (hz z hz') v hv
      have := hp.rng v this
      omega)
    exact wfI_small (by unfold callZ; omega) (by unfold callZ; omega)
  · rw [List.mem_replicate] at h
    rw [h.2]; exact wfI_small (by decide) (by decide)

end Go.Proofs.YtgpgocijacgkhaaDoor

/- It is proved what the FamilyDrop of the model returns; conditions: those of each statement. -/
namespace Go.Proofs.YtgpgocijacgkhaaDoor
open Go.RowKit

theorem app_run_n {w : World} {B n k : Nat} {v : Value} {xs : List Value} (h : w.ownsRow B 3 1 v n xs) (hB : B ≤ w.heap.size) (a : Option Addr) (c : Nat) (zs : List Int) (hk : zs.length = k) (hz : Ints w w.heap.size a zs) (hn : n ≤ 1048576) (hzn : k ≤ 1048576) :
    ∃ a' c' w', (Builtin.append_ #[23, 23] 23 #[v, .slice a k c]).run Tryd.prog w = .ok (.slice a' (n + k) c') w' ∧
      w'.ownsRow B 3 1 (.slice a' (n + k) c') (n + k) (xs ++ zs.map (Value.int .i64)) ∧ w.grownBy w' v.ownBlock := by
  subst hk
  exact app_run h hB a c zs hz hn hzn

/-- An append whose run is known, as a step of a region that draws. -/
theorem step_run {P : Program} {w : World} {ops : Array Oper} {o : Oper} {a : Act} {K : Act → World → Prop} {Q : Exit → Act → World → Prop} {E : Prop} (hgd : o.guard = none) (s x : Operand) (t tn : TypeId)
    (ho : o.op = .call { callee := .builtin .append, args := #[s, x], argTypes := #[t, tn] }) (vs vx : Value) (hs : a.eval s = vs) (hx : a.eval x = vx)
    (v' : Value) (w' : World) (hr : (Builtin.append_ #[t, tn] o.type #[vs, vx]).run P w = .ok v' w') (h : K (a.put o.dst v') w') :
    if Region.wanted o (yielded ops a.tmps) = true then Oper.wp P o a w K Q else E := by
  rw [if_pos (by simp [Region.wanted, hgd])]
  exact Lib.wp_append_run w s x t tn ho vs vx hs hx v' w' hr h

theorem step_run2 {P : Program} {w : World} {ops : Array Oper} {o : Oper} {a : Act} {K : Act → World → Prop} {Q : Exit → Act → World → Prop} {E : Prop} (hgd : o.guard = none) (s x : Operand) (t tn : TypeId)
    (ho : o.op = .call { callee := .builtin .append, args := #[s, x], argTypes := #[t, tn] }) (vs vx : Value) (hs : a.eval s = vs) (hx : a.eval x = vx)
    (h : ∃ v' w', (Builtin.append_ #[t, tn] o.type #[vs, vx]).run P w = .ok v' w' ∧ K (a.put o.dst v') w') :
    if Region.wanted o (yielded ops a.tmps) = true then Oper.wp P o a w K Q else E := by
  obtain ⟨v', w', hr, hk⟩ := h
  exact step_run hgd s x t tn ho vs vx hs hx v' w' hr hk

end Go.Proofs.YtgpgocijacgkhaaDoor

/- It is proved what the FamilyPut of the model returns; conditions: those of each statement. -/
namespace Go.Proofs.YtgpgocijacgkhaaDoor
open Go.RowKit

theorem step_run3 {P : Program} {w : World} {ops : Array Oper} {o : Oper} {a : Act} {K : Act → World → Prop} {Q : Exit → Act → World → Prop} {E : Prop} (s x : Operand) (t tn : TypeId) (vs vx : Value) (hgd : o.guard = none)
    (ho : o.op = .call { callee := .builtin .append, args := #[s, x], argTypes := #[t, tn] }) (hs : a.eval s = vs) (hx : a.eval x = vx)
    (h : ∃ v' w', (Builtin.append_ #[t, tn] o.type #[vs, vx]).run P w = .ok v' w' ∧ K (a.put o.dst v') w') :
    if Region.wanted o (yielded ops a.tmps) = true then Oper.wp P o a w K Q else E := step_run2 hgd s x t tn ho vs vx hs hx h

theorem app_run0 {w : World} {B : Nat} {v : Value} (h : OwnI w B v []) (hB : B ≤ w.heap.size) (a : Option Addr) (c : Nat) (zs : List Int) (hz : Ints w w.heap.size a zs) (_hn : 0 ≤ 1048576) (hzn : zs.length ≤ 1048576) :
    ∃ a' c' w', (Builtin.append_ #[23, 23] 23 #[v, .slice a zs.length c]).run Tryd.prog w = .ok (.slice a' zs.length c') w' ∧
      w'.ownsRow B 3 1 (.slice a' zs.length c') zs.length (zs.map (Value.int .i64)) ∧ w.grownBy w' v.ownBlock := by
  have := app_run (n := 0) (xs := []) h hB a c zs hz (by omega) hzn
  simpa using this

theorem one_blk {w : World} {x : Int} {b : Nat} (h : w.heap[b]? = some (.cells #[.int .i64 x] 3 (0, 0))) : Ints w w.heap.size (some ⟨b, 0, none⟩) [x] := by
  refine .inr ⟨b, 0, rfl, lt_of_some h, fun j hj => ?_⟩
  obtain rfl : j = 0 := by simpa using hj
  exact blk_cell h 0

theorem one_ints0 (w : World) (x : Int) : Ints (w.alloc (.cells #[.int .i64 x] 3)) (w.alloc (.cells #[.int .i64 x] 3)).heap.size (some ⟨w.heap.size, 0, none⟩) [x] := one_blk (alloc_new w _)
end Go.Proofs.YtgpgocijacgkhaaDoor

/- It is proved what l1Put returns; conditions: the bounds in each statement. -/
namespace Go.Proofs.YtgpgocijacgkhaaDoor
open Go.RowKit

theorem app_run0n {w : World} {B k : Nat} {v : Value} (h : OwnI w B v []) (hB : B ≤ w.heap.size) (a : Option Addr) (c : Nat) (zs : List Int) (hk : zs.length = k) (hz : Ints w w.heap.size a zs) (hzn : k ≤ 1048576) :
    ∃ a' c' w', (Builtin.append_ #[23, 23] 23 #[v, .slice a k c]).run Tryd.prog w = .ok (.slice a' k c') w' ∧
      w'.ownsRow B 3 1 (.slice a' k c') k (zs.map (Value.int .i64)) ∧ w.grownBy w' v.ownBlock := by
  subst hk
  exact app_run0 h hB a c zs hz (by omega) hzn

theorem app_run_t {w : World} {B n k t : Nat} {v : Value} {xs : List Value} (h : w.ownsRow B 3 1 v n xs) (hB : B ≤ w.heap.size) (a : Option Addr) (c : Nat) (zs : List Int) (hk : zs.length = k) (hz : Ints w w.heap.size a zs) (ht : n + k = t) (hn : n ≤ 1048576) (hzn : k ≤ 1048576) :
    ∃ a' c' w', (Builtin.append_ #[23, 23] 23 #[v, .slice a k c]).run Tryd.prog w = .ok (.slice a' t c') w' ∧
      w'.ownsRow B 3 1 (.slice a' t c') t (xs ++ zs.map (Value.int .i64)) ∧ w.grownBy w' v.ownBlock := by
  subst ht
  exact app_run_n h hB a c zs hk hz hn hzn

end Go.Proofs.YtgpgocijacgkhaaDoor

/- It is proved how rows of ints of the call's own are read and kept; conditions: those of each statement. -/
namespace Go.Proofs.YtgpgocijacgkhaaDoor
open Go.RowKit Go.Shelf

theorem ownsRow_below {w w' : World} {B n : Nat} {v : Value} {xs : List Value} (h : w.ownsRow B 3 1 v n xs) (hb : Below w.heap.size w w') : w'.ownsRow B 3 1 v n xs :=
  World.ownsRow.kept h (only_of_below hb none) (by cases v.ownBlock <;> simp)

theorem OwnN.cap_le {w : World} {B : Nat} {a : Option Addr} {n cap : Nat} {zs : List Int} (h : OwnN w B a n cap zs) : n ≤ cap := by
  rcases h.2 with ⟨e, hn⟩ | ⟨g, c, cur, e, hb, hg, hc, _⟩
  · omega
  · injection e with e1 e2 e3
    omega

theorem OwnN.len {w : World} {B : Nat} {a : Option Addr} {n cap : Nat} {zs : List Int} (h : OwnN w B a n cap zs) : zs.length = n := by
  have := h.1; simpa using this

theorem OwnN.ints {w : World} {B : Nat} {a : Option Addr} {n cap : Nat} {zs : List Int} (h : OwnN w B a n cap zs) : Ints w w.heap.size a zs := by
  have hl := h.len
  subst hl
  exact own_ints (n := zs.length) (cap := cap) (B := B) h

theorem OwnN.base {w : World} {B B' : Nat} {a : Option Addr} {n cap : Nat} {zs : List Int} (h : OwnN w B a n cap zs) (hB : B' ≤ B) : OwnN w B' a n cap zs := ownsRow_base h hB
theorem OwnN.below {w w' : World} {B : Nat} {a : Option Addr} {n cap : Nat} {zs : List Int} (h : OwnN w B a n cap zs) (hb : Below w.heap.size w w') : OwnN w' B a n cap zs := ownsRow_below h hb
theorem OwnN.ne {w : World} {B : Nat} {a : Option Addr} {n cap : Nat} {zs : List Int} (h : OwnN w B a n cap zs) {b : Nat} (hb : b < B ∨ w.heap.size ≤ b) : (Value.slice a n cap).ownBlock ≠ some b := by
  intro e
  have := World.ownsRow.lt h b e
  omega

theorem OwnN.cell {w : World} {B g n cap : Nat} {ys : List Int} (h : OwnN w B (some ⟨g, 0, none⟩) n cap ys) {j : Nat} (hj : j < n) : w.cell? ⟨g, j, none⟩ = some (.int .i64 (ys[j]?.getD 0)) := by
  have hl := h.len
  have := World.ownsRow.cellAt h j (by omega)
  rw [this]; simp [show j < ys.length by omega]

theorem OwnN.cellz {w : World} {B g n cap : Nat} {ys : List Int} (h : OwnN w B (some ⟨g, 0, none⟩) n cap ys) {j : Nat} (hj : j < n) : w.cell? ⟨g, j, none⟩ = some (.int .i64 (ys[j]?.getD 0)) := h.cell hj
end Go.Proofs.YtgpgocijacgkhaaDoor
