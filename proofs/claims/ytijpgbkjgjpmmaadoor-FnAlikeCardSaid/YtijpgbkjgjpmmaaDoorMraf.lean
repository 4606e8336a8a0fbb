/- It is proved how a map from lists of clubs to namings is read; conditions: those of each statement. -/
import Derived.Maps.OwnIn
import Derived.Maps.Ext
import Derived.DeepKeys4
import Derived.MapKept
import Derived.Laws.CopyRow
import Derived.Lib.SlBuf
import Derived.Test.YtijpgbkjgjpmmaaDoorRows
import Derived.WalkKit
import Derived.WalkSpells
import Derived.ProofKit
import Derived.OpenShut
import Derived.ShutString
import Derived.ChangeOld
import Derived.Below
import Derived.Deep.RegionHeld3
import Derived.Deep.QuietTactic
import Derived.BigQuiet
import Derived.Lib.Hide
import Derived.Lib.SmallJoins
import Derived.Outline
import Derived.Laws.MakeOwn
import Derived.Laws.OwnMore
import Derived.IntWalk
import Derived.Lib.AppendZeros
import Derived.Maps.AppendAt
import Derived.Deep.AppendLies
import Derived.OwnWalk
import Derived.Lib.SlicesCompact
import Derived.Lib.OwnBridge
import Derived.Shelf.Sort.Plain
import Derived.Shelf.Slices.In.SortNone
import Derived.Shelf.Slices.CompactI
import Derived.Ground.Names2Prog
import Derived.RangeFuncNested
import Derived.RangeFuncBound
import Derived.RangeFuncCalls
import Derived.RangeFuncLeaves
import Derived.RangeFuncBox
import Derived.Shelf.Abstract
import Derived.Shelf.RegionOpen
import Derived.OwnWalkIn
import Derived.TacticsInMore
import Derived.LoopNIn
import Derived.LoopIn
import Derived.StillTail
import Derived.StillTactics
import Derived.OrdersIn
import Derived.TacticsIn
import Derived.Shelf.Spec.TrailingZeros
import Derived.StillTailTactics
import Derived.Test.YtijpgbkjgjpmmaaDoorMrad
import Derived.RowKit
import Derived.RangeFuncWrites
import Derived.Test.YtijpgbkjgjpmmaaDoorMrae
import Derived.Test.YtijpgbkjgjpmmaaDoorMrac
import Derived.Test.YtijpgbkjgjpmmaaDoorMraa
import Derived.Test.YtijpgbkjgjpmmaaDoorMrab
namespace Go.Proofs.YtijpgbkjgjpmmaaDoor
open Go.RowKit Go.Shelf

/-! ### how an element reads -/
def cellI : Value → Option Int
  | .int .i64 x => some x
  | _ => none

def intsD (xs : List Int) : DataW Unit := .agg (xs.map fun x => .lit (.int .i64 x))
theorem intsD_inj {xs ys : List Int} (h : intsD xs = intsD ys) : xs = ys := by
  unfold intsD at h
  injection h with h
  exact (List.map_inj_right (fun a b e => by injection e with e; injection e)).1 h

def rowR (v : Value) : Option (DataW Unit × List MemPlace) :=
  match v with
  | .agg cs => (cs.toList.mapM cellI).map fun xs => (intsD xs, [])
  | _ => none

theorem mapM_cellI : ∀ xs : List Int, (xs.map (Value.int .i64)).mapM cellI = some xs
  | [] => rfl
  | x :: xs => by simp [List.mapM_cons, cellI, mapM_cellI xs]

theorem mapM_inv : ∀ (cs : List Value) (xs : List Int), cs.mapM cellI = some xs → cs = xs.map (Value.int .i64)
  | [], xs, h => by simp at h; simp [← h]
  | c :: cs, xs, h => by
    simp only [List.mapM_cons, Option.bind_eq_bind, Option.pure_def, Option.bind_eq_some_iff] at h
    obtain ⟨x, hx, ys, hy, e⟩ := h
    injection e with e
    subst e
    rw [List.map_cons, mapM_inv cs ys hy]
    unfold cellI at hx
    split at hx
    · injection hx with hx; rw [hx]
    · cases hx

theorem rowR_mk (xs : List Int) : rowR (.agg (iv xs)) = some (intsD xs, []) := by
  show ((xs.map (Value.int .i64)).mapM cellI).map (fun xs => (intsD xs, [])) = _
  rw [mapM_cellI]; rfl

theorem rowR_inv {v : Value} {xs : List Int} {ps : List MemPlace} (h : rowR v = some (intsD xs, ps)) : v = .agg (iv xs) := by
  unfold rowR at h
  split at h
  · rename_i cs
    cases hm : cs.toList.mapM cellI with
    | none => rw [hm] at h; cases h
    | some ys =>
      rw [hm] at h
      simp only [Option.map_some, Option.some.injEq, Prod.mk.injEq] at h
      have e := intsD_inj h.1
      subst e
      have := mapM_inv _ _ hm
      congr 1
      apply Array.toList_inj.1
      rw [this]; simp [iv]
  · cases h

/-! ### how a key reads -/
theorem Tryd.laidOutM : laidOutB Tryd.prog = true := by kernel_rfl
theorem keyLaw : Maps.Keyed Tryd.prog 50 := Maps.Keyed.of_law (deep_law_laid Tryd.laidOutM (m := 2) (by omega) (of_decide_eq_true (by kernel_rfl)) (by kernel_rfl) (by kernel_rfl))
/-- A number that an int may be. -/
def wfI (x : Int) : Prop := (Lit.int .i64 x).wf = true

theorem key_some {L : List Int} (hl : L.length = 8) (hw : ∀ x ∈ L, wfI x) : ∃ l, keyOf Tryd.prog 50 (.agg (iv L)) = some l := by
  obtain ⟨x0, x1, x2, x3, x4, x5, x6, x7, rfl⟩ : ∃ x0 x1 x2 x3 x4 x5 x6 x7 : Int, L = [x0, x1, x2, x3, x4, x5, x6, x7] := by
    match L, hl with
    | [x0, x1, x2, x3, x4, x5, x6, x7], _ => exact ⟨_, _, _, _, _, _, _, _, rfl⟩
  have w0 := hw x0 (by simp)
  have w1 := hw x1 (by simp)
  have w2 := hw x2 (by simp)
  have w3 := hw x3 (by simp)
  have w4 := hw x4 (by simp)
  have w5 := hw x5 (by simp)
  have w6 := hw x6 (by simp)
  have w7 := hw x7 (by simp)
  unfold wfI at w0 w1 w2 w3 w4 w5 w6 w7
  have ht : Tryd.prog.keyType 50 = true := by kernel_rfl
  have hc : Tryd.prog.cellsOf 50 = 8 := by kernel_rfl
  have hc3 : Tryd.prog.cellsOf 3 = 1 := by kernel_rfl
  obtain ⟨d, hd⟩ : ∃ d, Tryd.prog.types.size + 1 = d + 2 := ⟨Tryd.prog.types.size - 1, by have : 1 ≤ Tryd.prog.types.size := of_decide_eq_true (by kernel_rfl); omega⟩
  have k3 : ∀ x : Int, (Lit.int .i64 x).wf = true → Tryd.prog.keyLits (d + 1) 3 [.int .i64 x] = some [.int .i64 x] := by
    intro x hx
    simp [Program.keyLits, Tryd.underlying3, hx]
  refine ⟨.string (keyBytes [.int .i64 x0, .int .i64 x1, .int .i64 x2, .int .i64 x3, .int .i64 x4, .int .i64 x5, .int .i64 x6, .int .i64 x7]), ?_⟩
  unfold keyOf
  simp only [Tryd.underlying50, ht, Value.formed, hc, hd]
  simp [iv, Program.keyLits, Tryd.underlying50, hc, hc3, List.range_succ, k3, w0, w1, w2, w3, w4, w5, w6, w7, Value.cells]
  done

end Go.Proofs.YtijpgbkjgjpmmaaDoor

/- It is proved what a map holds to which all names have been told, list by list; conditions: those of each statement. -/
namespace Go.Proofs.YtijpgbkjgjpmmaaDoor
open Go.RowKit Go.Shelf Go.Maps

theorem wfI_small {x : Int} (h0 : 0 ≤ x) (h1 : x ≤ 1000000) : wfI x := WalkArith.wf_i64 (by omega)
/-- A list that may be a key. -/
def WfK (L : List Int) : Prop := L.length = 8 ∧ ∀ x ∈ L, wfI x

noncomputable def keyLit (L : List Int) : Lit := open Classical in if h : ∃ l, keyOf Tryd.prog 50 (.agg (iv L)) = some l then h.choose else .bool true
theorem keyLit_key {L : List Int} (h : WfK L) : keyOf Tryd.prog 50 (.agg (iv L)) = some (keyLit L) := by
  have hl := key_some h.1 h.2
  unfold keyLit
  rw [dif_pos hl]
  exact hl.choose_spec

theorem keyLit_inj {L M : List Int} (hL : WfK L) (hM : WfK M) (h : keyLit L = keyLit M) : L = M := by
  have e := keyLaw.inj (keyLit_key hL) (by rw [h]; exact keyLit_key hM)
  injection e with e
  exact iv_inj e

theorem keyLit_lit {L : List Int} (h : WfK L) : WideAt.IsKeyLit (keyLit L) := keyLaw.key (keyLit_key h)
def zero13 : List Int := List.replicate 13 0
/-- What is known of the names in L that make the list c. -/
def nmL (zs : List Int) (L : List (List Nat)) (c : List Int) : List Int := (L.filter fun p => keyL zs (nI p) == c).foldl (fun x p => andL x (nI p)) zero13

theorem nmL_same (zs : List Int) (L : List (List Nat)) (p : List Nat) : nmL zs (L ++ [p]) (keyL zs (nI p)) = andL (nmL zs L (keyL zs (nI p))) (nI p) := by
  simp [nmL, List.filter_append]

theorem nmL_other (zs : List Int) (L : List (List Nat)) (p : List Nat) (c : List Int) (h : keyL zs (nI p) ≠ c) : nmL zs (L ++ [p]) c = nmL zs L c := by
  simp [nmL, List.filter_append, h]

/-- What the map reads as. -/
structure TabD (zs : List Int) (D : DataW Unit) (L : List (List Nat)) : Prop where
  at_ : ∀ c, WfK c → D.atKey (keyLit c) (intsD zero13) = intsD (nmL zs L c)
  has_ : ∀ l, Maps.has D l = true ↔ ∃ p ∈ L, l = keyLit (keyL zs (nI p))

theorem tab_nil (zs : List Int) : TabD zs (.map []) [] := ⟨fun c _ => rfl, fun l => by simp [Maps.has]⟩
theorem tab_put {zs : List Int} {D : DataW Unit} {L : List (List Nat)} (h : TabD zs D L) (hm : IsMap D) (hall : ∀ p ∈ L, WfK (keyL zs (nI p))) (p : List Nat) (hp : WfK (keyL zs (nI p))) :
    TabD zs (D.put (keyLit (keyL zs (nI p))) (intsD (andL (nmL zs L (keyL zs (nI p))) (nI p)))) (L ++ [p]) := by
  refine ⟨fun c hc => ?_, fun l => ?_⟩
  · by_cases e : keyL zs (nI p) = c
    · subst e
      rw [atKey_put_same hm (keyLit_lit hp), nmL_same]
    · rw [atKey_put_other (fun h' => e (keyLit_inj hp hc h'.symm)), nmL_other _ _ _ _ e]
      exact h.at_ c hc
  · by_cases e : l = keyLit (keyL zs (nI p))
    · subst e
      rw [has_put_same hm (keyLit_lit hp)]
      exact ⟨fun _ => ⟨p, by simp, rfl⟩, fun _ => rfl⟩
    · rw [has_put_other e, h.has_ l]
      constructor
      · rintro ⟨q, hq, rfl⟩
        exact ⟨q, by simp [hq], rfl⟩
      · rintro ⟨q, hq, rfl⟩
        rcases List.mem_append.1 hq with hq | hq
        · exact ⟨q, hq, rfl⟩
        · simp at hq; subst hq; exact absurd rfl e

/-- A naming's cells, with so many names in it at most. -/
structure NmOk (x : List Int) (n : Nat) : Prop where
  len : x.length = 13
  lo : (0 : Int) ≤ x[6]?.getD 0
  hi : x[6]?.getD 0 ≤ (n : Int)
  cal : ∀ i, 7 ≤ i → i < 13 → ∃ q : Nat, q < 64 ∧ x[i]?.getD 0 = (q : Int)

theorem NmOk.mono {x : List Int} {n k : Nat} (h : NmOk x n) (hk : n ≤ k) : NmOk x k := ⟨h.len, h.lo, by have := h.hi; omega, h.cal⟩
theorem nmOk_zero : NmOk zero13 0 := ⟨rfl, by simp [zero13], by simp [zero13], fun i h1 h2 => ⟨0, by decide, by unfold zero13; rw [List.getElem?_replicate, if_pos h2]; rfl⟩⟩
/-- Names that may be told. -/
def NamesOk (ps : List Int) : Prop := ps.length ≤ 6 ∧ 1 ≤ ps.length ∧ ∀ v, v < ps.length → ∃ q : Nat, q < 6 ∧ ps[v]?.getD 0 = (q : Int)

theorem andC_cal {g ps : List Int} (hg : g.length = 13) (hp : ps.length ≤ 6) (hpv : ∀ v, v < ps.length → ∃ q : Nat, q < 6 ∧ ps[v]?.getD 0 = (q : Int)) (hc : ∀ i, 7 ≤ i → i < 13 → ∃ q : Nat, q < 64 ∧ g[i]?.getD 0 = (q : Int)) :
    ∀ k, k ≤ ps.length → ∀ i, 7 ≤ i → i < 13 → ∃ q : Nat, q < 64 ∧ (andC g ps k)[i]?.getD 0 = (q : Int)
  | 0, _, i, h1, h2 => hc i h1 h2
  | k + 1, hk, i, h1, h2 => by
    rw [andC]
    by_cases e : 7 + k = i
    · subst e
      rw [List.getElem?_set_self (by rw [andC_len, hg]; omega), Option.getD_some]
      obtain ⟨x, hx, hxe⟩ := andC_cal hg hp hpv hc k (by omega) (7 + k) h1 h2
      obtain ⟨q, hq, hqe⟩ := hpv k (by omega)
      rw [hxe, hqe]
      exact ⟨x ||| 2 ^ q, Nat.or_lt_two_pow (n := 6) hx (Nat.pow_lt_pow_right (by decide) hq), by simp [orI]⟩
    · rw [List.getElem?_set_ne e]
      exact andC_cal hg hp hpv hc k (by omega) i h1 h2

theorem andL_six {xs ps : List Int} (hl : xs.length = 13) (hp : ps.length ≤ 6) : (andL xs ps)[6]?.getD 0 = xs[6]?.getD 0 + 1 := by
  rw [andL, andC_far _ _ 6 _ (.inl (by omega)), andM, List.getElem?_set_self (by rw [andF_len (by omega)]; omega)]
  rfl

theorem nmOk_and {x ps : List Int} {n : Nat} (h : NmOk x n) (hp : NamesOk ps) : NmOk (andL x ps) (n + 1) := by
  have hl := h.len
  have h1 := h.lo
  have h2 := h.hi
  have h6 := andL_six hl hp.1
  refine ⟨by rw [andL, andC_len, andM_len (by have := hp.1; omega), hl], by omega, by omega, fun i hi1 hi2 => ?_⟩
  exact andC_cal (by rw [andM_len (by have := hp.1; omega), hl]) hp.1 hp.2.2 (fun i h1 h2 => by rw [andM_far hp.1 i h1]; exact h.cal i h1 h2) _ (Nat.le_refl _) i hi1 hi2

theorem nmOk_fold : ∀ (L : List (List Nat)) (x : List Int) (n : Nat), NmOk x n → (∀ p ∈ L, NamesOk (nI p)) → NmOk (L.foldl (fun x p => andL x (nI p)) x) (n + L.length)
  | [], x, n, h, _ => h
  | p :: L, x, n, h, hp => by
    rw [List.foldl_cons, List.length_cons, show n + (L.length + 1) = (n + 1) + L.length from by omega]
    exact nmOk_fold L _ _ (nmOk_and h (hp p (by simp))) (fun q hq => hp q (by simp [hq]))

theorem nmOk_all (zs : List Int) (L : List (List Nat)) (c : List Int) (h : ∀ p ∈ L, NamesOk (nI p)) : NmOk (nmL zs L c) L.length := by
  have := nmOk_fold (L.filter fun p => keyL zs (nI p) == c) zero13 0 nmOk_zero (fun p hp => h p (List.mem_filter.1 hp).1)
  exact this.mono (by rw [Nat.zero_add]; exact List.length_filter_le _ _)

theorem namesOk_nI {m : Nat} (hm0 : 1 ≤ m) (hm : m ≤ 6) {p : List Nat} (hl : p.length = m) (hv : ∀ v ∈ p, v < m) : NamesOk (nI p) := by
  refine ⟨by rw [nI_len]; omega, by rw [nI_len]; omega, fun v h => ?_⟩
  rw [nI_len] at h
  exact ⟨p[v], by have := hv p[v] (List.getElem_mem h); omega, by simp [nI, h]⟩

theorem okp_nI {m : Nat} (hm : m ≤ 6) {p : List Nat} (hl : p.length = m) (hv : ∀ v ∈ p, v < m) : Okp m (nI p) := by
  refine ⟨by rw [nI_len]; exact hl, fun v h => ?_⟩
  have hv' : v < p.length := by omega
  have := hv p[v] (List.getElem_mem hv')
  simp only [nI, List.getElem?_map, List.getElem?_eq_getElem hv', Option.map_some, Option.getD_some]
  omega

theorem wfK_key {m : Nat} (hm : m ≤ 6) {zs : List Int} (h8 : zs.length ≤ 8) (hz : ∀ z ∈ zs, z.toNat < 2 ^ m) {ps : List Int} (hp : Okp m ps) : WfK (keyL zs ps) := by
  refine ⟨keyL_len _ _ h8, fun x hx => ?_⟩
  unfold keyL at hx
  rcases List.mem_append.1 hx with h | h
  · rw [List.mem_mergeSort, List.mem_map] at h
    obtain ⟨z, hz', rfl⟩ := h
    have : called ps z.toNat < 64 := nm_lt _ _ (fun v hv => by
      have := mem_lt m hm z.toNat (hz z hz') v hv
      have := hp.rng v this
      omega)
    exact wfI_small (by unfold callZ; omega) (by unfold callZ; omega)
  · rw [List.mem_replicate] at h
    rw [h.2]; exact wfI_small (by decide) (by decide)

end Go.Proofs.YtijpgbkjgjpmmaaDoor

/- It is proved what a loop over a function does where the function keeps its state in cells of its own and the body writes one block that lay ahead of the loop; conditions: those of each statement. -/
namespace Go
open Go.RowKit

/-- Whatever lies in a block that X does not name lies as it lay. -/
structure But (X : Nat → Prop) (W W' : World) : Prop where
  os : W'.os = W.os
  tape : W'.tape = W.tape
  output : W'.output = W.output
  size : W.heap.size ≤ W'.heap.size
  same : ∀ k, k < W.heap.size → ¬ X k → W'.heap[k]? = W.heap[k]?

theorem But.refl (X : Nat → Prop) (W : World) : But X W W := ⟨rfl, rfl, rfl, Nat.le_refl _, fun _ _ _ => rfl⟩
theorem But.trans {X : Nat → Prop} {A B C : World} (h : But X A B) (k : But X B C) : But X A C :=
  ⟨k.os.trans h.os, k.tape.trans h.tape, k.output.trans h.output, Nat.le_trans h.size k.size, fun i hi hX => (k.same i (Nat.lt_of_lt_of_le hi h.size) hX).trans (h.same i hi hX)⟩

theorem But.mono {X Y : Nat → Prop} {A B : World} (h : But X A B) (hXY : ∀ k, k < A.heap.size → X k → Y k) : But Y A B := ⟨h.os, h.tape, h.output, h.size, fun i hi hY => h.same i hi (fun e => hY (hXY _ hi e))⟩
theorem But.of_grownBy {X : Nat → Prop} {W W' : World} {row : Option Nat} (hg : W.grownBy W' row) (hr : ∀ r, row = some r → r < W.heap.size → X r) : But X W W' :=
  ⟨hg.os, hg.tape, hg.output, hg.size, fun k hk hX => hg.block k hk (fun e => hX (hr k e.symm hk))⟩

theorem But.putObj {X : Nat → Prop} (W : World) (l : Nat) (o : Obj) (hl : X l) : But X W (W.putObj l o) := But.of_grownBy (grownBy_putObj' W l o) (fun r e _ => by cases e; exact hl)
theorem But.alloc {X : Nat → Prop} (W : World) (o : Obj) : But X W (W.alloc o) := But.of_grownBy (World.grownBy_alloc W o none) (by simp)
theorem But.setCell {X : Nat → Prop} (W : World) (b i : Nat) (v : Value) (hb : b < W.heap.size → X b) : But X W (W.setCell ⟨b, i, none⟩ v) :=
  ⟨rfl, rfl, rfl, by simp, fun k hk hX => Below.heap_setCell W ⟨b, i, none⟩ v k (fun e => hX (by subst e; exact hb hk))⟩

theorem But.drew {X : Nat → Prop} (W : World) : But X W W.drew := ⟨rfl, rfl, rfl, Nat.le_refl _, fun _ _ _ => rfl⟩
theorem But.keep {X : Nat → Prop} {W W' : World} {k : Nat} {o : Obj} (h : But X W W') (hX : ¬ X k) (hk : W.heap[k]? = some o) : W'.heap[k]? = some o := (h.same k (Array.getElem?_eq_some_iff.1 hk).1 hX).trans hk
theorem But.below {X : Nat → Prop} {W W' : World} {B : Nat} (h : But X W W') (hB : B ≤ W.heap.size) (hX : ∀ k, X k → B ≤ k) : Below B W W' :=
  ⟨h.os, h.tape, h.output, h.size, fun k hk => h.same k (Nat.lt_of_lt_of_le hk hB) (fun e => by have := hX k e; omega)⟩

theorem But.from {X : Nat → Prop} {W W' : World} {B : Nat} (h : But X W W') (hX : ∀ k o, B ≤ k → W.heap[k]? = some o → X k → o.isCells = true) : KeepsFrom B W W' :=
  ⟨h.size, fun k o hB hk ho => h.keep (fun e => by rw [hX k o hB hk e] at ho; cases ho) hk⟩

theorem But.of_below {X : Nat → Prop} {W W' : World} (h : Below W.heap.size W W') : But X W W' := ⟨h.os, h.tape, h.output, h.size, fun k hk _ => h.block k hk⟩
/-- What abides whatever is done to blocks from B on. -/
def OwnAll {β : Type} (B : Nat) (J : β → World → Prop) : Prop := ∀ s A C row, J s A → A.grownBy C row → (∀ r, row = some r → B ≤ r) → J s C

/-- The contract of an iterator that may keep cells of its own: a round finds Ok of what it is handed, and leaves every block but the loop's record and block b as it was. -/
def SeqCells {α : Type} (n : Nat) (P : Program) (g : Nat) (lb : Array Value) (encs : α → Array Value) (b : Nat) (Ok : α → World → Prop) (S : List α → Prop) (N : Nat) (w : World) : Prop :=
  ∀ (l : Nat) (J : List α → World → Prop) (W : World), Below w.heap.size w W → w.heap.size ≤ l → l < W.heap.size → b < W.heap.size → OwnAll W.heap.size J →
    (∀ pre x W1, J pre W1 → Ok x W1 → pre.length < N → YieldAt Fence.wide (n - 1) P l (encs x) W1 fun e W' => e = .returned (.bool true) ∧ J (pre ++ [x]) W' ∧ But (fun k => k = l ∨ k = b) W1 W') →
    J [] W →
    CallsIn Fence.wide n P g (#[.func (.yield l) #[] #[]] ++ lb) W fun e W' => (∃ v, e = .returned v) ∧ ∃ xs, S xs ∧ J xs W'

/-- How a round ends. -/
def postCells {α : Type} (b : Nat) (I : List α → World → Prop) (xs : List α) (W : World) : Exit → Act → World → Prop
  | .normal, _, W' => But (fun k => k = b) W W' ∧ I xs W'
  | _, _, _ => False

theorem wpIn_rangeFunc_cells {P : Program} {n : Nat} {α : Type} {g : Operand} {ps : Array Tmp} {assign body : Code} {Q : Exit → Act → World → Prop} {a : Act} {w : World}
    (h1 : 1 ≤ n) {gf : Nat} {lb : Array Value} (hg : a.eval g = .func (.func gf) #[] lb) (eg : ∀ args w, (callFunc gf args).run P w = .ok (.enter gf args) w)
    {encs : α → Array Value} {b : Nat} {Ok : α → World → Prop} {S : List α → Prop} {N : Nat} {w0 : World} (hseq : SeqCells (n - 1) P gf lb encs b Ok S N w0) (hb0 : Below w0.heap.size w0 w) (hbw : b < w.heap.size) (hps : ∀ x, (encs x).size = ps.size)
    (hOk : ∀ x A l o, Ok x A → (∃ o', A.heap[l]? = some o' ∧ o'.isCells = false) → Ok x (A.putObj l o))
    (I : List α → World → Prop) (hI : OwnAll w.heap.size I) (h0 : I [] w) (a₁ : α → Act)
    (hassign : ∀ (l : Nat) (x : α) (W : World) (K : Act → World → Prop), K (a₁ x) W →
      assign.wpIn (Fence.wide.inRound l) (n - 1 - 1) P (Exit.then K (fun _ _ _ => False)) { tmps := (ps.zip (encs x)).foldl (fun t (p, v) => t.setIfInBounds p v) a.tmps, defers := [] } W)
    (hbody : ∀ (l : Nat) (pre : List α) (x : α) (W : World), I pre W → Ok x W → pre.length < N → body.wpIn (Fence.wide.inRound l) (n - 1 - 1) P (postCells b I (pre ++ [x]) W) (a₁ x) W)
    (hdone : ∀ (D : Nat) (xs : List α) (W : World), w.heap.size ≤ D → S xs → I xs W → W.heap[D]? = some (.deferred (some [])) → Q .normal { a with defers := { target := .collected D, args := #[] } :: a.defers } W) :
    (Code.rangeFunc g ps assign body).wpIn Fence.wide n P Q a w := by
  refine wpIn_rangeFunc ?_
  intro fn hfn
  rw [show Fence.wide.round = none from rfl]
  obtain ⟨rec, hrec⟩ : ∃ rec : LoopState → Option Code → Loop, rec = fun st pe => { state := st, pending := pe, fn, tmps := a.tmps, params := ps, assign, body, defers := w.heap.size } := ⟨_, rfl⟩
  obtain ⟨W1, hW1⟩ : ∃ W1, (w.alloc (.deferred (some []))).alloc (.loop (rec .ready none)) = W1 := ⟨_, rfl⟩
  have hs1 : W1.heap.size = w.heap.size + 2 := by rw [← hW1]; simp
  have hL1 : W1.heap[w.heap.size + 1]? = some (.loop (rec .ready none)) := by
    rw [← hW1]; have := World.alloc_heap_new (w.alloc (.deferred (some []))) (.loop (rec .ready none)); rwa [World.size_alloc] at this
  have hK1 : W1.heap[w.heap.size]? = some (.deferred (some [])) := by
    rw [← hW1]; exact (Below.heap_alloc _ _ _ (by simp)).trans (World.alloc_heap_new w _)
  have hI1 : I [] W1 := by
    rw [← hW1]
    exact hI _ _ _ none (hI _ _ _ none h0 (World.grownBy_alloc _ _ _) (by simp)) (World.grownBy_alloc _ _ _) (by simp)
  have hb1 : Below w0.heap.size w0 W1 := by
    rw [← hW1]; exact hb0.trans ((((Below.refl _ w).alloc (Nat.le_refl _) _).alloc (by simp) _).mono hb0.size)
  have hput : ∀ (xs : List α) (W : World) (o : Obj), I xs W → I xs (W.putObj (w.heap.size + 1) o) := fun xs W o h => hI _ _ _ _ h (grownBy_putObj' W _ o) (fun r e => by cases e; omega)
  refine ⟨w.heap.size + 1, [{ target := .collected w.heap.size, args := #[] }], W1, { target := .fn (.func gf) lb, args := #[.func (.yield (w.heap.size + 1)) #[] #[]] }, W1, gf,
    #[.func (.yield (w.heap.size + 1)) #[] #[]] ++ lb, W1, ?_, ?_, fun _ _ => trivial, ?_, fun _ => h1, ?_⟩
  · rw [← hW1, hrec]; exact run_enterLoop_outer _ _ _ _ _
  · simp only [resolve, hg]
    simp [go_sem]
  · simp [invoke, go_sem, eg]
  · refine (hseq (w.heap.size + 1) (fun pre W => I pre W ∧ W.heap[w.heap.size + 1]? = some (.loop (rec .ready none)) ∧ W.heap[w.heap.size]? = some (.deferred (some []))) W1 hb1 (by have := hb0.size; omega) (by omega) (by omega) ?_ ?_ ⟨hI1, hL1, hK1⟩).mono ?_
    · rintro s A C row ⟨hi, hl, hk⟩ hgr hr
      have hne : ∀ k, k < w.heap.size + 2 → some k ≠ row := fun k hk' e => by have := hr k e.symm; omega
      exact ⟨hI s A C row hi hgr (fun r e => by have := hr r e; omega), (hgr.block _ (Array.getElem?_eq_some_iff.1 hl).1 (hne _ (by omega))).trans hl, (hgr.block _ (Array.getElem?_eq_some_iff.1 hk).1 (hne _ (by omega))).trans hk⟩
    · rintro pre x W ⟨hi, hl, hk⟩ hok hlen
      have hlt : w.heap.size + 1 < W.heap.size := (Array.getElem?_eq_some_iff.1 hl).1
      have hy := run_yield (P := P) (args := encs x) hl (by rw [hrec]; exact hps x)
      rw [hrec] at hy
      refine ⟨fn, _, assign, body, hy, roundIn_of_wpIn hfn (hassign _ x W _ ⟨_, run_beginRound hl (by rw [hrec]), ?_⟩)⟩
      have hok2 : Ok x (W.putObj (w.heap.size + 1) (.loop { rec .ready none with state := .busy })) := hOk _ _ _ _ hok ⟨_, hl, rfl⟩
      have hl2 : (W.putObj (w.heap.size + 1) (.loop { rec .ready none with state := .busy })).heap[w.heap.size + 1]? = some (.loop { rec .ready none with state := .busy }) := World.putObj_heap_same hlt
      have hk2 : (W.putObj (w.heap.size + 1) (.loop { rec .ready none with state := .busy })).heap[w.heap.size]? = some (.deferred (some [])) := (World.putObj_heap_other (by omega)).trans hk
      refine wpIn_mono (hbody _ pre x _ (hput _ _ _ hi) hok2 hlen) ?_
      rintro e a3 W3 hp
      cases e with
      | normal =>
        obtain ⟨hk3, hi3⟩ := hp
        have hl3 := hk3.keep (by omega) hl2
        have hr := run_endRound (P := P) none hl3
        have hb4 : But (fun k => k = w.heap.size + 1 ∨ k = b) W (W3.putObj (w.heap.size + 1) (.loop (rec .ready none))) :=
          ((But.putObj W _ _ (.inl rfl)).trans (hk3.mono (fun k _ e => .inr e))).trans (But.putObj W3 _ _ (.inl rfl))
        rw [hrec] at hr hb4 ⊢
        refine ⟨_, _, hr, rfl, ⟨hput _ _ _ hi3, World.putObj_heap_same (Array.getElem?_eq_some_iff.1 hl3).1, (World.putObj_heap_other (by omega)).trans (hk3.keep (by omega) hk2)⟩, hb4⟩
      | _ => exact hp.elim
    · rintro e W2 ⟨⟨v, rfl⟩, xs, hS, hi, hl, hk⟩
      refine ⟨none, _, by have := run_endLoop (P := P) hl (by rw [hrec]; simp); rw [hrec] at this; exact this, ?_⟩
      exact hdone _ xs _ (Nat.le_refl _) hS (hput _ _ _ hi) ((World.putObj_heap_other (by omega)).trans hk)

end Go

/- It is proved what append does with any list of ints, and what slices.Grow and slices.Concat return; conditions: those of each statement. -/
namespace Go.Proofs.YtijpgbkjgjpmmaaDoor
open Go.RowKit

theorem Ints.add_ {w : World} {B : Nat} {x : Addr} {zs : List Int} (h : Ints w B (some x) zs) : ∀ j u, (zs.map (Value.int .i64))[j]? = some u → w.cell? (x.add j) = some u := by
  intro j u hu
  rcases h with rfl | ⟨b, off, e, hb, hc⟩
  · simp at hu
  · injection e with e
    subst e
    have hj : j < zs.length := by have := (List.getElem?_eq_some_iff.1 hu).1; simpa using this
    rw [show (⟨b, off, none⟩ : Addr).add j = ⟨b, off + j, none⟩ from by unfold Addr.add; split <;> simp_all, hc j hj]
    simp [hj] at hu ⊢
    exact hu

/-- append of any list of ints onto a row of the call's own. -/
theorem app_run {w : World} {B n : Nat} {v : Value} {xs : List Value} (h : w.ownsRow B 3 1 v n xs) (hB : B ≤ w.heap.size) (a : Option Addr) (c : Nat) (zs : List Int) (hz : Ints w w.heap.size a zs) (hn : n ≤ 1048576) (hzn : zs.length ≤ 1048576) :
    ∃ a' c' w', (Builtin.append_ #[23, 23] 23 #[v, .slice a zs.length c]).run Tryd.prog w = .ok (.slice a' (n + zs.length) c') w' ∧
      w'.ownsRow B 3 1 (.slice a' (n + zs.length) c') (n + zs.length) (xs ++ zs.map (Value.int .i64)) ∧ w.grownBy w' v.ownBlock := by
  obtain ⟨i0, hi0, hz0, hz1, hz2⟩ := info_parts Tryd.info3
  have form : ∀ {w' : World} {v' : Value} {k : Nat} {ys : List Value}, w'.ownsRow B 3 1 v' k ys → ∃ a' c', v' = .slice a' k c' := fun {w' v' k ys} h' => by
    rcases h'.2 with ⟨rfl, rfl⟩ | ⟨g, cap, cur, rfl, _⟩
    · exact ⟨none, 0, rfl⟩
    · exact ⟨_, _, rfl⟩
  rcases a with _ | x
  · have hzs : zs = [] := by
      rcases hz with h | ⟨_, _, e, _⟩
      · exact h
      · cases e
    subst hzs
    obtain ⟨a', c', rfl⟩ := form h
    refine ⟨a', c', w, ?_, by simpa using h, World.grownBy.refl _ _⟩
    rcases h.2 with ⟨e, rfl⟩ | ⟨g, cap, cur, e, _, _, hnc, _⟩
    · cases e; simp [Builtin.append_, run_underlying Tryd.underlying23, sizeOf, typeInfo, hi0, Builtin.lenOf, Builtin.firstCells]
    · cases e; simp [Builtin.append_, run_underlying Tryd.underlying23, sizeOf, typeInfo, hi0, Builtin.lenOf, Builtin.firstCells, hnc, storeCells]
  · obtain ⟨v', w', hr, h2, h3, _⟩ := run_append_own (P := Tryd.prog) w B 23 23 3 i0 (.int .i64 0) 1 8 Tryd.underlying23 hi0 hz0 hz1 hz2 rfl (by decide) v n xs h x zs.length c (zs.map (Value.int .i64)) (by simp) hz.add_ (ints_oneCell _ _) (by simp only [maxLen]; omega) (by omega) hB
    obtain ⟨a', c', rfl⟩ := form h2
    exact ⟨a', c', w', hr, h2, h3⟩

end Go.Proofs.YtijpgbkjgjpmmaaDoor

/- It is proved what the FamilyDrop of the program returns; conditions: those of each statement. -/
namespace Go.Proofs.YtijpgbkjgjpmmaaDoor
open Go.RowKit

/-- Without the club at place p. -/
def without (zs : List Int) (p : Nat) : List Int := zs.take p ++ zs.drop (p + 1)

theorem Ints.take_ {w : World} {B : Nat} {a : Option Addr} {zs : List Int} (h : Ints w B a zs) (p : Nat) : Ints w B a (zs.take p) := by
  rcases h with rfl | ⟨b, off, e, hb, hc⟩
  · exact .inl (by simp)
  · exact .inr ⟨b, off, e, hb, fun j hj => by
      rw [List.length_take] at hj
      rw [hc j (by omega), List.getElem?_take, if_pos (by omega)]⟩

theorem Ints.drop_ {w : World} {B b off : Nat} {zs : List Int} (h : Ints w B (some ⟨b, off, none⟩) zs) (p : Nat) (hp : p < zs.length) : Ints w B (some ⟨b, off + p, none⟩) (zs.drop p) := by
  rcases h with rfl | ⟨b', off', e, hb, hc⟩
  · simp at hp
  · injection e with e
    injection e with e1 e2
    subst e1; subst e2
    exact .inr ⟨b, off + p, rfl, hb, fun j hj => by
      rw [List.length_drop] at hj
      have := hc (p + j) (by omega)
      rw [Nat.add_assoc, this, List.getElem?_drop]⟩

end Go.Proofs.YtijpgbkjgjpmmaaDoor

/- It is proved what the method ask leaves in its map; conditions: those of each statement. -/
namespace Go.Proofs.YtijpgbkjgjpmmaaDoor
open Go.RowKit Go.Shelf Go.Maps

attribute [local go_sem] Oper.semAt_some

/-- allNames(members): the number is boxed; the function value holds the box. -/
theorem allNames_any (m : Int) (w : World) :
    Calls Tryd.prog 60 #[.int .i64 m] w fun e w' => e = .returned (.func (.func 72) #[] #[.pointer (some ⟨w.heap.size, 0, none⟩)]) ∧ w' = w.alloc (.cells #[.int .i64 m] 3) := by
  have hmf : ∀ (fn : Fn) (first cap : Array Value) (w : World), (Instr.makeFunc fn first cap).run Tryd.prog w = .ok (.func fn first cap) w := fun _ _ _ _ => rfl
  go_enter Tryd.func60, Tryd.ntmps60
  go_wp2
  go_ret
  exact ⟨rfl, rfl⟩

/-- The map of namings. -/
abbrev OwnT (W : World) (b n : Nat) (D : DataW Unit) : Prop := W.ownsMap Tryd.prog 50 rowR b n D

theorem OwnT.but {W W' : World} {b n : Nat} {D : DataW Unit} {X : Nat → Prop} (h : OwnT W b n D) (hb : But X W W') (hX : ¬ X b) : OwnT W' b n D := by
  obtain ⟨es, clock, hB, F, hs, hD⟩ := h
  exact ⟨es, clock, hb.keep hX hB, F, hs, hD⟩

theorem OwnT.blk {W : World} {b n : Nat} {D : DataW Unit} (h : OwnT W b n D) : ∃ es clock, W.heap[b]? = some (.map es clock) := by
  obtain ⟨es, clock, hB, _⟩ := h; exact ⟨es, clock, hB⟩

theorem ints_but {W W' : World} {b B : Nat} {a : Option Addr} {zs : List Int} (h : Ints W B a zs) (hB : B ≤ W.heap.size) (hb : But (fun k => k = b) W W') (hm : ∃ es clock, W.heap[b]? = some (.map es clock)) : Ints W' B a zs := by
  rcases h with h | ⟨g, off, e, hg, hc⟩
  · exact .inl h
  · by_cases hz : zs = []
    · exact .inl hz
    · refine .inr ⟨g, off, e, hg, fun j hj => ?_⟩
      have hne : g ≠ b := by
        rintro rfl
        obtain ⟨es, clock, hm⟩ := hm
        have := hc 0 (List.length_pos_iff.2 hz)
        simp [World.cell?, hm] at this
      exact (World.cell?_of_block (a := ⟨g, off + j, none⟩) (hb.same g (by omega) hne)).trans (hc j hj)

theorem clear_own {W : World} {b n : Nat} {D : DataW Unit} (h : OwnT W b n D) : ∃ W', (∀ ty, (Builtin.clear_ #[48] ty #[.map (some b)]).run Tryd.prog W = .ok (.tuple #[]) W') ∧ OwnT W' b 0 (.map []) ∧ W.grownBy W' (some b) := by
  obtain ⟨es, clock, hb, F, hs, hD⟩ := h
  refine ⟨ChangeMaps.setBlock W b (.map #[] clock), fun ty => ?_, ⟨#[], clock, ChangeMaps.heap_setBlock_same hb _, ⟨by simp, MapKept.stamped_empty _, by simp⟩, Nat.le_refl _, rfl⟩, ⟨rfl, rfl, rfl, by simp [ChangeMaps.setBlock], fun i _ hi => ChangeMaps.heap_setBlock_other hb _ (fun e => hi (by rw [e]))⟩⟩
  simp [Builtin.clear_, run_underlying Tryd.underlying48, MapKept.run_getObj_map hb, MapKept.run_setObj_map _ hb, Result.andThen]
  rfl

end Go.Proofs.YtijpgbkjgjpmmaaDoor

/- It is proved what the method and of a naming returns; conditions: those of each statement. -/
namespace Go.Proofs.YtijpgbkjgjpmmaaDoor
open Go.RowKit Go.Shelf

def z13 : Array Value := #[Value.int IntKind.i64 0, Value.int IntKind.i64 0, Value.int IntKind.i64 0, Value.int IntKind.i64 0, Value.int IntKind.i64 0, Value.int IntKind.i64 0, Value.int IntKind.i64 0, Value.int IntKind.i64 0, Value.int IntKind.i64 0, Value.int IntKind.i64 0, Value.int IntKind.i64 0, Value.int IntKind.i64 0, Value.int IntKind.i64 0]
theorem copy_first (xs ps : List Int) (hl : xs.length = 13) (hp : ps.length ≤ 6) (h0 : 1 ≤ ps.length) (a : Option Addr) (c : Nat) (w : World) (ha : Ints w w.heap.size a ps) :
    ∃ W3, (∀ ty, (Builtin.copy_ #[23, 23] ty #[.slice (some ⟨w.heap.size, 0, none⟩) 6 6, .slice a ps.length c]).run Tryd.prog ((w.alloc (.cells (iv xs) 66)).alloc (.cells z13 66)) = .ok (.int .i64 (ps.length : Int)) W3) ∧
      Nums W3 w.heap.size 66 (ps ++ xs.drop ps.length) ∧ HasBlk W3 (w.heap.size + 1) z13 66 ∧ Below w.heap.size w W3 := by
  have hb2 := below2 w (.cells (iv xs) 66) (.cells z13 66)
  have q0 := alloc2_0 w (.cells (iv xs) 66) (.cells z13 66)
  have q1 := alloc2_1 w (.cells (iv xs) 66) (.cells z13 66)
  obtain ⟨W, hW⟩ : ∃ W, (w.alloc (.cells (iv xs) 66)).alloc (.cells z13 66) = W := ⟨_, rfl⟩
  rw [hW] at hb2 q0 q1 ⊢
  obtain ⟨b, off, rfl, hbb, hcc⟩ := ha.at_ (k := 0) (by omega)
  have hA := (ha.below hb2).add_
  have hr := fun ty => run_copy_row (P := Tryd.prog) W 23 23 ty 3 w.heap.size 0 6 6 ⟨b, off, none⟩ ps.length c (iv xs) 66 (ps.map (Value.int .i64)) Tryd.underlying23 (by
    obtain ⟨i0, hi0, hz0, hz1, hz2⟩ := info_parts Tryd.info3
    simp [hi0, hz1]) q0 (by simp [Nat.min_def]; omega) hA (by rw [iv_size]; simp; omega) (by simp [Value.oneCell'])
  refine ⟨W.setRow w.heap.size (((iv xs).toList.take 0 ++ ps.map (Value.int .i64) ++ (iv xs).toList.drop (0 + (ps.map (Value.int .i64)).length)).toArray), fun ty => (hr ty).trans ?_, ?_, ?_, ?_⟩
  · simp [goInt]
  · have := setRow_heap W w.heap.size (iv xs) (((iv xs).toList.take 0 ++ ps.map (Value.int .i64) ++ (iv xs).toList.drop (0 + (ps.map (Value.int .i64)).length)).toArray) 66 _ q0
    unfold Nums HasBlk
    rw [this]
    simp [iv, List.map_drop]
  · exact (setRow_other W w.heap.size (w.heap.size + 1) _ (by omega)).trans q1
  · exact hb2.grown (row := some w.heap.size) ⟨rfl, rfl, rfl, by simp, fun k _ hk => setRow_other _ _ _ _ (fun e => hk (by rw [e]))⟩ hb2.size (fun j e => by cases e; exact Nat.le_refl _)

end Go.Proofs.YtijpgbkjgjpmmaaDoor
