import Derived.RowKit
import Derived.Laws.CopyRow
import Derived.Lib.SlBuf
import Derived.RangeFuncNested
import Derived.RangeFuncBound
import Derived.RangeFuncCalls
import Derived.RangeFuncLeaves
import Derived.RangeFuncBox
import Derived.RangeFuncWrites
import Derived.Maps.OwnIn
import Derived.Maps.Ext
import Derived.DeepKeys4
import Derived.MapKept
import Derived.Test.YtjclfpcnfmpjdaaDoorRows
import Derived.WalkKit
import Derived.WalkSpells
import Derived.ProofKit
import Derived.OpenShut
import Derived.ShutString
import Derived.ChangeOld
import Derived.Below
import Derived.Deep.RegionHeld3
import Derived.Deep.QuietTactic
import Derived.BigQuiet
import Derived.Lib.Hide
import Derived.Lib.SmallJoins
import Derived.Outline
import Derived.Laws.MakeOwn
import Derived.Laws.OwnMore
import Derived.IntWalk
import Derived.Lib.AppendZeros
import Derived.Maps.AppendAt
import Derived.Deep.AppendLies
import Derived.OwnWalk
import Derived.Lib.SlicesCompact
import Derived.Lib.OwnBridge
import Derived.Shelf.Sort.Plain
import Derived.Shelf.Slices.In.SortNone
import Derived.Shelf.Slices.CompactI
import Derived.Ground.Names2Prog
import Derived.Shelf.Abstract
import Derived.Shelf.RegionOpen
import Derived.OwnWalkIn
import Derived.TacticsInMore
import Derived.LoopNIn
import Derived.LoopIn
import Derived.StillTail
import Derived.StillTactics
import Derived.OrdersIn
import Derived.TacticsIn
import Derived.Shelf.Spec.TrailingZeros
import Derived.StillTailTactics
import Derived.Test.YtjclfpcnfmpjdaaDoorMsa
/- It is proved what a map holds to which all names have been told, list by list; conditions: those of each statement. -/
namespace Go.Proofs.YtjclfpcnfmpjdaaDoor
open Go.RowKit Go.Shelf Go.Maps

theorem wfI_small {x : Int} (h0 : 0 ≤ x) (h1 : x ≤ 1000000) : wfI x := WalkArith.wf_i64 (by omega)
/-- A list that may be a key. -/
def WfK (L : List Int) : Prop := L.length = 8 ∧ ∀ x ∈ L, wfI x

noncomputable def keyLit (L : List Int) : Lit := open Classical in if h : ∃ l, keyOf Tryd.prog 57 (.agg (iv L)) = some l then h.choose else .bool true
theorem keyLit_key {L : List Int} (h : WfK L) : keyOf Tryd.prog 57 (.agg (iv L)) = some (keyLit L) := by
  have hl := key_some h.1 h.2
  unfold keyLit
  rw [dif_pos hl]
  exact hl.choose_spec

theorem keyLit_inj {L M : List Int} (hL : WfK L) (hM : WfK M) (h : keyLit L = keyLit M) : L = M := by
  have e := keyLaw.inj (keyLit_key hL) (by rw [h]; exact keyLit_key hM)
  injection e with e
  exact iv_inj e

theorem keyLit_lit {L : List Int} (h : WfK L) : WideAt.IsKeyLit (keyLit L) := keyLaw.key (keyLit_key h)
def zero13 : List Int := List.replicate 13 0
/-- What is known of the names in L that make the list c. -/
def nmL (zs : List Int) (L : List (List Nat)) (c : List Int) : List Int := (L.filter fun p => keyL zs (nI p) == c).foldl (fun x p => andL x (nI p)) zero13

theorem nmL_same (zs : List Int) (L : List (List Nat)) (p : List Nat) : nmL zs (L ++ [p]) (keyL zs (nI p)) = andL (nmL zs L (keyL zs (nI p))) (nI p) := by
  simp [nmL, List.filter_append]

theorem nmL_other (zs : List Int) (L : List (List Nat)) (p : List Nat) (c : List Int) (h : keyL zs (nI p) ≠ c) : nmL zs (L ++ [p]) c = nmL zs L c := by
  simp [nmL, List.filter_append, h]

/-- What the map reads as. -/
structure TabD (zs : List Int) (D : DataW Unit) (L : List (List Nat)) : Prop where
  at_ : ∀ c, WfK c → D.atKey (keyLit c) (intsD zero13) = intsD (nmL zs L c)
  has_ : ∀ l, Maps.has D l = true ↔ ∃ p ∈ L, l = keyLit (keyL zs (nI p))

theorem tab_nil (zs : List Int) : TabD zs (.map []) [] := ⟨fun c _ => rfl, fun l => by simp [Maps.has]⟩
theorem tab_put {zs : List Int} {D : DataW Unit} {L : List (List Nat)} (h : TabD zs D L) (hm : IsMap D) (hall : ∀ p ∈ L, WfK (keyL zs (nI p))) (p : List Nat) (hp : WfK (keyL zs (nI p))) :
    TabD zs (D.put (keyLit (keyL zs (nI p))) (intsD (andL (nmL zs L (keyL zs (nI p))) (nI p)))) (L ++ [p]) := by
  refine ⟨fun c hc => ?_, fun l => ?_⟩
  · by_cases e : keyL zs (nI p) = c
    · subst e
      rw [atKey_put_same hm (keyLit_lit hp), nmL_same]
    · rw [atKey_put_other (fun h' => e (keyLit_inj hp hc h'.symm)), nmL_other _ _ _ _ e]
      exact h.at_ c hc
  · by_cases e : l = keyLit (keyL zs (nI p))
    · subst e
      rw [has_put_same hm (keyLit_lit hp)]
      exact ⟨fun _ => ⟨p, by simp, rfl⟩, fun _ => rfl⟩
    · rw [has_put_other e, h.has_ l]
      constructor
      · rintro ⟨q, hq, rfl⟩
        exact ⟨q, by simp [hq], rfl⟩
      · rintro ⟨q, hq, rfl⟩
        rcases List.mem_append.1 hq with hq | hq
        · exact ⟨q, hq, rfl⟩
        · simp at hq; subst hq; exact absurd rfl e

/-- A naming's cells, with so many names in it at most. -/
structure NmOk (x : List Int) (n : Nat) : Prop where
  len : x.length = 13
  lo : (0 : Int) ≤ x[6]?.getD 0
  hi : x[6]?.getD 0 ≤ (n : Int)
  cal : ∀ i, 7 ≤ i → i < 13 → ∃ q : Nat, q < 64 ∧ x[i]?.getD 0 = (q : Int)

theorem NmOk.mono {x : List Int} {n k : Nat} (h : NmOk x n) (hk : n ≤ k) : NmOk x k := ⟨h.len, h.lo, by have := h.hi; omega, h.cal⟩
theorem nmOk_zero : NmOk zero13 0 := ⟨rfl, by simp [zero13], by simp [zero13], fun i h1 h2 => ⟨0, by decide, by unfold zero13; rw [List.getElem?_replicate, if_pos h2]; rfl⟩⟩
/-- Names that may be told. -/
def NamesOk (ps : List Int) : Prop := ps.length ≤ 6 ∧ 1 ≤ ps.length ∧ ∀ v, v < ps.length → ∃ q : Nat, q < 6 ∧ ps[v]?.getD 0 = (q : Int)

theorem andC_cal {g ps : List Int} (hg : g.length = 13) (hp : ps.length ≤ 6) (hpv : ∀ v, v < ps.length → ∃ q : Nat, q < 6 ∧ ps[v]?.getD 0 = (q : Int)) (hc : ∀ i, 7 ≤ i → i < 13 → ∃ q : Nat, q < 64 ∧ g[i]?.getD 0 = (q : Int)) :
    ∀ k, k ≤ ps.length → ∀ i, 7 ≤ i → i < 13 → ∃ q : Nat, q < 64 ∧ (andC g ps k)[i]?.getD 0 = (q : Int)
  | 0, _, i, h1, h2 => hc i h1 h2
  | k + 1, hk, i, h1, h2 => by
    rw [andC]
    by_cases e : 7 + k = i
    · subst e
      rw [List.getElem?_set_self (by rw [andC_len, hg]; omega), Option.getD_some]
      obtain ⟨x, hx, hxe⟩ := andC_cal hg hp hpv hc k (by omega) (7 + k) h1 h2
      obtain ⟨q, hq, hqe⟩ := hpv k (by omega)
      rw [hxe, hqe]
      exact ⟨x ||| 2 ^ q, Nat.or_lt_two_pow (n := 6) hx (Nat.pow_lt_pow_right (by decide) hq), by simp [orI]⟩
    · rw [List.getElem?_set_ne e]
      exact andC_cal hg hp hpv hc k (by omega) i h1 h2

theorem andL_six {xs ps : List Int} (hl : xs.length = 13) (hp : ps.length ≤ 6) : (andL xs ps)[6]?.getD 0 = xs[6]?.getD 0 + 1 := by
  rw [andL, andC_far _ _ 6 _ (.inl (by omega)), andM, List.getElem?_set_self (by rw [andF_len (by omega)]; omega)]
  rfl

theorem nmOk_and {x ps : List Int} {n : Nat} (h : NmOk x n) (hp : NamesOk ps) : NmOk (andL x ps) (n + 1) := by
  have hl := h.len
  have h1 := h.lo
  have h2 := h.hi
  have h6 := andL_six hl hp.1
  refine ⟨by rw [andL, andC_len, andM_len (by have := hp.1; omega), hl], by omega, by omega, fun i hi1 hi2 => ?_⟩
  exact andC_cal (by rw [andM_len (by have := hp.1; omega), hl]) hp.1 hp.2.2 (fun i h1 h2 => by rw [andM_far hp.1 i h1]; exact h.cal i h1 h2) _ (Nat.le_refl _) i hi1 hi2

theorem nmOk_fold : ∀ (L : List (List Nat)) (x : List Int) (n : Nat), NmOk x n → (∀ p ∈ L, NamesOk (nI p)) → NmOk (L.foldl (fun x p => andL x (nI p)) x) (n + L.length)
  | [], x, n, h, _ => h
  | p :: L, x, n, h, hp => by
    rw [List.foldl_cons, List.length_cons, show n + (L.length + 1) = (n + 1) + L.length from by omega]
    exact nmOk_fold L _ _ (nmOk_and h (hp p (by simp))) (fun q hq => hp q (by simp [hq]))

theorem nmOk_all (zs : List Int) (L : List (List Nat)) (c : List Int) (h : ∀ p ∈ L, NamesOk (nI p)) : NmOk (nmL zs L c) L.length := by
  have := nmOk_fold (L.filter fun p => keyL zs (nI p) == c) zero13 0 nmOk_zero (fun p hp => h p (List.mem_filter.1 hp).1)
  exact this.mono (by rw [Nat.zero_add]; exact List.length_filter_le _ _)

theorem namesOk_nI {m : Nat} (hm0 : 1 ≤ m) (hm : m ≤ 6) {p : List Nat} (hl : p.length = m) (hv : ∀ v ∈ p, v < m) : NamesOk (nI p) := by
  refine ⟨by rw [nI_len]; omega, by rw [nI_len]; omega, fun v h => ?_⟩
  rw [nI_len] at h
  exact ⟨p[v], by have := hv p[v] (List.getElem_mem h); omega, by simp [nI, h]⟩

theorem okp_nI {m : Nat} (hm : m ≤ 6) {p : List Nat} (hl : p.length = m) (hv : ∀ v ∈ p, v < m) : Okp m (nI p) := by
  refine ⟨by rw [nI_len]; exact hl, fun v h => ?_⟩
  have hv' : v < p.length := by omega
  have := hv p[v] (List.getElem_mem hv')
  simp only [nI, List.getElem?_map, List.getElem?_eq_getElem hv', Option.map_some, Option.getD_some]
  omega

theorem wfK_key {m : Nat} (hm : m ≤ 6) {zs : List Int} (h8 : zs.length ≤ 8) (hz : ∀ z ∈ zs, z.toNat < 2 ^ m) {ps : List Int} (hp : Okp m ps) : WfK (keyL zs ps) := by
  refine ⟨keyL_len _ _ h8, fun x hx => ?_⟩
  unfold keyL at hx
  rcases List.mem_append.1 hx with h | h
  · rw [List.mem_mergeSort, List.mem_map] at h
    obtain ⟨z, hz', rfl⟩ := h
    have : called ps z.toNat < 64 := nm_lt _ _ (fun v hv => by
      have := mem_lt m hm z.toNat (hz z hz') v hv
      have := hp.rng v this
      omega)
    exact wfI_small (by unfold callZ; omega) (by unfold callZ; omega)
  · rw [List.mem_replicate] at h
    rw [h.2]; exact wfI_small (by decide) (by decide)

end Go.Proofs.YtjclfpcnfmpjdaaDoor

/- It is proved what the FamilyDrop of the model returns; conditions: those of each statement. -/
namespace Go.Proofs.YtjclfpcnfmpjdaaDoor
open Go.RowKit

theorem app_run_n {w : World} {B n k : Nat} {v : Value} {xs : List Value} (h : w.ownsRow B 3 1 v n xs) (hB : B ≤ w.heap.size) (a : Option Addr) (c : Nat) (zs : List Int) (hk : zs.length = k) (hz : Ints w w.heap.size a zs) (hn : n ≤ 1048576) (hzn : k ≤ 1048576) :
    ∃ a' c' w', (Builtin.append_ #[23, 23] 23 #[v, .slice a k c]).run Tryd.prog w = .ok (.slice a' (n + k) c') w' ∧
      w'.ownsRow B 3 1 (.slice a' (n + k) c') (n + k) (xs ++ zs.map (Value.int .i64)) ∧ w.grownBy w' v.ownBlock := by
  subst hk
  exact app_run h hB a c zs hz hn hzn

/-- An append whose run is known, as a step of a region that draws. -/
theorem step_run {P : Program} {w : World} {ops : Array Oper} {o : Oper} {a : Act} {K : Act → World → Prop} {Q : Exit → Act → World → Prop} {E : Prop} (hgd : o.guard = none) (s x : Operand) (t tn : TypeId)
    (ho : o.op = .call { callee := .builtin .append, args := #[s, x], argTypes := #[t, tn] }) (vs vx : Value) (hs : a.eval s = vs) (hx : a.eval x = vx)
    (v' : Value) (w' : World) (hr : (Builtin.append_ #[t, tn] o.type #[vs, vx]).run P w = .ok v' w') (h : K (a.put o.dst v') w') :
    if Region.wanted o (yielded ops a.tmps) = true then Oper.wp P o a w K Q else E := by
  rw [if_pos (by simp [Region.wanted, hgd])]
  exact Lib.wp_append_run w s x t tn ho vs vx hs hx v' w' hr h

theorem step_run2 {P : Program} {w : World} {ops : Array Oper} {o : Oper} {a : Act} {K : Act → World → Prop} {Q : Exit → Act → World → Prop} {E : Prop} (hgd : o.guard = none) (s x : Operand) (t tn : TypeId)
    (ho : o.op = .call { callee := .builtin .append, args := #[s, x], argTypes := #[t, tn] }) (vs vx : Value) (hs : a.eval s = vs) (hx : a.eval x = vx)
    (h : ∃ v' w', (Builtin.append_ #[t, tn] o.type #[vs, vx]).run P w = .ok v' w' ∧ K (a.put o.dst v') w') :
    if Region.wanted o (yielded ops a.tmps) = true then Oper.wp P o a w K Q else E := by
  obtain ⟨v', w', hr, hk⟩ := h
  exact step_run hgd s x t tn ho vs vx hs hx v' w' hr hk

end Go.Proofs.YtjclfpcnfmpjdaaDoor

/- It is proved what the FamilyPut of the model returns; conditions: those of each statement. -/
namespace Go.Proofs.YtjclfpcnfmpjdaaDoor
open Go.RowKit

theorem step_run3 {P : Program} {w : World} {ops : Array Oper} {o : Oper} {a : Act} {K : Act → World → Prop} {Q : Exit → Act → World → Prop} {E : Prop} (s x : Operand) (t tn : TypeId) (vs vx : Value) (hgd : o.guard = none)
    (ho : o.op = .call { callee := .builtin .append, args := #[s, x], argTypes := #[t, tn] }) (hs : a.eval s = vs) (hx : a.eval x = vx)
    (h : ∃ v' w', (Builtin.append_ #[t, tn] o.type #[vs, vx]).run P w = .ok v' w' ∧ K (a.put o.dst v') w') :
    if Region.wanted o (yielded ops a.tmps) = true then Oper.wp P o a w K Q else E := step_run2 hgd s x t tn ho vs vx hs hx h

theorem app_run0 {w : World} {B : Nat} {v : Value} (h : OwnI w B v []) (hB : B ≤ w.heap.size) (a : Option Addr) (c : Nat) (zs : List Int) (hz : Ints w w.heap.size a zs) (_hn : 0 ≤ 1048576) (hzn : zs.length ≤ 1048576) :
    ∃ a' c' w', (Builtin.append_ #[23, 23] 23 #[v, .slice a zs.length c]).run Tryd.prog w = .ok (.slice a' zs.length c') w' ∧
      w'.ownsRow B 3 1 (.slice a' zs.length c') zs.length (zs.map (Value.int .i64)) ∧ w.grownBy w' v.ownBlock := by
  have := app_run (n := 0) (xs := []) h hB a c zs hz (by omega) hzn
  simpa using this

theorem one_blk {w : World} {x : Int} {b : Nat} (h : w.heap[b]? = some (.cells #[.int .i64 x] 3 (0, 0))) : Ints w w.heap.size (some ⟨b, 0, none⟩) [x] := by
  refine .inr ⟨b, 0, rfl, lt_of_some h, fun j hj => ?_⟩
  obtain rfl : j = 0 := by simpa using hj
  exact blk_cell h 0

theorem one_ints0 (w : World) (x : Int) : Ints (w.alloc (.cells #[.int .i64 x] 3)) (w.alloc (.cells #[.int .i64 x] 3)).heap.size (some ⟨w.heap.size, 0, none⟩) [x] := one_blk (alloc_new w _)
end Go.Proofs.YtjclfpcnfmpjdaaDoor

/- It is proved what l1Put returns; conditions: the bounds in each statement. -/
namespace Go.Proofs.YtjclfpcnfmpjdaaDoor
open Go.RowKit

theorem app_run0n {w : World} {B k : Nat} {v : Value} (h : OwnI w B v []) (hB : B ≤ w.heap.size) (a : Option Addr) (c : Nat) (zs : List Int) (hk : zs.length = k) (hz : Ints w w.heap.size a zs) (hzn : k ≤ 1048576) :
    ∃ a' c' w', (Builtin.append_ #[23, 23] 23 #[v, .slice a k c]).run Tryd.prog w = .ok (.slice a' k c') w' ∧
      w'.ownsRow B 3 1 (.slice a' k c') k (zs.map (Value.int .i64)) ∧ w.grownBy w' v.ownBlock := by
  subst hk
  exact app_run0 h hB a c zs hz (by omega) hzn

theorem app_run_t {w : World} {B n k t : Nat} {v : Value} {xs : List Value} (h : w.ownsRow B 3 1 v n xs) (hB : B ≤ w.heap.size) (a : Option Addr) (c : Nat) (zs : List Int) (hk : zs.length = k) (hz : Ints w w.heap.size a zs) (ht : n + k = t) (hn : n ≤ 1048576) (hzn : k ≤ 1048576) :
    ∃ a' c' w', (Builtin.append_ #[23, 23] 23 #[v, .slice a k c]).run Tryd.prog w = .ok (.slice a' t c') w' ∧
      w'.ownsRow B 3 1 (.slice a' t c') t (xs ++ zs.map (Value.int .i64)) ∧ w.grownBy w' v.ownBlock := by
  subst ht
  exact app_run_n h hB a c zs hk hz hn hzn

end Go.Proofs.YtjclfpcnfmpjdaaDoor

/- It is proved how rows of ints of the call's own are read and kept; conditions: those of each statement. -/
namespace Go.Proofs.YtjclfpcnfmpjdaaDoor
open Go.RowKit Go.Shelf

theorem ownsRow_below {w w' : World} {B n : Nat} {v : Value} {xs : List Value} (h : w.ownsRow B 3 1 v n xs) (hb : Below w.heap.size w w') : w'.ownsRow B 3 1 v n xs :=
  World.ownsRow.kept h (only_of_below hb none) (by cases v.ownBlock <;> simp)

theorem OwnN.cap_le {w : World} {B : Nat} {a : Option Addr} {n cap : Nat} {zs : List Int} (h : OwnN w B a n cap zs) : n ≤ cap := by
  rcases h.2 with ⟨e, hn⟩ | ⟨g, c, cur, e, hb, hg, hc, _⟩
  · omega
  · injection e with e1 e2 e3
    omega

theorem OwnN.len {w : World} {B : Nat} {a : Option Addr} {n cap : Nat} {zs : List Int} (h : OwnN w B a n cap zs) : zs.length = n := by
  have := h.1; simpa using this

theorem OwnN.ints {w : World} {B : Nat} {a : Option Addr} {n cap : Nat} {zs : List Int} (h : OwnN w B a n cap zs) : Ints w w.heap.size a zs := by
  have hl := h.len
  subst hl
  exact own_ints (n := zs.length) (cap := cap) (B := B) h

theorem OwnN.base {w : World} {B B' : Nat} {a : Option Addr} {n cap : Nat} {zs : List Int} (h : OwnN w B a n cap zs) (hB : B' ≤ B) : OwnN w B' a n cap zs := ownsRow_base h hB
theorem OwnN.below {w w' : World} {B : Nat} {a : Option Addr} {n cap : Nat} {zs : List Int} (h : OwnN w B a n cap zs) (hb : Below w.heap.size w w') : OwnN w' B a n cap zs := ownsRow_below h hb
theorem OwnN.ne {w : World} {B : Nat} {a : Option Addr} {n cap : Nat} {zs : List Int} (h : OwnN w B a n cap zs) {b : Nat} (hb : b < B ∨ w.heap.size ≤ b) : (Value.slice a n cap).ownBlock ≠ some b := by
  intro e
  have := World.ownsRow.lt h b e
  omega

theorem OwnN.cell {w : World} {B g n cap : Nat} {ys : List Int} (h : OwnN w B (some ⟨g, 0, none⟩) n cap ys) {j : Nat} (hj : j < n) : w.cell? ⟨g, j, none⟩ = some (.int .i64 (ys[j]?.getD 0)) := by
  have hl := h.len
  have := World.ownsRow.cellAt h j (by omega)
  rw [this]; simp [show j < ys.length by omega]

theorem OwnN.cellz {w : World} {B g n cap : Nat} {ys : List Int} (h : OwnN w B (some ⟨g, 0, none⟩) n cap ys) {j : Nat} (hj : j < n) : w.cell? ⟨g, j, none⟩ = some (.int .i64 (ys[j]?.getD 0)) := h.cell hj
end Go.Proofs.YtjclfpcnfmpjdaaDoor

/- It is proved what rows of the call's own rows are, and what appending one leaves; conditions: those of each statement. -/
namespace Go.Proofs.YtjclfpcnfmpjdaaDoor
open Go.RowKit Go.Shelf

theorem wp_append_eq {P : Program} (w : World) {o : Oper} {a : Act} {K : Act → World → Prop} {Q : Exit → Act → World → Prop} (s x : Operand) (t t' : TypeId)
    (ho : o.op = .call { callee := .builtin .append, args := #[s, x], argTypes := #[t, t'] }) (v u : Value) (hs : a.eval s = v) (hx : a.eval x = u) {v' : Value} {w' : World}
    (hr : (Builtin.append_ #[t, t'] o.type #[v, u]).run P w = .ok v' w') (h : K (a.put o.dst v') w') : o.wp P a w K Q := by
  unfold Oper.wp execOp
  simp only [ho, resolve, invoke, builtin, Sem.run_bind, Sem.run_pure, Result.andThen_ok, List.map_toArray, List.map_cons, List.map_nil, hs, hx, hr]
  exact h

theorem wpList_append_eq {P : Program} (w : World) {ops : Array Oper} {rest : List Oper} {o : Oper} {a : Act} {Q : Exit → Act → World → Prop} (hg : o.guard = none) (s x : Operand) (t t' : TypeId)
    (ho : o.op = .call { callee := .builtin .append, args := #[s, x], argTypes := #[t, t'] }) (v u : Value) (hs : a.eval s = v) (hx : a.eval x = u) {v' : Value} {w' : World}
    (hr : (Builtin.append_ #[t, t'] o.type #[v, u]).run P w = .ok v' w') (h : wpList P ops Q rest (a.put o.dst v') w') : wpList P ops Q (o :: rest) a w :=
  wpList_plain hg fun _ hK => wp_append_eq w s x t t' ho v u hs hx hr (hK _ _ h)

theorem Tryd.infoRow : (Tryd.prog.info? 23).map (fun i => (i.zero, i.size, i.bytes)) = some (some (.slice none 0 0), 1, 24) := by kernel_rfl
/-- A list of the call's own. -/
def Inner (W : World) (B : Nat) (v : Value) (zs : List Int) : Prop := ∃ a c, v = .slice a zs.length c ∧ OwnN W B a zs.length c zs

/-- A list of lists, all of the call's own. -/
def Rws (W : World) (B : Nat) (v : Value) (L : List (List Int)) : Prop :=
  ∃ vals : List Value, W.ownsRow B 23 1 v L.length vals ∧ ∀ i, i < L.length → Inner W B (vals[i]?.getD undef) (L[i]?.getD [])

theorem type_ne {W : World} {B B' k k' : Nat} {e e' : TypeId} {v v' : Value} {xs xs' : List Value} (h : W.ownsRow B e 1 v k xs) (h' : W.ownsRow B' e' 1 v' k' xs') (he : e ≠ e') : v.ownBlock = none ∨ v.ownBlock ≠ v'.ownBlock := by
  rcases h.2 with ⟨rfl, _⟩ | ⟨g, cap, cur, rfl, _, hg, _⟩
  · exact .inl rfl
  · right
    rcases h'.2 with ⟨rfl, _⟩ | ⟨g', cap', cur', rfl, _, hg', _⟩
    · simp [Value.ownBlock]
    · simp only [Value.ownBlock]
      intro e2
      injection e2 with e2
      subst e2
      rw [hg] at hg'
      injection hg' with hg'
      injection hg' with _ h3 _
      exact he h3

theorem Inner.kept {W W' : World} {B : Nat} {v : Value} {zs : List Int} {row : Option Nat} (h : Inner W B v zs) (hg : W.grownBy W' row) (hr : v.ownBlock = none ∨ v.ownBlock ≠ row) : Inner W' B v zs := by
  obtain ⟨a, c, rfl, ho⟩ := h
  exact ⟨a, c, rfl, ho.kept hg hr⟩

theorem Rws.alloc {W : World} {B : Nat} {v : Value} {L : List (List Int)} (h : Rws W B v L) (o : Obj) : Rws (W.alloc o) B v L := by
  obtain ⟨vals, h1, h2⟩ := h
  exact ⟨vals, h1.alloc o, fun i hi => (h2 i hi).kept (World.grownBy_alloc W o none) (by cases (vals[i]?.getD undef).ownBlock <;> simp)⟩

theorem Rws.below {W W' : World} {B : Nat} {v : Value} {L : List (List Int)} (h : Rws W B v L) (hb : Below W.heap.size W W') : Rws W' B v L := by
  obtain ⟨vals, h1, h2⟩ := h
  have hg : W.grownBy W' none := only_of_below hb none
  exact ⟨vals, h1.kept hg (by cases v.ownBlock <;> simp), fun i hi => (h2 i hi).kept hg (by cases (vals[i]?.getD undef).ownBlock <;> simp)⟩

theorem Rws.base {W : World} {B B' : Nat} {v : Value} {L : List (List Int)} (h : Rws W B v L) (hB : B' ≤ B) : Rws W B' v L := by
  obtain ⟨vals, h1, h2⟩ := h
  exact ⟨vals, ownsRow_base h1 hB, fun i hi => by obtain ⟨a, c, e, ho⟩ := h2 i hi; exact ⟨a, c, e, ho.base hB⟩⟩

theorem Rws.form {W : World} {B : Nat} {v : Value} {L : List (List Int)} (h : Rws W B v L) : ∃ a c, v = .slice a L.length c := by
  obtain ⟨vals, h1, h2⟩ := h
  rcases h1.2 with ⟨rfl, e⟩ | ⟨g, cap, cur, rfl, _⟩
  · exact ⟨none, 0, by rw [e]⟩
  · exact ⟨_, _, rfl⟩

/-- One of the lists. -/
theorem Rws.at_ {W : World} {B : Nat} {a : Option Addr} {n c : Nat} {L : List (List Int)} (h : Rws W B (.slice a n c) L) {i : Nat} (hi : i < L.length) :
    ∃ g a' c', a = some ⟨g, 0, none⟩ ∧ W.cell? ⟨g, i, none⟩ = some (.slice a' (L[i]?.getD []).length c') ∧ OwnN W B a' (L[i]?.getD []).length c' (L[i]?.getD []) := by
  obtain ⟨vals, h1, h2⟩ := h
  obtain ⟨a', c', e, ho⟩ := h2 i hi
  have hl : i < vals.length := by have := h1.1; omega
  rcases h1.2 with ⟨_, e0⟩ | ⟨g, cap, cur, e1, hb, hg, hnc, _, hs, ht⟩
  · omega
  · injection e1 with e1 e2 e3
    refine ⟨g, a', c', e1, ?_, ho⟩
    rw [blk_cell hg i, ← e]
    have : cur.toList[i]? = vals[i]? := by rw [← ht, List.getElem?_take, if_pos (by omega)]
    rw [← Array.getElem?_toList, this, List.getElem?_eq_getElem hl]
    rfl

theorem rws_nil (W : World) (B : Nat) {g : Nat} (hg : W.heap[g]? = some (.cells #[] 23 (0, 0))) (hB : B ≤ g) : Rws W B (.slice (some ⟨g, 0, none⟩) 0 0) [] :=
  ⟨[], ⟨by simp, .inr ⟨g, 0, #[], rfl, hB, hg, Nat.le_refl _, by simp [maxLen], by simp, by simp⟩⟩, fun i hi => by simp at hi⟩

/-- A list, and a number behind it, put behind a list of lists. -/
theorem ext_row {W : World} {B : Nat} {v : Value} {L : List (List Int)} (hR : Rws W B v L) (hBW : B ≤ W.heap.size) (hL : L.length ≤ 100000) (a1 : Option Addr) (c1 k : Nat) (l : List Int) (hl : l.length = k) (hk : k ≤ 100) (h1 : Ints W W.heap.size a1 l) (x : Int) :
    ∃ a3 c3 w3 a4 c4 w4 a5 c5 w5, ((Builtin.append_ #[23, 23] 23 #[.slice (some ⟨W.heap.size, 0, none⟩) 0 0, .slice a1 k c1]).run Tryd.prog (W.alloc (.cells #[] 3)) = .ok (.slice a3 k c3) w3) ∧
      ((Builtin.append_ #[23, 23] 23 #[.slice a3 k c3, .slice (some ⟨w3.heap.size, 0, none⟩) 1 1]).run Tryd.prog (w3.alloc (.cells #[.int .i64 x] 3)) = .ok (.slice a4 (k + 1) c4) w4) ∧
      ((Builtin.append_ #[82, 82] 82 #[v, .slice (some ⟨w4.heap.size, 0, none⟩) 1 1]).run Tryd.prog (w4.alloc (.cells #[.slice a4 (k + 1) c4] 23)) = .ok (.slice a5 (L.length + 1) c5) w5) ∧
      Rws w5 B (.slice a5 (L.length + 1) c5) (L ++ [l ++ [x]]) ∧ Below B W w5 := by
  obtain ⟨i0, hi0, hz0, hz1, hz2⟩ := info_parts Tryd.infoRow
  have hE : OwnI (W.alloc (.cells #[] 3)) W.heap.size (.slice (some ⟨W.heap.size, 0, none⟩) 0 0) [] := own_empty (alloc_new W _) (Nat.le_refl _)
  have hB0 : Below W.heap.size W (W.alloc (.cells #[] 3)) := below1 W (.cells #[] 3)
  obtain ⟨a3, c3, w3, hr3, ho3, hg3⟩ := app_run0n (k := k) hE hB0.size a1 c1 l hl ((h1.below hB0).mono hB0.size) (by omega)
  have hb3 : Below W.heap.size W w3 := hB0.grown hg3 hB0.size (fun g e => (World.ownsRow.lt hE g e).1)
  have hX : Ints (w3.alloc (.cells #[.int .i64 x] 3)) (w3.alloc (.cells #[.int .i64 x] 3)).heap.size (some ⟨w3.heap.size, 0, none⟩) [x] := one_ints0 w3 x
  have ho3' := ho3.alloc (.cells #[.int .i64 x] 3)
  have hb3' : Below W.heap.size W (w3.alloc (.cells #[.int .i64 x] 3)) := hb3.alloc hb3.size _
  obtain ⟨a4, c4, w4, hr4, ho4, hg4⟩ := app_run_t (t := k + 1) (k := 1) ho3' hb3'.size (some ⟨w3.heap.size, 0, none⟩) 1 [x] rfl hX (by omega) (by omega) (by omega)
  have hb4 : Below W.heap.size W w4 := hb3'.grown hg4 hb3'.size (fun g e => (World.ownsRow.lt ho3' g e).1)
  have hb5 : Below W.heap.size W (w4.alloc (.cells #[.slice a4 (k + 1) c4] 23)) := hb4.alloc hb4.size _
  obtain ⟨vals, hv1, hv2⟩ := hR.below hb5
  have ho5 := ho4.alloc (.cells #[.slice a4 (k + 1) c4] 23)
  have hnb := alloc_new w4 (.cells #[.slice a4 (k + 1) c4] 23)
  obtain ⟨v', w5, hr5, h2, h3, _⟩ := run_append_own (P := Tryd.prog) (w4.alloc (.cells #[.slice a4 (k + 1) c4] 23)) B 82 82 23 i0 (.slice none 0 0) 1 24 Tryd.underlying82 hi0 hz0 hz1 hz2 rfl (by decide) v L.length vals hv1 ⟨w4.heap.size, 0, none⟩ 1 1 [.slice a4 (k + 1) c4] (by simp)
    (fun j u hu => by
      have hj : j = 0 := by have := (List.getElem?_eq_some_iff.1 hu).1; simpa using this
      subst hj
      simp at hu
      subst hu
      exact blk_cell hnb 0) (by simp [Value.oneCell']) (by simp only [maxLen]; omega) (by omega) (Nat.le_trans hBW hb5.size)
  obtain ⟨a5, c5, rfl⟩ : ∃ a5 c5, v' = .slice a5 (L.length + 1) c5 := by
    rcases h2.2 with ⟨rfl, e⟩ | ⟨g, cap, cur, rfl, _⟩
    · omega
    · exact ⟨_, _, rfl⟩
  refine ⟨a3, c3, w3, a4, c4, w4, a5, c5, w5, hr3, hr4, hr5, ⟨vals ++ [.slice a4 (k + 1) c4], by rw [List.length_append]; exact h2, fun i hi => ?_⟩, ?_⟩
  · have hvl : vals.length = L.length := by have := hv1.1; omega
    rw [List.length_append] at hi
    by_cases hil : i < L.length
    · rw [List.getElem?_append_left (by omega), List.getElem?_append_left hil]
      obtain ⟨a', c', e, ho⟩ := hv2 i hil
      exact ⟨a', c', e, ho.kept h3 (type_ne ho hv1 (by decide))⟩
    · have hie : i = L.length := by simp at hi; omega
      subst hie
      rw [List.getElem?_append_right (by omega), List.getElem?_append_right (by omega), hvl, Nat.sub_self]
      refine ⟨a4, c4, by simp [hl], ?_⟩
      have h6 := ho5.kept h3 (type_ne ho5 hv1 (by decide))
      simp only [List.getElem?_cons_zero, Option.getD_some, List.length_append, hl, List.length_singleton]
      have h7 : OwnN w5 W.heap.size a4 (k + 1) c4 (l ++ [x]) := by unfold OwnN; rw [List.map_append]; exact h6
      exact h7.base hBW
  · exact (hb5.mono hBW).grown h3 (Nat.le_trans hBW hb5.size) (fun g e => (World.ownsRow.lt hv1 g e).1)

end Go.Proofs.YtjclfpcnfmpjdaaDoor

/- It is proved that l2Perms lists all names in order; conditions: those of each statement. -/
namespace Go.Proofs.YtjclfpcnfmpjdaaDoor
open Go.RowKit Go.Shelf

def stepL (n : Nat) (l : List Nat) (v : Nat) : List (List Nat) := ((List.range v).filter fun u => !l.contains u).map fun u => l ++ [u]
theorem stepL_all (n : Nat) (L : List (List Nat)) : L.flatMap (fun l => stepL n l n) = nextL n L := rfl
theorem stepL_len (n : Nat) (l : List Nat) (v : Nat) : (stepL n l v).length ≤ v := by
  unfold stepL; rw [List.length_map]; exact Nat.le_trans (List.length_filter_le _ _) (by simp)

theorem stepL_in {n : Nat} {l : List Nat} {v : Nat} (h : l.contains v = true) : stepL n l (v + 1) = stepL n l v := by
  simp [stepL, List.range_succ, List.filter_append, h]
  simpa using h

theorem stepL_out {n : Nat} {l : List Nat} {v : Nat} (h : l.contains v = false) : stepL n l (v + 1) = stepL n l v ++ [l ++ [v]] := by
  have h' : v ∉ l := by simpa using h
  simp [stepL, List.range_succ, List.filter_append, h']

set_option maxRecDepth 100000 in
set_option maxHeartbeats 8000000 in
theorem perms_any (n : Nat) (hn : n ≤ 6) (w : World) :
    Calls Tryd.prog 83 #[.int .i64 (n : Int)] w fun e w' => ∃ v, e = .returned v ∧ Rws w' w.heap.size v ((lvlL n n).map nI) ∧ Below w.heap.size w w' := by
  have hb2 := below2 w (.cells #[] 3) (.cells #[.slice (some ⟨w.heap.size, 0, none⟩) 0 0] 23)
  have q0 := alloc2_0 w (.cells #[] 3) (.cells #[.slice (some ⟨w.heap.size, 0, none⟩) 0 0] 23)
  have q1 := alloc2_1 w (.cells #[] 3) (.cells #[.slice (some ⟨w.heap.size, 0, none⟩) 0 0] 23)
  have hR0 : Rws ((w.alloc (.cells #[] 3)).alloc (.cells #[.slice (some ⟨w.heap.size, 0, none⟩) 0 0] 23)) w.heap.size (.slice (some ⟨w.heap.size + 1, 0, none⟩) 1 1) ((lvlL n 0).map nI) :=
    ⟨[.slice (some ⟨w.heap.size, 0, none⟩) 0 0], ⟨by simp [lvlL], .inr ⟨w.heap.size + 1, 1, _, rfl, by omega, q1, Nat.le_refl _, by simp [maxLen], by simp, by simp [lvlL]⟩⟩, fun i hi => by
      have hi0 : i = 0 := by simpa [lvlL] using hi
      subst hi0
      exact ⟨some ⟨w.heap.size, 0, none⟩, 0, rfl, own_empty q0 (Nat.le_refl _)⟩⟩
  have HR0 := Lib.hid hR0
  have HB0 := Lib.hid hb2
  clear hb2 q0 q1 hR0
  go_enter Tryd.func83, Tryd.ntmps83
  go_wp2
  go_loopw [3, 4] (fun o i wr => ∃ (k : Nat) (v : Value), k ≤ n ∧ i = .int .i64 (k : Int) ∧ o = v ∧ Rws wr w.heap.size v ((lvlL n k).map nI) ∧ Below w.heap.size w wr) (fun _ i _ => n - (intOf i).toNat)
  case atStart => exact ⟨0, _, Nat.zero_le _, rfl, rfl, HR0.out, HB0.out⟩
  case round =>
    obtain ⟨i, ov, hi, rfl, rfl, hR, hB⟩ := hrel
    by_cases hlt : i < n
    · obtain ⟨wo, hwo⟩ : ∃ wo, wo = wr := ⟨wr, rfl⟩
      subst hwo
      obtain ⟨oa, oc, rfl⟩ := hR.form
      obtain ⟨N, hN⟩ : ∃ N, N = (lvlL n i).length := ⟨_, rfl⟩
      have hNs : N ≤ 7776 := by
        rw [hN]
        exact Nat.le_trans (lvlL_len n i) (Nat.le_trans (Nat.pow_le_pow_left hn i) (Nat.le_trans (Nat.pow_le_pow_right (by decide) (by omega : i ≤ 5)) (by decide)))
      have HN := Lib.hid hN
      have HR := Lib.hid hR
      have HB := Lib.hid hB
      have HN0 : Hid (Rws (wo.alloc (.cells #[] 23)) wo.heap.size (.slice (some ⟨wo.heap.size, 0, none⟩) 0 0) ((((lvlL n i).take 0).flatMap fun l => stepL n l n).map nI)) := Lib.hid (rws_nil _ _ (alloc_new wo _) (Nat.le_refl _))
      have HNB := Lib.hid (below1 wo (.cells #[] 23))
      rw [List.length_map, ← hN]
      clear hN hR hB
      go_wp2
      go_loopw [5, 6] (fun nx kk wr => ∃ (k : Nat) (nv : Value), k ≤ N ∧ kk = .int .i64 (k : Int) ∧ nv = nx ∧ Rws wr wo.heap.size nv ((((lvlL n i).take k).flatMap fun l => stepL n l n).map nI) ∧ Below wo.heap.size wo wr) (fun _ kk _ => N - (intOf kk).toNat)
      case atStart => exact ⟨0, _, Nat.zero_le _, rfl, rfl, HN0.out, HNB.out⟩
      case round =>
        obtain ⟨k, nv, hk, rfl, rfl, hNx, hB2⟩ := hrel
        by_cases hkl : k < N
        · obtain ⟨w2, hw2⟩ : ∃ w2, w2 = wr := ⟨wr, rfl⟩
          subst hw2
          have hkl' : k < (lvlL n i).length := by have := HN.out; omega
          obtain ⟨l, hl⟩ : ∃ l, l = (lvlL n i)[k] := ⟨_, rfl⟩
          have hll : l.length = i := lvlL_in (by rw [hl]; exact List.getElem_mem hkl')
          have HTK : Hid ((lvlL n i).take (k + 1) = (lvlL n i).take k ++ [l]) := Lib.hid (by rw [hl]; exact List.take_succ_eq_append_getElem hkl')
          have HPL : Hid ((((lvlL n i).take k).flatMap fun l => stepL n l n).length ≤ k * 6) := Lib.hid (by
            refine Nat.le_trans (flat_len _ 6 _ (fun l _ => Nat.le_trans (stepL_len n l n) hn)) (Nat.mul_le_mul_right _ ?_)
            rw [List.length_take]; omega)
          have HNX : Hid (Rws w2 wo.heap.size nv (((((lvlL n i).take k).flatMap fun l => stepL n l n) ++ stepL n l 0).map nI)) := Lib.hid (by simpa [stepL] using hNx)
          have HB2 := Lib.hid hB2
          have HRW : Hid (∀ wz, Below wo.heap.size wo wz → ∃ g a' c', oa = some ⟨g, 0, none⟩ ∧ wz.cell? ⟨g, k, none⟩ = some (.slice a' i c') ∧ OwnN wz w.heap.size a' i c' (nI l)) := Lib.hid (fun wz hz => by
            obtain ⟨g, a', c', e, hc, ho⟩ := (HR.out.below hz).at_ (i := k) (by rw [List.length_map]; exact hkl')
            have e2 : ((lvlL n i).map nI)[k]?.getD [] = nI l := by rw [List.getElem?_map, List.getElem?_eq_getElem hkl', ← hl]; rfl
            rw [e2, nI_len, hll] at hc ho
            exact ⟨g, a', c', e, hc, ho⟩)
          have hkN : (k : Int) < (N : Int) := by omega
          have HLL := Lib.hid hll
          clear hl hll hNx hB2 hkl'
          go_wp2
          go_loopw [5, 7] (fun nx vv wr => ∃ (v : Nat) (nv : Value), v ≤ n ∧ vv = .int .i64 (v : Int) ∧ nv = nx ∧ Rws wr wo.heap.size nv (((((lvlL n i).take k).flatMap fun l => stepL n l n) ++ stepL n l v).map nI) ∧ Below wo.heap.size wo wr) (fun _ vv _ => n - (intOf vv).toNat)
          case atStart => exact ⟨0, nv, Nat.zero_le _, rfl, rfl, HNX.out, HB2.out⟩
          case round =>
            obtain ⟨v, nv, hv, rfl, rfl, hNx, hB3⟩ := hrel
            by_cases hvn : v < n
            · obtain ⟨w3, hw3⟩ : ∃ w3, w3 = wr := ⟨wr, rfl⟩
              subst hw3
              obtain ⟨g, a', c', rfl, hcr, hor⟩ := HRW.out w3 hB3
              have HNX := Lib.hid hNx
              have HB3 := Lib.hid hB3
              have HOR := Lib.hid hor
              have hk0 : (0 : Int) ≤ (k : Int) := by omega
              clear hNx hB3 hor
              go_wp2
              go_loop [8, 9] (fun b j => ∃ jj : Nat, jj ≤ i ∧ j = .int .i64 (jj : Int) ∧ b = .bool ((l.take jj).contains v)) (fun _ j => i - (intOf j).toNat)
              case atStart => exact ⟨0, Nat.zero_le _, rfl, by simp⟩
              case round =>
                obtain ⟨j, hj, rfl, rfl⟩ := hrel
                by_cases hji : j < i
                · obtain ⟨b1, rfl, -, -⟩ := HOR.out.addr (by omega)
                  have hjl : j < l.length := by have := HLL.out; omega
                  have c1 := HOR.out.cell (j := j) hji
                  obtain ⟨u, hu⟩ : ∃ u, u = l[j] := ⟨_, rfl⟩
                  rw [show (nI l)[j]?.getD 0 = (u : Int) from by simp [nI, hjl, hu]] at c1
                  have HT : Hid ((l.take (j + 1)).contains v = ((l.take j).contains v || decide (u = v))) := Lib.hid (by
                    rw [List.take_succ_eq_append_getElem hjl, ← hu, Bool.eq_iff_iff, Bool.or_eq_true, decide_eq_true_eq, List.contains_iff_mem, List.contains_iff_mem, List.mem_append, List.mem_singleton]
                    exact or_congr Iff.rfl eq_comm)
                  have hjI : (j : Int) < (i : Int) := by omega
                  have hj0 : (0 : Int) ≤ (j : Int) := by omega
                  obtain ⟨cb, hcb⟩ : ∃ cb, cb = (l.take j).contains v := ⟨_, rfl⟩
                  rw [← hcb]
                  rw [← hcb] at HT
                  clear hcb hu
                  cases cb
                  · by_cases huv : u = v
                    · subst huv
                      go_wp2
                      go_round
                      case rel => exact ⟨j + 1, by omega, by go_num, by rw [HT.out]; simp⟩
                      case measure => simp [intOf]; omega
                    · have hne : ((u : Int) == (v : Int)) = false := by simp; omega
                      go_wp2
                      go_round
                      case rel => exact ⟨j + 1, by omega, by go_num, by rw [HT.out]; simp [huv]⟩
                      case measure => simp [intOf]; omega
                  · go_wp2
                    go_round
                    case rel => exact ⟨j + 1, by omega, by go_num, by rw [HT.out]; rfl⟩
                    case measure => simp [intOf]; omega
                · obtain rfl : j = i := by omega
                  rw [List.take_of_length_le (by rw [HLL.out]; exact Nat.le_refl _)]
                  obtain ⟨cb, hcb⟩ : ∃ cb, cb = l.contains v := ⟨_, rfl⟩
                  rw [← hcb]
                  have HCB := Lib.hid hcb
                  clear hcb
                  cases cb
                  · have hPl : (((((lvlL n j).take k).flatMap fun l => stepL n l n) ++ stepL n l v).map nI).length ≤ 100000 := by
                      rw [List.length_map, List.length_append]
                      have h1 := HPL.out
                      have h2 := stepL_len n l v
                      omega
                    obtain ⟨a3, c3, w3a, a4, c4, w4, a5, c5, w5, hr3, hr4, hr5, hRf, hBf⟩ := ext_row HNX.out HB3.out.size hPl a' c' j (nI l) (by rw [nI_len, HLL.out]) (by omega) (show Ints w3 w3.heap.size a' (nI l) from own_ints (show OwnI w3 w.heap.size (.slice a' (nI l).length c') (nI l) from by rw [nI_len, HLL.out]; unfold OwnI; rw [nI_len, HLL.out]; exact HOR.out)) (v : Int)
                    have HFIN : Hid (Rws w5 wo.heap.size (.slice a5 ((((((lvlL n j).take k).flatMap fun l => stepL n l n) ++ stepL n l v).map nI).length + 1) c5) (((((lvlL n j).take k).flatMap fun l => stepL n l n) ++ stepL n l (v + 1)).map nI)) := Lib.hid (by
                      rw [stepL_out HCB.out.symm, ← List.append_assoc, List.map_append (l₂ := [l ++ [v]]), show [l ++ [v]].map nI = [nI l ++ [(v : Int)]] from by simp [nI_snoc]]
                      exact hRf)
                    have HBF := Lib.hid hBf
                    obtain ⟨T, hT⟩ : ∃ T, T = (((((lvlL n j).take k).flatMap fun l => stepL n l n) ++ stepL n l v).map nI).length + 1 := ⟨_, rfl⟩
                    rw [← hT] at hr5 HFIN
                    have hcr2 := (World.cell?_alloc_lt w3 (.cells #[] 3) ⟨g, k, none⟩ (lt_of_cell hcr)).trans hcr
                    clear hRf hBf hPl hT
                    go_wp2_with (at_builtin; first | refine wpList_append_eq _ rfl _ _ 23 23 rfl _ _ rfl rfl hr3 ?_ | refine wpList_append_eq _ rfl _ _ 23 23 rfl _ _ rfl rfl hr4 ?_ | refine wpList_append_eq _ rfl _ _ 82 82 rfl _ _ rfl rfl hr5 ?_)
                    go_roundw
                    case rel => exact ⟨v + 1, _, by omega, by go_num, rfl, HFIN.out, HB3.out.trans HBF.out⟩
                    case measure => simp [intOf]; omega
                  · go_wp2
                    go_roundw
                    case rel => exact ⟨v + 1, nv, by omega, by go_num, rfl, by rw [stepL_in HCB.out.symm]; exact HNX.out, HB3.out⟩
                    case measure => simp [intOf]; omega
            · obtain rfl : v = n := by omega
              go_wp2
              go_roundw
              case rel => exact ⟨k + 1, nv, by omega, by go_num, rfl, by rw [HTK.out, List.flatMap_append]; simpa using hNx, hB3⟩
              case measure => simp [intOf]; omega
        · obtain rfl : k = N := by omega
          rw [List.take_of_length_le (by rw [← HN.out]; exact Nat.le_refl _), stepL_all] at hNx
          go_wp2
          go_roundw
          case rel => exact ⟨i + 1, nv, by omega, by go_num, rfl, hNx.base HB.out.size, HB.out.trans (hB2.mono HB.out.size)⟩
          case measure => simp [intOf]; omega
    · obtain rfl : i = n := by omega
      go_wp2
      go_ret
      exact ⟨_, rfl, hR, hB⟩

end Go.Proofs.YtjclfpcnfmpjdaaDoor

/- It is proved what l2Sorted returns; conditions: those of each statement. -/
namespace Go.Proofs.YtjclfpcnfmpjdaaDoor
open Go.RowKit Go.Shelf

/-- A list with y put in at place k. -/
def holeL (R : List Int) (k : Nat) (y : Int) : List Int := R.take k ++ y :: R.drop k

theorem hole_len (R : List Int) (k : Nat) (y : Int) : (holeL R k y).length = R.length + 1 := by simp [holeL]; omega
theorem hole_set (R : List Int) (k : Nat) (y z : Int) (hk : k ≤ R.length) : (holeL R k y).set k z = holeL R k z := by
  unfold holeL
  have hl : (R.take k).length = k := by rw [List.length_take]; omega
  rw [List.set_append_right _ _ (by omega), hl, Nat.sub_self, List.set_cons_zero]

theorem hole_step (R : List Int) (k : Nat) (y : Int) (hk : k + 1 ≤ R.length) : (holeL R (k + 1) y).set (k + 1) (R[k]?.getD 0) = holeL R k (R[k]?.getD 0) := by
  rw [hole_set _ _ _ _ hk]
  unfold holeL
  rw [List.take_succ_eq_append_getElem (by omega), List.append_assoc, List.drop_eq_getElem_cons (i := k) (by omega)]
  simp [show k < R.length by omega]

theorem hole_low (R : List Int) (k : Nat) (y : Int) (j : Nat) (hj : j < k) (hk : k ≤ R.length) : (holeL R k y)[j]?.getD 0 = R[j]?.getD 0 := by
  unfold holeL
  rw [List.getElem?_append_left (by rw [List.length_take]; omega), List.getElem?_take, if_pos hj]

theorem hole_perm (R : List Int) (k : Nat) (y : Int) : (holeL R k y).Perm (y :: R) := by
  unfold holeL
  have h := List.perm_middle (a := y) (l₁ := R.take k) (l₂ := R.drop k)
  rwa [List.take_append_drop] at h

theorem hole_of (Z : List Int) (i : Nat) (hi : i < Z.length) : Z = holeL (Z.take i ++ Z.drop (i + 1)) i (Z[i]?.getD 0) := by
  have hl : (Z.take i).length = i := by rw [List.length_take]; omega
  unfold holeL
  rw [List.take_left' hl, List.drop_left' hl]
  simp only [hi, List.getElem?_eq_getElem, Option.getD_some]
  rw [← List.drop_eq_getElem_cons hi, List.take_append_drop]

def SrtZ (Z : List Int) : Prop := Z.Pairwise (· ≤ ·)
theorem hole_sorted {R : List Int} {x : Int} {i k : Nat} (hk : k ≤ i) (hi : i ≤ R.length) (hS : SrtZ (R.take i)) (h1 : ∀ j, k ≤ j → j < i → x < R[j]?.getD 0) (h2 : k = 0 ∨ R[k - 1]?.getD 0 ≤ x) : SrtZ ((holeL R k x).take (i + 1)) := by
  have e1 : (holeL R k x).take (i + 1) = R.take k ++ x :: (R.drop k).take (i - k) := by
    unfold holeL
    have hl : (R.take k).length = k := by rw [List.length_take]; omega
    rw [List.take_append, hl, List.take_of_length_le (by omega), show i + 1 - k = (i - k) + 1 from by omega, List.take_succ_cons]
  have e2 : R.take i = R.take k ++ (R.drop k).take (i - k) := by
    have h := List.take_append_drop k (R.take i)
    rw [List.take_take, Nat.min_eq_left hk, List.drop_take] at h
    exact h.symm
  unfold SrtZ at hS ⊢
  rw [e1]
  rw [e2] at hS
  obtain ⟨hA, hB, hAB⟩ := List.pairwise_append.1 hS
  have hxB : ∀ b ∈ (R.drop k).take (i - k), x ≤ b := by
    intro b hb
    obtain ⟨j, hj, rfl⟩ := List.getElem_of_mem hb
    rw [List.length_take, List.length_drop] at hj
    have := h1 (k + j) (by omega) (by omega)
    rw [List.getElem_take, List.getElem_drop]
    rw [List.getElem?_eq_getElem (by omega), Option.getD_some] at this
    omega
  have hAx : ∀ a ∈ R.take k, a ≤ x := by
    rcases h2 with rfl | h2
    · simp
    · intro a ha
      obtain ⟨j, hj, rfl⟩ := List.getElem_of_mem ha
      have hjk : j < k := by rw [List.length_take] at hj; omega
      rw [List.getElem?_eq_getElem (by omega), Option.getD_some] at h2
      rw [List.getElem_take]
      rcases Nat.lt_or_ge j (k - 1) with h | h
      · have := (List.pairwise_iff_getElem.1 hA) j (k - 1) hj (by rw [List.length_take]; omega) h
        rw [List.getElem_take, List.getElem_take] at this
        omega
      · have hjj : j = k - 1 := by omega
        subst hjj
        exact h2
  refine List.pairwise_append.2 ⟨hA, List.pairwise_cons.2 ⟨hxB, hB⟩, ?_⟩
  intro a ha b hb
  rcases List.mem_cons.1 hb with rfl | hb
  · exact hAx a ha
  · exact hAB a ha b hb

theorem sorted_eq {Z zs : List Int} (hS : SrtZ Z) (hP : Z.Perm zs) : Z = zs.mergeSort leZ := by
  have h2 : (zs.mergeSort leZ).Pairwise (· ≤ ·) := by
    have := List.pairwise_mergeSort (le := leZ) (by intro a b c h1 h2; simp [leZ] at h1 h2 ⊢; omega) (by intro a b; simp [leZ]; omega) zs
    exact this.imp (by intro a b h; simpa [leZ] using h)
  exact List.Perm.eq_of_pairwise (le := (· ≤ ·)) (fun a b _ _ h h' => Int.le_antisymm h h') hS h2 (hP.trans (List.mergeSort_perm zs leZ).symm)

set_option maxRecDepth 100000 in
set_option maxHeartbeats 4000000 in
theorem l2Sorted_any (a : Option Addr) (c : Nat) (zs : List Int) (w : World) (ha : Ints w w.heap.size a zs) (hx : zs.length ≤ 1048576) :
    Calls Tryd.prog 84 #[.slice a zs.length c] w fun e w' => ∃ a' c', e = .returned (.slice a' zs.length c') ∧ OwnN w' w.heap.size a' zs.length c' (zs.mergeSort leZ) ∧ Below w.heap.size w w' := by
  obtain ⟨n, hn⟩ : ∃ n, n = zs.length := ⟨_, rfl⟩
  have HN := Lib.hid hn
  have hE : OwnI (w.alloc (.cells #[] 3)) w.heap.size (.slice (some ⟨w.heap.size, 0, none⟩) 0 0) [] := own_empty (alloc_new w _) (Nat.le_refl _)
  have hB0 : Below w.heap.size w (w.alloc (.cells #[] 3)) := below1 w (.cells #[] 3)
  obtain ⟨a3, c3, w3, hr3, ho3, hg3⟩ := app_run0n (k := n) hE hB0.size a c zs hn.symm ((ha.below hB0).mono hB0.size) (by omega)
  have hb3 : Below w.heap.size w w3 := hB0.grown hg3 hB0.size (fun g e => (World.ownsRow.lt hE g e).1)
  have HO := Lib.hid (show OwnN w3 w.heap.size a3 n c3 zs from ho3)
  have HB := Lib.hid hb3
  rw [← hn]
  rw [← hn] at hx
  clear ha hE hB0 ho3 hg3 hb3 hn
  go_enter Tryd.func84, Tryd.ntmps84
  go_wp2_with (at_builtin; refine wpList_append_eq _ rfl _ _ 23 23 rfl _ _ rfl rfl hr3 ?_)
  go_loopw [4] (fun i wr => ∃ (k : Nat) (Z : List Int), 1 ≤ k ∧ k ≤ n + 1 ∧ i = .int .i64 (k : Int) ∧ OwnN wr w.heap.size a3 n c3 Z ∧ Z.Perm zs ∧ SrtZ (Z.take k) ∧ Below w.heap.size w wr) (fun i _ => n + 1 - (intOf i).toNat)
  case atStart =>
    refine ⟨1, zs, Nat.le_refl _, by omega, rfl, HO.out, List.Perm.refl _, ?_, HB.out⟩
    cases zs with
    | nil => exact List.Pairwise.nil
    | cons z zs => simp [SrtZ]
  case round =>
    obtain ⟨i, Z, hi1, hi2, rfl, hO, hP, hS, hB⟩ := hrel
    have hZl : Z.length = n := by rw [hP.length_eq, HN.out]
    by_cases hlt : i < n
    · obtain ⟨g, rfl, hgB, hgl⟩ := hO.addr (by omega)
      obtain ⟨x, hxe⟩ : ∃ x, x = Z[i]?.getD 0 := ⟨_, rfl⟩
      obtain ⟨R, hR⟩ : ∃ R, R = Z.take i ++ Z.drop (i + 1) := ⟨_, rfl⟩
      have hZ : Z = holeL R i x := by rw [hR, hxe]; exact hole_of Z i (by omega)
      have hRl : R.length + 1 = n := by rw [← hZl]; conv => rhs; rw [hZ]
                                        rw [hole_len]
      have hRt : R.take i = Z.take i := by rw [hR, List.take_left' (by rw [List.length_take]; omega)]
      have c1 := hO.cell (j := i) hlt
      rw [← hxe] at c1
      have HS := Lib.hid (show SrtZ (R.take i) by rw [hRt]; exact hS)
      have HPR : Hid (∀ k, (holeL R k x).Perm zs) := Lib.hid (fun k => ((hole_perm R k x).trans (hole_perm R i x).symm).trans (by rw [← hZ]; exact hP))
      have HO2 : Hid (OwnN wr w.heap.size (some ⟨g, 0, none⟩) n c3 (holeL R i x)) := Lib.hid (by rw [← hZ]; exact hO)
      have HB2 := Lib.hid hB
      have HRL := Lib.hid hRl
      have hi0 : (0 : Int) ≤ (i : Int) := by omega
      have hin : (i : Int) < (n : Int) := by omega
      clear hO hB hS hP hR hxe hZ hRt hZl
      obtain ⟨wo, hwo⟩ : ∃ wo, wo = wr := ⟨wr, rfl⟩
      subst hwo
      have FIN : ∀ (k : Nat) (y : Int) (W : World), k ≤ i → OwnN W w.heap.size (some ⟨g, 0, none⟩) n c3 (holeL R k y) → OwnN (W.setCell ⟨g, k, none⟩ (.int .i64 x)) w.heap.size (some ⟨g, 0, none⟩) n c3 (holeL R k x) := by
        intro k y W hk h
        have h1 := (World.ownsRow.stored h k (.int .i64 x)).1
        rw [← List.map_set, hole_set _ _ _ _ (by omega)] at h1
        exact h1
      have HFIN := Lib.hid FIN
      clear FIN
      go_wp2
      go_loopw [6] (fun kk wr => ∃ (k : Nat) (y : Int), k ≤ i ∧ kk = .int .i64 (k : Int) ∧ OwnN wr w.heap.size (some ⟨g, 0, none⟩) n c3 (holeL R k y) ∧ (∀ j, k ≤ j → j < i → x < R[j]?.getD 0) ∧ Below w.heap.size w wr) (fun kk _ => (intOf kk).toNat)
      case atStart => exact ⟨i, x, Nat.le_refl _, rfl, HO2.out, fun j h1 h2 => by omega, HB2.out⟩
      case round =>
        obtain ⟨k, y, hk, rfl, hO, hgt, hB⟩ := hrel
        have hrl := HRL.out
        by_cases hk0 : k = 0
        · subst hk0
          have e0 := hO.cell (j := 0) (by omega)
          have f0 := World.ownsRow.frozenAt hO 0
          have hn0 : (0 : Int) < (n : Int) := by omega
          have HN1 := Lib.hid (HFIN.out 0 y wr (Nat.zero_le _) hO)
          have HSD := Lib.hid (hole_sorted (Nat.zero_le _) (by omega) HS.out hgt (.inl rfl))
          have HB := Lib.hid hB
          clear hO hgt hB
          go_wp2
          go_roundw
          case rel => exact ⟨i + 1, holeL R 0 x, by omega, by omega, by go_num, HN1.out, HPR.out 0, HSD.out, HB.out.setCell (p := ⟨g, 0, none⟩) hgB _⟩
          case measure => simp [intOf]; omega
        · obtain ⟨q, rfl⟩ : ∃ q, k = q + 1 := ⟨k - 1, by omega⟩
          obtain ⟨r, hr⟩ : ∃ r, r = R[q]?.getD 0 := ⟨_, rfl⟩
          have e0 := hO.cell (j := q) (by omega)
          rw [hole_low R (q + 1) y q (by omega) (by omega), ← hr] at e0
          have e1 := hO.cell (j := q + 1) (by omega)
          have f1 := World.ownsRow.frozenAt hO (q + 1)
          have hq0 : (0 : Int) ≤ (q : Int) := by omega
          have hq1 : (q : Int) + 1 < (n : Int) := by omega
          have hq2 : (0 : Int) < (q : Int) + 1 := by omega
          have HB := Lib.hid hB
          by_cases hxr : x < r
          · have HST : Hid (OwnN (wr.setCell ⟨g, q + 1, none⟩ (.int .i64 r)) w.heap.size (some ⟨g, 0, none⟩) n c3 (holeL R q r)) := Lib.hid (by
              have h1 := (World.ownsRow.stored hO (q + 1) (.int .i64 r)).1
              rw [← List.map_set, hr, hole_step _ _ _ (by omega), ← hr] at h1
              exact h1)
            have HGT : Hid (∀ j, q ≤ j → j < i → x < R[j]?.getD 0) := Lib.hid (fun j h1 h2 => by
              by_cases e : j = q
              · subst e; rw [← hr]; exact hxr
              · exact hgt j (by omega) h2)
            clear hO hgt hB hr
            go_wp2
            go_roundw
            case rel => exact ⟨q, r, by omega, by go_num, HST.out, HGT.out, HB.out.setCell (p := ⟨g, q + 1, none⟩) hgB _⟩
            case measure => simp [intOf]
          · have HN1 := Lib.hid (HFIN.out (q + 1) y wr hk hO)
            have HSD := Lib.hid (hole_sorted hk (by omega) HS.out hgt (.inr (by rw [Nat.add_sub_cancel, ← hr]; omega)))
            clear hO hgt hB hr
            go_wp2
            go_roundw
            case rel => exact ⟨i + 1, holeL R (q + 1) x, by omega, by omega, by go_num, HN1.out, HPR.out (q + 1), HSD.out, HB.out.setCell (p := ⟨g, q + 1, none⟩) hgB _⟩
            case measure => simp [intOf]; omega
    · rw [List.take_of_length_le (by omega)] at hS
      have HE := Lib.hid (sorted_eq hS hP)
      have HO2 := Lib.hid hO
      have HB2 := Lib.hid hB
      clear hO hP hS hB hZl
      go_wp2
      go_ret
      exact ⟨_, _, rfl, by rw [← HE.out]; exact HO2.out, HB2.out⟩

end Go.Proofs.YtjclfpcnfmpjdaaDoor

/- It is proved what l2Before and l2Equal return; conditions: those of each statement. -/
namespace Go.Proofs.YtjclfpcnfmpjdaaDoor
open Go.RowKit Go.Shelf

/-- A beginning is less than what goes on. -/
def lexB : List Int → List Int → Bool
  | [], [] => false
  | [], _ :: _ => true
  | _ :: _, [] => false
  | x :: xs, y :: ys => if x = y then lexB xs ys else decide (x < y)

theorem lex_drop : ∀ (i : Nat) (xs ys : List Int), i ≤ xs.length → i ≤ ys.length → (∀ j, j < i → xs[j]?.getD 0 = ys[j]?.getD 0) → lexB xs ys = lexB (xs.drop i) (ys.drop i)
  | 0, _, _, _, _, _ => rfl
  | i + 1, [], _, h, _, _ => by simp at h
  | i + 1, _ :: _, [], _, h, _ => by simp at h
  | i + 1, x :: xs, y :: ys, h1, h2, h => by
    have h0 := h 0 (by omega)
    simp at h0
    subst h0
    rw [lexB, if_pos rfl, List.drop_succ_cons, List.drop_succ_cons]
    exact lex_drop i xs ys (by simpa using h1) (by simpa using h2) (fun j hj => by simpa using h (j + 1) (by omega))

theorem lex_ne {i : Nat} {xs ys : List Int} (h1 : i < xs.length) (h2 : i < ys.length) (h : ∀ j, j < i → xs[j]?.getD 0 = ys[j]?.getD 0) (hn : xs[i]?.getD 0 ≠ ys[i]?.getD 0) : lexB xs ys = decide (xs[i]?.getD 0 < ys[i]?.getD 0) := by
  rw [lex_drop i xs ys (by omega) (by omega) h, List.drop_eq_getElem_cons h1, List.drop_eq_getElem_cons h2, lexB]
  rw [List.getElem?_eq_getElem h1, List.getElem?_eq_getElem h2] at hn ⊢
  simp only [Option.getD_some] at hn ⊢
  rw [if_neg hn]

theorem lex_end {i : Nat} {xs ys : List Int} (h1 : i ≤ xs.length) (h2 : i ≤ ys.length) (h3 : i = xs.length ∨ i = ys.length) (h : ∀ j, j < i → xs[j]?.getD 0 = ys[j]?.getD 0) : lexB xs ys = decide (xs.length < ys.length) := by
  rw [lex_drop i xs ys h1 h2 h]
  rcases h3 with rfl | rfl
  · rw [List.drop_length]
    by_cases h4 : xs.length < ys.length
    · rw [List.drop_eq_getElem_cons h4, lexB]; simp [h4]
    · rw [List.drop_of_length_le (by omega), lexB]; simp [h4]
  · rw [List.drop_length]
    by_cases h4 : ys.length < xs.length
    · rw [List.drop_eq_getElem_cons h4, lexB]; simp; omega
    · rw [List.drop_of_length_le (by omega), lexB]; simp; omega

theorem lex_both : ∀ xs ys : List Int, (!lexB xs ys && !lexB ys xs) = decide (xs = ys)
  | [], [] => by simp [lexB]
  | [], _ :: _ => by simp [lexB]
  | _ :: _, [] => by simp [lexB]
  | x :: xs, y :: ys => by
    by_cases h : x = y
    · subst h
      rw [lexB, lexB, if_pos rfl, if_pos rfl, lex_both xs ys]
      simp
    · rw [lexB, lexB, if_neg h, if_neg (fun e => h e.symm)]
      by_cases h2 : x < y
      · simp [h, h2]
      · have : y < x := by omega
        simp [h, this]

set_option maxRecDepth 100000 in
set_option maxHeartbeats 4000000 in
theorem before_any (a b : Option Addr) (c d : Nat) (xs ys : List Int) (w : World) (ha : Ints w w.heap.size a xs) (hb : Ints w w.heap.size b ys) (hx : xs.length ≤ 1048576) (hy : ys.length ≤ 1048576) :
    Calls Tryd.prog 85 #[.slice a xs.length c, .slice b ys.length d] w fun e w' => e = .returned (.bool (lexB xs ys)) ∧ Below w.heap.size w w' := by
  obtain ⟨n, hn⟩ : ∃ n, n = xs.length := ⟨_, rfl⟩
  obtain ⟨m, hm⟩ : ∃ m, m = ys.length := ⟨_, rfl⟩
  have HN := Lib.hid hn
  have HM := Lib.hid hm
  rw [← hn, ← hm]
  rw [← hn] at hx
  rw [← hm] at hy
  have HA := Lib.hid ha
  have HB := Lib.hid hb
  clear ha hb hn hm
  go_enter Tryd.func85, Tryd.ntmps85
  go_wp2
  go_loopw [5] (fun i wr => ∃ k : Nat, k ≤ n ∧ k ≤ m ∧ i = .int .i64 (k : Int) ∧ (∀ j, j < k → xs[j]?.getD 0 = ys[j]?.getD 0) ∧ Below w.heap.size w wr) (fun i _ => n - (intOf i).toNat)
  case atStart => exact ⟨0, Nat.zero_le _, Nat.zero_le _, rfl, fun j h => by omega, Below.refl _ _⟩
  case round =>
    obtain ⟨k, hk1, hk2, rfl, he, hB⟩ := hrel
    by_cases h1 : k < n
    · by_cases h2 : k < m
      · obtain ⟨b1, o1, rfl, hb1, hc1⟩ := HA.out.at_ (k := k) (by rw [← HN.out]; exact h1)
        obtain ⟨b2, o2, rfl, hb2, hc2⟩ := HB.out.at_ (k := k) (by rw [← HM.out]; exact h2)
        have c1 := (hB.cell (p := ⟨b1, o1 + k, none⟩) hb1).trans hc1
        have c2 := (hB.cell (p := ⟨b2, o2 + k, none⟩) hb2).trans hc2
        obtain ⟨x, hxe⟩ : ∃ x, x = xs[k]?.getD 0 := ⟨_, rfl⟩
        obtain ⟨y, hye⟩ : ∃ y, y = ys[k]?.getD 0 := ⟨_, rfl⟩
        rw [← hxe] at c1
        rw [← hye] at c2
        have hk0 : (0 : Int) ≤ (k : Int) := by omega
        have hk1 : (k : Int) < (n : Int) := by omega
        have hk2 : (k : Int) < (m : Int) := by omega
        have HBW := Lib.hid hB
        by_cases hxy : x = y
        · have HE : Hid (∀ j, j < k + 1 → xs[j]?.getD 0 = ys[j]?.getD 0) := Lib.hid (fun j hj => by
            rcases Nat.lt_succ_iff_lt_or_eq.1 hj with h | rfl
            · exact he j h
            · rw [← hxe, ← hye]; exact hxy)
          clear he hB hc1 hc2 hxe hye
          subst hxy
          go_wp2
          go_quiet (fail)
          go_wp2
          go_roundw
          case rel => exact ⟨k + 1, by omega, by omega, by go_num, HE.out, below_drewN HBW.out _⟩
          case measure => simp [intOf]; omega
        · have HF : Hid (lexB xs ys = decide (x < y)) := Lib.hid (by rw [hxe, hye]; exact lex_ne (by rw [← HN.out]; exact h1) (by rw [← HM.out]; exact h2) he (by rw [← hxe, ← hye]; exact hxy))
          have hne : (x != y) = true := by simp [hxy]
          clear he hB hc1 hc2 hxe hye
          go_wp2
          go_quiet (fail)
          go_wp2
          go_quiet (fail)
          go_wp2
          go_ret
          refine ⟨by rw [HF.out]; rfl, ?_⟩
          first | exact below_drewN (below_drewN HBW.out _) _ | exact below_drewN HBW.out _
      · have HF : Hid (lexB xs ys = decide (n < m)) := Lib.hid (by
          have := HN.out; have := HM.out
          rw [lex_end (i := k) (by omega) (by omega) (by omega) he, ← HN.out, ← HM.out])
        have h2I : ¬ ((k : Int) < (m : Int)) := by omega
        have h1I : (k : Int) < (n : Int) := by omega
        have HBW := Lib.hid hB
        clear he hB
        go_wp2
        go_ret
        exact ⟨by rw [HF.out]; simp, HBW.out⟩
    · have HF : Hid (lexB xs ys = decide (n < m)) := Lib.hid (by
        have := HN.out; have := HM.out
        rw [lex_end (i := k) (by omega) (by omega) (by omega) he, ← HN.out, ← HM.out])
      have h1I : ¬ ((k : Int) < (n : Int)) := by omega
      have HBW := Lib.hid hB
      clear he hB
      go_wp2
      go_ret
      exact ⟨by rw [HF.out]; simp, HBW.out⟩

end Go.Proofs.YtjclfpcnfmpjdaaDoor

/- It is proved what l2Equal returns, and what appending a row to rows leaves; conditions: those of each statement. -/
namespace Go.Proofs.YtjclfpcnfmpjdaaDoor
open Go.RowKit Go.Shelf

set_option maxRecDepth 100000 in
set_option maxHeartbeats 1000000 in
theorem equal_any (a b : Option Addr) (c d : Nat) (xs ys : List Int) (w : World) (ha : Ints w w.heap.size a xs) (hb : Ints w w.heap.size b ys) (hx : xs.length ≤ 1048576) (hy : ys.length ≤ 1048576) :
    Calls Tryd.prog 50 #[.slice a xs.length c, .slice b ys.length d] w fun e w' => e = .returned (.bool (decide (xs = ys))) ∧ Below w.heap.size w w' := by
  have hlb := lex_both xs ys
  obtain ⟨p, hp⟩ : ∃ p, p = lexB xs ys := ⟨_, rfl⟩
  obtain ⟨q, hq⟩ : ∃ q, q = lexB ys xs := ⟨_, rfl⟩
  rw [← hp, ← hq] at hlb
  have HL := Lib.hid hlb
  have h1 := before_any a b c d xs ys w ha hb hx hy
  rw [← hp] at h1
  have h2 : ∀ W, Below w.heap.size w W → Calls Tryd.prog 85 #[.slice b ys.length d, .slice a xs.length c] W fun e w' => e = .returned (.bool q) ∧ Below W.heap.size W w' := fun W hW => by
    rw [hq]
    exact before_any b a d c ys xs W ((hb.below hW).mono hW.size) ((ha.below hW).mono hW.size) hy hx
  have H2 := Lib.hid h2
  clear hlb hp hq h2 ha hb
  cases p
  · go_enter Tryd.func50, Tryd.ntmps50
    go_wp2_with fail
    refine h1.mono ?_
    rintro e w1 ⟨rfl, hb1⟩
    have hc2 := H2.out w1 hb1
    have HB1 := Lib.hid hb1
    clear h1 hb1
    go_wp2_with (go_at_call 85; refine hc2.mono ?_; rintro e w2 ⟨rfl, hb2⟩)
    go_ret
    exact ⟨by rw [← HL.out]; cases q <;> rfl, HB1.out.trans (hb2.mono HB1.out.size)⟩
  · go_enter Tryd.func50, Tryd.ntmps50
    go_wp2_with (go_at_call 85; refine h1.mono ?_; rintro e w1 ⟨rfl, hb1⟩)
    go_ret
    exact ⟨by rw [← HL.out]; cases q <;> rfl, hb1⟩

theorem Rws.kept {W W' : World} {B : Nat} {v : Value} {L : List (List Int)} {row : Option Nat} {B' n' : Nat} {v' : Value} {xs' : List Value} (h : Rws W B v L) (hg : W.grownBy W' row) (hr : row = v'.ownBlock) (hv' : W.ownsRow B' 23 1 v' n' xs') (hne : v.ownBlock = none ∨ v.ownBlock ≠ row) : Rws W' B v L := by
  obtain ⟨vals, h1, h2⟩ := h
  subst hr
  exact ⟨vals, h1.kept hg hne, fun i hi => by
    obtain ⟨a, c, e, ho⟩ := h2 i hi
    exact ⟨a, c, e, ho.kept hg (type_ne ho hv' (by decide))⟩⟩

/-- A row that is there is put behind rows. -/
theorem app_row {W : World} {B : Nat} {v : Value} {L : List (List Int)} (hR : Rws W B v L) (hBW : B ≤ W.heap.size) (hL : L.length ≤ 100000) (a1 : Option Addr) (c1 k : Nat) (l : List Int) (hl : l.length = k) (h1 : OwnN W B a1 k c1 l) (ga : Nat) (hga : ga < W.heap.size) (hne : v.ownBlock ≠ some ga) :
    ∃ a5 c5 w5, (Builtin.append_ #[82, 82] 82 #[v, .slice (some ⟨W.heap.size, 0, none⟩) 1 1]).run Tryd.prog (W.alloc (.cells #[.slice a1 k c1] 23)) = .ok (.slice a5 (L.length + 1) c5) w5 ∧
      Rws w5 B (.slice a5 (L.length + 1) c5) (L ++ [l]) ∧ (Value.slice a5 (L.length + 1) c5).ownBlock ≠ some ga ∧ (W.alloc (.cells #[.slice a1 k c1] 23)).grownBy w5 v.ownBlock ∧ (∃ n' xs', (W.alloc (.cells #[.slice a1 k c1] 23)).ownsRow B 23 1 v n' xs') ∧ Below B W w5 := by
  obtain ⟨i0, hi0, hz0, hz1, hz2⟩ := info_parts Tryd.infoRow
  obtain ⟨vals, hv1, hv2⟩ := hR.alloc (.cells #[.slice a1 k c1] 23)
  have ho5 := World.ownsRow.alloc h1 (.cells #[.slice a1 k c1] 23)
  have hnb := alloc_new W (.cells #[.slice a1 k c1] 23)
  have hb5 : Below W.heap.size W (W.alloc (.cells #[.slice a1 k c1] 23)) := below1 W _
  obtain ⟨v', w5, hr5, h2, h3, _, h4⟩ := run_append_own_at (P := Tryd.prog) (w := W.alloc (.cells #[.slice a1 k c1] 23)) B 82 82 23 i0 (.slice none 0 0) 1 24 Tryd.underlying82 hi0 hz0 hz1 hz2 rfl (by decide) v L.length vals hv1 ⟨W.heap.size, 0, none⟩ 1 1 [.slice a1 k c1] (by simp)
    (fun j u hu => by
      have hj : j = 0 := by have := (List.getElem?_eq_some_iff.1 hu).1; simpa using this
      subst hj
      simp at hu
      subst hu
      exact blk_cell hnb 0) (by simp [Value.oneCell']) (by simp only [maxLen]; omega) (by omega) (Nat.le_trans hBW hb5.size)
  obtain ⟨a5, c5, rfl⟩ : ∃ a5 c5, v' = .slice a5 (L.length + 1) c5 := by
    rcases h2.2 with ⟨rfl, e⟩ | ⟨g, cap, cur, rfl, _⟩
    · omega
    · exact ⟨_, _, rfl⟩
  have hsz : (W.alloc (.cells #[.slice a1 k c1] 23)).heap.size = W.heap.size + 1 := by simp
  refine ⟨a5, c5, w5, hr5, ⟨vals ++ [.slice a1 k c1], by rw [List.length_append]; exact h2, fun i hi => ?_⟩, ?_, h3, ⟨_, _, hv1⟩, ?_⟩
  · have hvl : vals.length = L.length := by have := hv1.1; omega
    rw [List.length_append] at hi
    by_cases hil : i < L.length
    · rw [List.getElem?_append_left (by omega), List.getElem?_append_left hil]
      obtain ⟨a', c', e, ho⟩ := hv2 i hil
      exact ⟨a', c', e, ho.kept h3 (type_ne ho hv1 (by decide))⟩
    · have hie : i = L.length := by simp at hi; omega
      subst hie
      rw [List.getElem?_append_right (by omega), List.getElem?_append_right (by omega), hvl, Nat.sub_self]
      refine ⟨a1, c1, by simp [hl], ?_⟩
      have h6 := ho5.kept h3 (type_ne ho5 hv1 (by decide))
      simp only [List.getElem?_cons_zero, Option.getD_some, hl]
      exact h6
  · rcases h4 with h | h
    · rw [h]; exact hne
    · rw [h, hsz]; intro e; injection e with e; omega
  · exact (hb5.mono hBW).grown h3 (Nat.le_trans hBW hb5.size) (fun g e => (World.ownsRow.lt hv1 g e).1)

end Go.Proofs.YtjclfpcnfmpjdaaDoor

/- It is proved what the method ask leaves in its map; conditions: those of each statement. -/
namespace Go.Proofs.YtjclfpcnfmpjdaaDoor
open Go.RowKit Go.Shelf Go.Maps

attribute [local go_sem] Oper.semAt_some

/-- allNames(members): the number is boxed; the function value holds the box. -/
theorem allNames_any (m : Int) (w : World) :
    Calls Tryd.prog 94 #[.int .i64 m] w fun e w' => e = .returned (.func (.func 105) #[] #[.pointer (some ⟨w.heap.size, 0, none⟩)]) ∧ w' = w.alloc (.cells #[.int .i64 m] 3) := by
  have hmf : ∀ (fn : Fn) (first cap : Array Value) (w : World), (Instr.makeFunc fn first cap).run Tryd.prog w = .ok (.func fn first cap) w := fun _ _ _ _ => rfl
  go_enter Tryd.func94, Tryd.ntmps94
  go_wp2
  go_ret
  exact ⟨rfl, rfl⟩

/-- The map of namings. -/
abbrev OwnT (W : World) (b n : Nat) (D : DataW Unit) : Prop := W.ownsMap Tryd.prog 57 rowR b n D

theorem OwnT.but {W W' : World} {b n : Nat} {D : DataW Unit} {X : Nat → Prop} (h : OwnT W b n D) (hb : But X W W') (hX : ¬ X b) : OwnT W' b n D := by
  obtain ⟨es, clock, hB, F, hs, hD⟩ := h
  exact ⟨es, clock, hb.keep hX hB, F, hs, hD⟩

theorem OwnT.blk {W : World} {b n : Nat} {D : DataW Unit} (h : OwnT W b n D) : ∃ es clock, W.heap[b]? = some (.map es clock) := by
  obtain ⟨es, clock, hB, _⟩ := h; exact ⟨es, clock, hB⟩

theorem ints_but {W W' : World} {b B : Nat} {a : Option Addr} {zs : List Int} (h : Ints W B a zs) (hB : B ≤ W.heap.size) (hb : But (fun k => k = b) W W') (hm : ∃ es clock, W.heap[b]? = some (.map es clock)) : Ints W' B a zs := by
  rcases h with h | ⟨g, off, e, hg, hc⟩
  · exact .inl h
  · by_cases hz : zs = []
    · exact .inl hz
    · refine .inr ⟨g, off, e, hg, fun j hj => ?_⟩
      have hne : g ≠ b := by
        rintro rfl
        obtain ⟨es, clock, hm⟩ := hm
        have := hc 0 (List.length_pos_iff.2 hz)
        simp [World.cell?, hm] at this
      exact (World.cell?_of_block (a := ⟨g, off + j, none⟩) (hb.same g (by omega) hne)).trans (hc j hj)

theorem clear_own {W : World} {b n : Nat} {D : DataW Unit} (h : OwnT W b n D) : ∃ W', (∀ ty, (Builtin.clear_ #[55] ty #[.map (some b)]).run Tryd.prog W = .ok (.tuple #[]) W') ∧ OwnT W' b 0 (.map []) ∧ W.grownBy W' (some b) := by
  obtain ⟨es, clock, hb, F, hs, hD⟩ := h
  refine ⟨ChangeMaps.setBlock W b (.map #[] clock), fun ty => ?_, ⟨#[], clock, ChangeMaps.heap_setBlock_same hb _, ⟨by simp, MapKept.stamped_empty _, by simp⟩, Nat.le_refl _, rfl⟩, ⟨rfl, rfl, rfl, by simp [ChangeMaps.setBlock], fun i _ hi => ChangeMaps.heap_setBlock_other hb _ (fun e => hi (by rw [e]))⟩⟩
  simp [Builtin.clear_, run_underlying Tryd.underlying55, MapKept.run_getObj_map hb, MapKept.run_setObj_map _ hb, Result.andThen]
  rfl

end Go.Proofs.YtjclfpcnfmpjdaaDoor

/- It is proved what the method and of a naming returns; conditions: those of each statement. -/
namespace Go.Proofs.YtjclfpcnfmpjdaaDoor
open Go.RowKit Go.Shelf

def z13 : Array Value := #[Value.int IntKind.i64 0, Value.int IntKind.i64 0, Value.int IntKind.i64 0, Value.int IntKind.i64 0, Value.int IntKind.i64 0, Value.int IntKind.i64 0, Value.int IntKind.i64 0, Value.int IntKind.i64 0, Value.int IntKind.i64 0, Value.int IntKind.i64 0, Value.int IntKind.i64 0, Value.int IntKind.i64 0, Value.int IntKind.i64 0]
theorem copy_first (xs ps : List Int) (hl : xs.length = 13) (hp : ps.length ≤ 6) (h0 : 1 ≤ ps.length) (a : Option Addr) (c : Nat) (w : World) (ha : Ints w w.heap.size a ps) :
    ∃ W3, (∀ ty, (Builtin.copy_ #[23, 23] ty #[.slice (some ⟨w.heap.size, 0, none⟩) 6 6, .slice a ps.length c]).run Tryd.prog ((w.alloc (.cells (iv xs) 78)).alloc (.cells z13 78)) = .ok (.int .i64 (ps.length : Int)) W3) ∧
      Nums W3 w.heap.size 78 (ps ++ xs.drop ps.length) ∧ HasBlk W3 (w.heap.size + 1) z13 78 ∧ Below w.heap.size w W3 := by
  have hb2 := below2 w (.cells (iv xs) 78) (.cells z13 78)
  have q0 := alloc2_0 w (.cells (iv xs) 78) (.cells z13 78)
  have q1 := alloc2_1 w (.cells (iv xs) 78) (.cells z13 78)
  obtain ⟨W, hW⟩ : ∃ W, (w.alloc (.cells (iv xs) 78)).alloc (.cells z13 78) = W := ⟨_, rfl⟩
  rw [hW] at hb2 q0 q1 ⊢
  obtain ⟨b, off, rfl, hbb, hcc⟩ := ha.at_ (k := 0) (by omega)
  have hA := (ha.below hb2).add_
  have hr := fun ty => run_copy_row (P := Tryd.prog) W 23 23 ty 3 w.heap.size 0 6 6 ⟨b, off, none⟩ ps.length c (iv xs) 78 (ps.map (Value.int .i64)) Tryd.underlying23 (by
    obtain ⟨i0, hi0, hz0, hz1, hz2⟩ := info_parts Tryd.info3
    simp [hi0, hz1]) q0 (by simp [Nat.min_def]; omega) hA (by rw [iv_size]; simp; omega) (by simp [Value.oneCell'])
  refine ⟨W.setRow w.heap.size (((iv xs).toList.take 0 ++ ps.map (Value.int .i64) ++ (iv xs).toList.drop (0 + (ps.map (Value.int .i64)).length)).toArray), fun ty => (hr ty).trans ?_, ?_, ?_, ?_⟩
  · simp [goInt]
  · have := setRow_heap W w.heap.size (iv xs) (((iv xs).toList.take 0 ++ ps.map (Value.int .i64) ++ (iv xs).toList.drop (0 + (ps.map (Value.int .i64)).length)).toArray) 78 _ q0
    unfold Nums HasBlk
    rw [this]
    simp [iv, List.map_drop]
  · exact (setRow_other W w.heap.size (w.heap.size + 1) _ (by omega)).trans q1
  · exact hb2.grown (row := some w.heap.size) ⟨rfl, rfl, rfl, by simp, fun k _ hk => setRow_other _ _ _ _ (fun e => hk (by rw [e]))⟩ hb2.size (fun j e => by cases e; exact Nat.le_refl _)

end Go.Proofs.YtjclfpcnfmpjdaaDoor

/- It is proved what listBy returns; conditions: those of each statement. -/
namespace Go.Proofs.YtjclfpcnfmpjdaaDoor
open Go.RowKit Go.Shelf

attribute [local go_sem] Oper.semAt_some

def z8 : List Int := List.replicate 8 0
/-- The places and clubs that have come. -/
def valsC {P : Nat × Int → Prop} (pre : List { p // P p }) : List (Nat × Int) := pre.map (·.1)

theorem valsC_snoc {P : Nat × Int → Prop} (pre : List { p // P p }) (x : { p // P p }) : valsC (pre ++ [x]) = valsC pre ++ [x.1] := by simp [valsC]
theorem store8 {W : World} {R t : Nat} {L : List Int} (hl : L.length = 8) (h : Nums W R t z8) : ∃ W', ((((((((W.setCell ⟨R, 0, none⟩ (.int .i64 (L[0]?.getD 0))).setCell ⟨R, 1, none⟩ (.int .i64 (L[1]?.getD 0))).setCell ⟨R, 2, none⟩ (.int .i64 (L[2]?.getD 0))).setCell ⟨R, 3, none⟩ (.int .i64 (L[3]?.getD 0))).setCell ⟨R, 4, none⟩ (.int .i64 (L[4]?.getD 0))).setCell ⟨R, 5, none⟩ (.int .i64 (L[5]?.getD 0))).setCell ⟨R, 6, none⟩ (.int .i64 (L[6]?.getD 0))).setCell ⟨R, 7, none⟩ (.int .i64 (L[7]?.getD 0))) = W' ∧ Nums W' R t L ∧ KeepsOthers W W' ∧ ∀ (B : Nat), B ≤ R → Below B W W' := by
  refine ⟨_, rfl, ?_, ?_, fun B hB => ?_⟩
  · obtain ⟨x0, x1, x2, x3, x4, x5, x6, x7, rfl⟩ : ∃ x0 x1 x2 x3 x4 x5 x6 x7 : Int, L = [x0, x1, x2, x3, x4, x5, x6, x7] := by
      match L, hl with
      | [x0, x1, x2, x3, x4, x5, x6, x7], _ => exact ⟨_, _, _, _, _, _, _, _, rfl⟩
    exact (((((((h.set 0 x0).set 1 x1).set 2 x2).set 3 x3).set 4 x4).set 5 x5).set 6 x6).set 7 x7
  · exact ((((((((KeepsOthers.setCell _ _ _).trans (KeepsOthers.setCell _ _ _)).trans (KeepsOthers.setCell _ _ _)).trans (KeepsOthers.setCell _ _ _)).trans (KeepsOthers.setCell _ _ _)).trans (KeepsOthers.setCell _ _ _)).trans (KeepsOthers.setCell _ _ _)).trans (KeepsOthers.setCell _ _ _))
  · have st : ∀ (W1 : World) (i : Nat) (v : Value), Below B W W1 → Below B W (W1.setCell ⟨R, i, none⟩ v) := fun W1 i v h => h.setCell (p := ⟨R, i, none⟩) hB v
    exact st _ _ _ (st _ _ _ (st _ _ _ (st _ _ _ (st _ _ _ (st _ _ _ (st _ _ _ (st _ _ _ (Below.refl _ _))))))))

theorem below_keeps {W W' : World} (h : Below W.heap.size W W') : KeepsOthers W W' := ⟨h.size, fun k o hk _ => (h.block k (lt_of_some hk)).trans hk⟩
theorem alloc5 (w : World) (o0 o1 o2 o3 o4 : Obj) : ∃ W, ((((w.alloc o0).alloc o1).alloc o2).alloc o3).alloc o4 = W ∧ W.heap[w.heap.size]? = some o0 ∧ W.heap[w.heap.size + 1]? = some o1 ∧ W.heap[w.heap.size + 1 + 1]? = some o2 ∧
    W.heap[w.heap.size + 1 + 1 + 1]? = some o3 ∧ W.heap[w.heap.size + 1 + 1 + 1 + 1]? = some o4 ∧ W.heap.size = w.heap.size + 1 + 1 + 1 + 1 + 1 ∧ Below w.heap.size w W := by
  refine ⟨_, rfl, ?_, ?_, ?_, ?_, ?_, by simp, ((below3 w o0 o1 o2).alloc (by simp; omega) _).alloc (by simp; omega) _⟩
  · exact (alloc_old _ _ _ (by simp <;> omega)).trans ((alloc_old _ _ _ (by simp <;> omega)).trans (alloc3_0 w o0 o1 o2))
  · exact (alloc_old _ _ _ (by simp <;> omega)).trans ((alloc_old _ _ _ (by simp <;> omega)).trans (alloc3_1 w o0 o1 o2))
  · exact (alloc_old _ _ _ (by simp <;> omega)).trans ((alloc_old _ _ _ (by simp <;> omega)).trans (alloc3_2 w o0 o1 o2))
  · exact (alloc_old _ _ _ (by simp <;> omega)).trans (by rw [show w.heap.size + 1 + 1 + 1 = (((w.alloc o0).alloc o1).alloc o2).heap.size from by simp]; exact alloc_new _ _)
  · rw [show w.heap.size + 1 + 1 + 1 + 1 = ((((w.alloc o0).alloc o1).alloc o2).alloc o3).heap.size from by simp]; exact alloc_new _ _

set_option maxRecDepth 100000 in
set_option maxHeartbeats 4000000 in
theorem listBy_any (m : Nat) (a : Option Addr) (c : Nat) (zs : List Int) (pa : Option Addr) (pc : Nat) (ps : List Int) (hp : Okp m ps) (w : World) (ha : Ints w w.heap.size a zs) (hpi : Ints w w.heap.size pa ps) (hT : Tab w) (hf : famIn (m : Int) zs = true) :
    Calls Tryd.prog 91 #[.agg #[.int .i64 (m : Int), .slice a zs.length c], .slice pa ps.length pc] w fun e w' => e = .returned (.agg (iv (keyL zs ps))) ∧ Below w.heap.size w w' := by
  have HI := Lib.hid ha
  have HPI := Lib.hid hpi
  have HPc := Lib.hid (isClub_all hf)
  obtain ⟨hm1, hm6, hl8, -⟩ := famIn_out hf
  have hm6' : m ≤ 6 := by omega
  have HT := Lib.hid hT
  have HOK := Lib.hid hp
  obtain ⟨n, hn⟩ : ∃ n, n = zs.length := ⟨_, rfl⟩
  have HN := Lib.hid hn
  obtain ⟨pn, hpn⟩ : ∃ pn, pn = ps.length := ⟨_, rfl⟩
  have HPN := Lib.hid hpn
  have hx : n ≤ 8 := by omega
  rw [← hn, ← hpn]
  clear ha hf hn hl8 hpi hT hp hpn
  refine (callsIn_wide (n := 6)).1 ?_
  refine callsIn_of_wp_marks Tryd.func91 rfl trivial ?_ rfl
  simp only [Tryd.ntmps91, List.size_toArray, List.length_cons, List.length_nil, Nat.reduceAdd, Nat.reduceSub, Array.replicate_succ, Array.replicate_zero, List.push_toArray, List.append_toArray, List.nil_append, List.cons_append]
  gi_wp2_with (refine ⟨trivial, ?_⟩; gi_at_call 51; refine (callsIn_wide.2 (clubs_any _ _ _ _ _)).mono ?_; rintro e w' ⟨rfl, rfl⟩)
  have h16 : 1 ≤ 6 := by omega
  obtain ⟨W0, hW0, q0, q1, q2, q3, q4, hso, hb0⟩ := alloc5 w (.cells #[.int .i64 (m : Int), .slice a n c] 25) (.cells #[.slice pa pn pc] 23) (.cells #[Value.int IntKind.i64 0, Value.int IntKind.i64 0, Value.int IntKind.i64 0, Value.int IntKind.i64 0, Value.int IntKind.i64 0, Value.int IntKind.i64 0, Value.int IntKind.i64 0, Value.int IntKind.i64 0] 57) (.cells #[Value.int IntKind.i64 0, Value.int IntKind.i64 0, Value.int IntKind.i64 0, Value.int IntKind.i64 0, Value.int IntKind.i64 0, Value.int IntKind.i64 0, Value.int IntKind.i64 0, Value.int IntKind.i64 0] 57) (.cells #[.int .i64 (m : Int), .slice a n c] 25)
  rw [hW0]
  obtain ⟨M, hM⟩ : ∃ M, M = w.heap.size + 1 + 1 + 1 := ⟨_, rfl⟩
  rw [← hM] at q3 q4 hso ⊢
  obtain ⟨R, hR⟩ : ∃ R, R = w.heap.size + 1 + 1 := ⟨_, rfl⟩
  rw [← hR] at q2 ⊢
  have HSO := Lib.hid hso
  have HB0 := Lib.hid hb0
  have Q0 : Hid (HasBlk W0 w.heap.size #[.int .i64 (m : Int), .slice a n c] 25) := Lib.hid q0
  have Q1 : Hid (HasBlk W0 (w.heap.size + 1) #[.slice pa pn pc] 23) := Lib.hid q1
  have Q2 : Hid (Nums W0 R 57 z8) := Lib.hid q2
  have Q3 : Hid (Nums W0 M 57 (madeL ps (valsC ([] : List { p // IsClub m p })))) := Lib.hid q3
  have hMR : R < M := by omega
  have hM1 : w.heap.size + 1 < M := by omega
  have hhR : w.heap.size ≤ R := by omega
  have hst := clubsP_stops (IsClub m) (6 - 1) (by omega) (M + 1) w.heap.size a c zs (by have := HN.out; omega) HPc.out W0 (by omega) (by omega) (by rw [← HN.out]; exact (blk_cell q4 1).trans (cell2_1 _ _)) (HI.out.below HB0.out)
  rw [← HN.out] at hst
  clear hW0 q0 q1 q2 q3 q4 hso hb0 hM hR
  refine wpIn_rangeFunc_ownG rfl h16 (gf := 86) (lb := #[.pointer (some ⟨M + 1, 0, none⟩)]) rfl trivial (enters_of Tryd.func86 (by kernel_rfl) rfl)
    hst belowK_t (belowK_b (by have := HSO.out; omega)) (Below.refl _ _) (fun _ => rfl)
    (fun pre Wr => Nums Wr M 57 (madeL ps (valsC pre)) ∧ Below M W0 Wr)
    (fun _ _ _ => False)
    (OwnFrom.and (Own.from (nums_own _ _ (fun pre : List { p // IsClub m p } => madeL ps (valsC pre))) _) (ownFrom_below (by have := HSO.out; omega) (by have := HSO.out; omega)))
    (fun _ _ _ _ _ hs _ _ => hs)
    ⟨Q3.out, Below.refl _ _⟩
    (fun x => { tmps := #[.agg #[.int .i64 (m : Int), .slice a n c], .slice pa pn pc, .pointer (some ⟨w.heap.size, 0, none⟩), .pointer (some ⟨w.heap.size + 1, 0, none⟩), .pointer (some ⟨R, 0, none⟩), .pointer (some ⟨M, 0, none⟩), .int .i64 (x.1.1 : Int), .int .i64 x.1.2, .agg #[.int .i64 (m : Int), .slice a n c], .func (.func 86) #[] #[.pointer (some ⟨M + 1, 0, none⟩)], .int .i64 (x.1.1 : Int), .int .i64 x.1.2, undef, undef, undef, undef, undef, undef, undef, undef, undef, undef, undef], defers := [] }) ?assign ?body ?done ?stop
  case assign =>
    intro l x Wr K hK
    gi_wp2
    exact hK
  case body =>
    rintro l pre x Wr ⟨hv, hB⟩ hlt
    obtain ⟨q, hq⟩ : ∃ q : Nat, x.1.2 = (q : Int) := ⟨x.1.2.toNat, by have := x.2.2.1; omega⟩
    have hq2 : q < 2 ^ m := by have := x.2.2.2; rw [hq] at this; simpa using this
    have h8 : x.1.1 < 8 := x.2.1
    obtain ⟨k, hk⟩ : ∃ k, k = x.1.1 := ⟨_, rfl⟩
    have HMK : Hid (madeL ps (valsC (pre ++ [x])) = (madeL ps (valsC pre)).set k ((called ps q : Nat) : Int)) := Lib.hid (by rw [valsC_snoc, madeL_snoc, hk, callZ, hq]; rfl)
    rw [hq, ← hk]
    rw [← hk] at h8
    have c1 := (blk_cell (show HasBlk Wr (w.heap.size + 1) #[.slice pa pn pc] 23 from (hB.block _ hM1).trans Q1.out) 0).trans (cell1_0 _)
    have hBw : Below w.heap.size w Wr := HB0.out.trans (hB.mono (by omega))
    have HPr : Hid (Ints Wr Wr.heap.size pa ps) := Lib.hid ((HPI.out.below hBw).mono hBw.size)
    have HTr : Hid (Tab Wr) := Lib.hid (HT.out.below hBw HT.out.lt)
    have HV := Lib.hid hv
    have HB := Lib.hid hB
    have hML : M < Wr.heap.size := hv.lt
    have hk8 : (k : Int) < 8 := by omega
    have hk0 : (0 : Int) ≤ (k : Int) := by omega
    clear hv hB hk hq hBw
    have HNM := fun W' => named_any m q hm6' hq2 pa pc ps HOK.out W'
    rw [← HPN.out] at HNM
    gi_wp2_with (refine ⟨trivial, ?_⟩; gi_at_call 64; refine (CallsIn.inRound l (callsIn_wide.2 (HNM _ HPr.out HTr.out))).mono ?_; rintro e w' ⟨rfl, hb'⟩; have HV' := Lib.hid (HV.out.below hb' hML); have c3 := HV'.out.cell k (by rw [madeL_len]; omega); have f3 := HV'.out.frozen k; have HBB := Lib.hid hb'; clear hb')
    have hbM : Below M Wr ((w'.setCell ⟨M, k, none⟩ (.int .i64 ((called ps q : Nat) : Int)))) := (HBB.out.mono (show M ≤ Wr.heap.size by omega)).setCell (p := ⟨M, k, none⟩) (Nat.le_refl _) _
    refine ⟨((below_keeps HBB.out).trans (KeepsOthers.setCell _ _ _)).from _, (hbM.mono (by omega)), ?_, HB.out.trans hbM⟩
    rw [HMK.out]
    exact HV'.out.set _ _
  case done =>
    rintro D ys Wr hD hys ⟨hv, hB⟩ hK
    have hz8 : zs.length ≤ 8 := by have := HN.out; omega
    have hvv : valsC ys = pairs zs zs.length := by rw [← HN.out]; exact hys
    have x1 := (blk_cell (show HasBlk Wr w.heap.size #[.int .i64 (m : Int), .slice a n c] 25 from (hB.block _ (by omega)).trans Q0.out) 1).trans (cell2_1 _ _)
    have HV := Lib.hid hv
    have HK := Lib.hid hK
    have HB := Lib.hid hB
    have hML : M < Wr.heap.size := hv.lt
    have hn8 : (n : Int) ≤ 8 := by omega
    have hDM : D ≠ M := by have := HSO.out; omega
    have hDR : D ≠ R := by have := HSO.out; omega
    have hDl : D < Wr.heap.size := lt_of_some hK
    have HKE : Hid (((madeL ps (valsC ys)).take n).mergeSort leZ ++ (madeL ps (valsC ys)).drop n = keyL zs ps) := Lib.hid (by rw [hvv, HN.out]; exact keyL_made zs ps hz8)
    clear hv hB hK hvv hys
    gi_wp2_with (refine ⟨trivial, ?_⟩; gi_at_call 103; refine (callsIn_wide.2 (sort_nums M n 8 57 _ Wr HV.out (by rw [madeL_len]; exact hx) hx (by rw [madeL_len]; omega))).mono ?_; rw [HKE.out]; rintro e w' ⟨rfl, hN2, hg2⟩; have HN2 := Lib.hid hN2; have HR2 : Hid (Nums w' R 57 z8) := Lib.hid (((show Nums Wr R 57 z8 from (HB.out.block R hMR).trans Q2.out)).kept hg2 (fun e => by injection e; omega)); have HG2 := Lib.hid hg2; clear hN2 hg2; have d0 := HN2.out.cell 0 (by rw [keyL_len _ _ hz8]; omega); have d1 := HN2.out.cell 1 (by rw [keyL_len _ _ hz8]; omega); have d2 := HN2.out.cell 2 (by rw [keyL_len _ _ hz8]; omega); have d3 := HN2.out.cell 3 (by rw [keyL_len _ _ hz8]; omega); have d4 := HN2.out.cell 4 (by rw [keyL_len _ _ hz8]; omega); have d5 := HN2.out.cell 5 (by rw [keyL_len _ _ hz8]; omega); have d6 := HN2.out.cell 6 (by rw [keyL_len _ _ hz8]; omega); have d7 := HN2.out.cell 7 (by rw [keyL_len _ _ hz8]; omega); have e0 := HR2.out.cell 0 (by simp [z8]); have g0 := HR2.out.frozen 0; have e1 := HR2.out.cell 1 (by simp [z8]); have g1 := HR2.out.frozen 1; have e2 := HR2.out.cell 2 (by simp [z8]); have g2 := HR2.out.frozen 2; have e3 := HR2.out.cell 3 (by simp [z8]); have g3 := HR2.out.frozen 3; have e4 := HR2.out.cell 4 (by simp [z8]); have g4 := HR2.out.frozen 4; have e5 := HR2.out.cell 5 (by simp [z8]); have g5 := HR2.out.frozen 5; have e6 := HR2.out.cell 6 (by simp [z8]); have g6 := HR2.out.frozen 6; have e7 := HR2.out.cell 7 (by simp [z8]); have g7 := HR2.out.frozen 7; simp only [z8, List.replicate, List.getElem?_cons_zero, List.getElem?_cons_succ, Option.getD_some] at e0 e1 e2 e3 e4 e5 e6 e7)
    obtain ⟨Wf, hWf, hF, hKf, hBf⟩ := store8 (keyL_len zs ps hz8) HR2.out
    rw [hWf]
    have hK1 : Wf.heap[D]? = some (.deferred (some [])) := hKf.same _ _ ((HG2.out.block D hDl (fun e => by injection e; omega)).trans HK.out) rfl
    refine ⟨by simp, .inl ⟨_, _, rfl, run_takeDeferred hK1, ?_⟩⟩
    have HF2 : Nums (Wf.putObj D (.deferred none)) R 57 (keyL zs ps) := (World.putObj_heap_other (by omega)).trans hF
    have r0 := HF2.cell 0 (by rw [keyL_len _ _ hz8]; omega)
    have r1 := HF2.cell 1 (by rw [keyL_len _ _ hz8]; omega)
    have r2 := HF2.cell 2 (by rw [keyL_len _ _ hz8]; omega)
    have r3 := HF2.cell 3 (by rw [keyL_len _ _ hz8]; omega)
    have r4 := HF2.cell 4 (by rw [keyL_len _ _ hz8]; omega)
    have r5 := HF2.cell 5 (by rw [keyL_len _ _ hz8]; omega)
    have r6 := HF2.cell 6 (by rw [keyL_len _ _ hz8]; omega)
    have r7 := HF2.cell 7 (by rw [keyL_len _ _ hz8]; omega)
    refine ⟨.agg (iv (keyL zs ps)), ?_, rfl, ?_⟩
    · rw [← iv8 (keyL_len zs ps hz8)]
      simp [results, Tryd.results91, go_sem, r0, r1, r2, r3, r4, r5, r6, r7]
    · have hb1 : Below w.heap.size w Wf := (HB0.out.trans (HB.out.mono (by omega))).trans (((Below.refl w.heap.size Wr).grown HG2.out (by omega) (fun j e => by cases e; omega)).trans (hBf _ hhR))
      exact hb1.trans (belowK_b (w := w) (Nat.le_refl _) Wf D _ _ (by have := HSO.out; omega) hK1 rfl rfl)
  case stop =>
    rintro D c pre W _ _ h _
    exact h.elim

end Go.Proofs.YtjclfpcnfmpjdaaDoor

/- It is proved what the method and of a naming returns; conditions: those of each statement. -/
namespace Go.Proofs.YtjclfpcnfmpjdaaDoor
open Go.RowKit Go.Shelf

set_option maxRecDepth 100000 in
set_option maxHeartbeats 2000000 in
theorem and_any (xs : List Int) (hl : xs.length = 13) (hm0 : (0 : Int) ≤ xs[6]?.getD 0) (hm1 : xs[6]?.getD 0 ≤ 1000000) (hc : ∀ i, 7 ≤ i → i < 13 → ∃ q : Nat, q < 64 ∧ xs[i]?.getD 0 = (q : Int))
    (a : Option Addr) (c : Nat) (ps : List Int) (hp : ps.length ≤ 6) (hp0 : 1 ≤ ps.length) (hpv : ∀ v, v < ps.length → ∃ q : Nat, q < 6 ∧ ps[v]?.getD 0 = (q : Int)) (w : World) (ha : Ints w w.heap.size a ps) :
    Calls Tryd.prog 95 #[.agg (iv xs), .slice a ps.length c] w fun e w' => e = .returned (.agg (iv (andL xs ps))) ∧ Below w.heap.size w w' := by
  obtain ⟨m, hm⟩ : ∃ m, m = xs[6]?.getD 0 := ⟨_, rfl⟩
  have h6 : (iv xs)[6]? = some (.int .i64 m) := by rw [hm]; exact iv_at xs 6 (by omega)
  obtain ⟨W3, hcp, hN3, hZ3, hB3⟩ := copy_first xs ps hl hp hp0 a c w ha
  have q0 := alloc2_0 w (.cells (iv xs) 78) (.cells z13 78)
  have q1 := alloc2_1 w (.cells (iv xs) 78) (.cells z13 78)
  have b2 := below2 w (.cells (iv xs) 78) (.cells z13 78)
  unfold z13 at hcp q0 q1 b2
  obtain ⟨n, hn⟩ : ∃ n, n = ps.length := ⟨_, rfl⟩
  have HN := Lib.hid hn
  have HA := Lib.hid ha
  have HC := Lib.hid hc
  have HPV := Lib.hid hpv
  have HL := Lib.hid hl
  have HM := Lib.hid hm
  rw [← hn] at hcp hp hp0 ⊢
  rw [← hm] at hm0 hm1
  have hm3 : m < 9223372036854775807 := by omega
  have HMM : Hid (IntKind.i64.wrap (m + 1) = m + 1) := Lib.hid (IntWalk.i64_in _ (by omega))
  by_cases hz : m = 0
  · have hF : Nums W3 w.heap.size 78 (andF xs ps) := by rw [andF, if_pos (by rw [← HM.out]; exact hz)]; exact hN3
    have hlf : (andF xs ps).length = 13 := by rw [andF_len (by omega), hl]
    have c6 := hF.cell 6 (by omega)
    have h6' : (andF xs ps)[6]?.getD 0 = 0 := by
      rw [andF, if_pos (by rw [← HM.out]; exact hz), List.getElem?_append_right (by omega), List.getElem?_drop, show ps.length + (6 - ps.length) = 6 from by omega, ← HM.out]; exact hz
    rw [h6'] at c6
    have f6 := hF.frozen 6
    have HG : Hid (Nums (W3.setCell ⟨w.heap.size, 6, none⟩ (.int .i64 1)) w.heap.size 78 (andC (andM xs ps) ps 0)) := Lib.hid (by
      have := hF.set 6 1
      rw [show andC (andM xs ps) ps 0 = (andF xs ps).set 6 1 from by rw [andC, andM, ← HM.out, hz]; rfl]
      exact this)
    have HZ1 : Hid (HasBlk (W3.setCell ⟨w.heap.size, 6, none⟩ (.int .i64 1)) (w.heap.size + 1) z13 78) := Lib.hid (HasBlk.far hZ3 (show w.heap.size + 1 ≠ w.heap.size by omega) _)
    have HB1 : Hid (Below w.heap.size w (W3.setCell ⟨w.heap.size, 6, none⟩ (.int .i64 1))) := Lib.hid (hB3.setCell (p := ⟨w.heap.size, 6, none⟩) (Nat.le_refl _) _)
    subst hz
    clear ha hc hpv hl hm hn q0 q1 b2 hN3 hZ3 hB3 hF hlf h6'
    go_enter Tryd.func95, Tryd.ntmps95
    go_wp2_with (at_builtin; refine Lib.wpList_copy_run _ rfl _ _ 23 23 rfl _ _ rfl rfl (hcp _) ?_)
    go_loopw [20] (fun i wr => ∃ k : Nat, k ≤ n ∧ i = .int .i64 (k : Int) ∧ Nums wr w.heap.size 78 (andC (andM xs ps) ps k) ∧ HasBlk wr (w.heap.size + 1) z13 78 ∧ Below w.heap.size w wr) (fun i _ => n - (intOf i).toNat)
    case atStart => exact ⟨0, Nat.zero_le _, rfl, HG.out, HZ1.out, HB1.out⟩
    case round =>
      obtain ⟨k, hk, rfl, hG, hZ, hB⟩ := hrel
      by_cases hlt : k < n
      · obtain ⟨b, off, rfl, hbb, hcc⟩ := HA.out.at_ (k := k) (by have := HN.out; omega)
        obtain ⟨q, hq6, hq⟩ := HPV.out k (by have := HN.out; omega)
        obtain ⟨x, hx64, hx⟩ := HC.out (7 + k) (by omega) (by omega)
        have c1 := (hB.cell (p := ⟨b, off + k, none⟩) hbb).trans hcc
        rw [hq] at c1
        have hl13 : (andC (andM xs ps) ps k).length = 13 := by rw [andC_len, andM_len (by have := HN.out; have := HL.out; omega), HL.out]
        have c2 := hG.cell (7 + k) (by omega)
        rw [andC_here (by have := HN.out; omega), hx] at c2
        have f2 := hG.frozen (7 + k)
        have HG2 : Hid (andC (andM xs ps) ps (k + 1) = (andC (andM xs ps) ps k).set (7 + k) (((x ||| 2 ^ q : Nat) : Int))) := Lib.hid (by rw [andC, andC_here (by have := HN.out; omega), hx, hq]; simp [orI])
        have hk0 : (0 : Int) ≤ (k : Int) := by omega
        have hk1 : (k : Int) < (n : Int) := by omega
        have hk6 : (k : Int) < 6 := by omega
        have HG0 := Lib.hid hG
        have HZ0 := Lib.hid hZ
        have HB0 := Lib.hid hB
        clear hG hZ hB hcc hq hx hl13
        go_wp2_with (go_at_call 90; refine (with_any x q (by omega) (by omega) _).mono ?_; rintro e w' ⟨rfl, rfl⟩)
        go_roundw
        case rel => exact ⟨k + 1, by omega, by go_num, by rw [HG2.out]; exact HG0.out.set _ _, HasBlk.far HZ0.out (show w.heap.size + 1 ≠ w.heap.size by omega) _, HB0.out.setCell (p := ⟨w.heap.size, 7 + k, none⟩) (Nat.le_refl _) _⟩
        case measure => simp [intOf]; omega
      · obtain rfl : k = n := by omega
        have HE : Hid (andC (andM xs ps) ps k = andL xs ps) := Lib.hid (by rw [andL, ← HN.out])
        rw [HE.out] at hG
        have hl13 : (andL xs ps).length = 13 := by rw [andL, andC_len, andM_len (by have := HN.out; have := HL.out; omega), HL.out]
        have HI := Lib.hid (iv13 hl13)
        have d0 := hG.cell 0 (by omega)
        have d1 := hG.cell 1 (by omega)
        have d2 := hG.cell 2 (by omega)
        have d3 := hG.cell 3 (by omega)
        have d4 := hG.cell 4 (by omega)
        have d5 := hG.cell 5 (by omega)
        have d6 := hG.cell 6 (by omega)
        have d7 := hG.cell 7 (by omega)
        have d8 := hG.cell 8 (by omega)
        have d9 := hG.cell 9 (by omega)
        have d10 := hG.cell 10 (by omega)
        have d11 := hG.cell 11 (by omega)
        have d12 := hG.cell 12 (by omega)
        have e0 : wr.cell? ⟨w.heap.size + 1, 0, none⟩ = some (.int .i64 0) := blk_cell hZ 0
        have g0 : wr.frozen? ⟨w.heap.size + 1, 0, none⟩ = false := blk_frozen hZ 0
        have e1 : wr.cell? ⟨w.heap.size + 1, 1, none⟩ = some (.int .i64 0) := blk_cell hZ 1
        have g1 : wr.frozen? ⟨w.heap.size + 1, 1, none⟩ = false := blk_frozen hZ 1
        have e2 : wr.cell? ⟨w.heap.size + 1, 2, none⟩ = some (.int .i64 0) := blk_cell hZ 2
        have g2 : wr.frozen? ⟨w.heap.size + 1, 2, none⟩ = false := blk_frozen hZ 2
        have e3 : wr.cell? ⟨w.heap.size + 1, 3, none⟩ = some (.int .i64 0) := blk_cell hZ 3
        have g3 : wr.frozen? ⟨w.heap.size + 1, 3, none⟩ = false := blk_frozen hZ 3
        have e4 : wr.cell? ⟨w.heap.size + 1, 4, none⟩ = some (.int .i64 0) := blk_cell hZ 4
        have g4 : wr.frozen? ⟨w.heap.size + 1, 4, none⟩ = false := blk_frozen hZ 4
        have e5 : wr.cell? ⟨w.heap.size + 1, 5, none⟩ = some (.int .i64 0) := blk_cell hZ 5
        have g5 : wr.frozen? ⟨w.heap.size + 1, 5, none⟩ = false := blk_frozen hZ 5
        have e6 : wr.cell? ⟨w.heap.size + 1, 6, none⟩ = some (.int .i64 0) := blk_cell hZ 6
        have g6 : wr.frozen? ⟨w.heap.size + 1, 6, none⟩ = false := blk_frozen hZ 6
        have e7 : wr.cell? ⟨w.heap.size + 1, 7, none⟩ = some (.int .i64 0) := blk_cell hZ 7
        have g7 : wr.frozen? ⟨w.heap.size + 1, 7, none⟩ = false := blk_frozen hZ 7
        have e8 : wr.cell? ⟨w.heap.size + 1, 8, none⟩ = some (.int .i64 0) := blk_cell hZ 8
        have g8 : wr.frozen? ⟨w.heap.size + 1, 8, none⟩ = false := blk_frozen hZ 8
        have e9 : wr.cell? ⟨w.heap.size + 1, 9, none⟩ = some (.int .i64 0) := blk_cell hZ 9
        have g9 : wr.frozen? ⟨w.heap.size + 1, 9, none⟩ = false := blk_frozen hZ 9
        have e10 : wr.cell? ⟨w.heap.size + 1, 10, none⟩ = some (.int .i64 0) := blk_cell hZ 10
        have g10 : wr.frozen? ⟨w.heap.size + 1, 10, none⟩ = false := blk_frozen hZ 10
        have e11 : wr.cell? ⟨w.heap.size + 1, 11, none⟩ = some (.int .i64 0) := blk_cell hZ 11
        have g11 : wr.frozen? ⟨w.heap.size + 1, 11, none⟩ = false := blk_frozen hZ 11
        have e12 : wr.cell? ⟨w.heap.size + 1, 12, none⟩ = some (.int .i64 0) := blk_cell hZ 12
        have g12 : wr.frozen? ⟨w.heap.size + 1, 12, none⟩ = false := blk_frozen hZ 12
        have HZ0 := Lib.hid hZ
        have HB0 := Lib.hid hB
        clear hG hZ hB hl13
        go_wp2
        refine bodyPost_ret (v := .agg (iv (andL xs ps))) ?_ rfl ?_
        · rw [← HI.out]
          simp [results, Tryd.results95, go_sem, e0, e1, e2, e3, e4, e5, e6, e7, e8, e9, e10, e11, e12]
        · have st : ∀ (W : World) (i : Nat) (v : Value), Below w.heap.size w W → Below w.heap.size w (W.setCell ⟨w.heap.size + 1, i, none⟩ v) := fun W i v h => h.setCell (p := ⟨w.heap.size + 1, i, none⟩) (Nat.le_succ _) v
          exact ⟨rfl, (st _ _ _ (st _ _ _ (st _ _ _ (st _ _ _ (st _ _ _ (st _ _ _ (st _ _ _ (st _ _ _ (st _ _ _ (st _ _ _ (st _ _ _ (st _ _ _ (st _ _ _ HB0.out)))))))))))))⟩
  · have hF : andF xs ps = xs := by rw [andF, if_neg (by rw [← HM.out]; exact hz)]
    have HG : Hid (Nums ((w.alloc (.cells ((iv xs).setIfInBounds 6 (.int .i64 (m + 1))) 78)).alloc (.cells #[Value.int IntKind.i64 0, Value.int IntKind.i64 0, Value.int IntKind.i64 0, Value.int IntKind.i64 0, Value.int IntKind.i64 0, Value.int IntKind.i64 0, Value.int IntKind.i64 0, Value.int IntKind.i64 0, Value.int IntKind.i64 0, Value.int IntKind.i64 0, Value.int IntKind.i64 0, Value.int IntKind.i64 0, Value.int IntKind.i64 0] 78)) w.heap.size 78 (andC (andM xs ps) ps 0)) := Lib.hid (by
      have := alloc2_0 w (.cells ((iv xs).setIfInBounds 6 (.int .i64 (m + 1))) 78) (.cells #[Value.int IntKind.i64 0, Value.int IntKind.i64 0, Value.int IntKind.i64 0, Value.int IntKind.i64 0, Value.int IntKind.i64 0, Value.int IntKind.i64 0, Value.int IntKind.i64 0, Value.int IntKind.i64 0, Value.int IntKind.i64 0, Value.int IntKind.i64 0, Value.int IntKind.i64 0, Value.int IntKind.i64 0, Value.int IntKind.i64 0] 78)
      rw [show andC (andM xs ps) ps 0 = xs.set 6 (m + 1) from by rw [andC, andM, ← HM.out, hF]]
      unfold Nums HasBlk
      rw [this]
      simp [iv, List.map_set])
    have HZ1 : Hid (HasBlk ((w.alloc (.cells ((iv xs).setIfInBounds 6 (.int .i64 (m + 1))) 78)).alloc (.cells #[Value.int IntKind.i64 0, Value.int IntKind.i64 0, Value.int IntKind.i64 0, Value.int IntKind.i64 0, Value.int IntKind.i64 0, Value.int IntKind.i64 0, Value.int IntKind.i64 0, Value.int IntKind.i64 0, Value.int IntKind.i64 0, Value.int IntKind.i64 0, Value.int IntKind.i64 0, Value.int IntKind.i64 0, Value.int IntKind.i64 0] 78)) (w.heap.size + 1) z13 78) := Lib.hid (alloc2_1 w (.cells ((iv xs).setIfInBounds 6 (.int .i64 (m + 1))) 78) (.cells #[Value.int IntKind.i64 0, Value.int IntKind.i64 0, Value.int IntKind.i64 0, Value.int IntKind.i64 0, Value.int IntKind.i64 0, Value.int IntKind.i64 0, Value.int IntKind.i64 0, Value.int IntKind.i64 0, Value.int IntKind.i64 0, Value.int IntKind.i64 0, Value.int IntKind.i64 0, Value.int IntKind.i64 0, Value.int IntKind.i64 0] 78))
    have HB1 := Lib.hid (below2 w (.cells ((iv xs).setIfInBounds 6 (.int .i64 (m + 1))) 78) (.cells #[Value.int IntKind.i64 0, Value.int IntKind.i64 0, Value.int IntKind.i64 0, Value.int IntKind.i64 0, Value.int IntKind.i64 0, Value.int IntKind.i64 0, Value.int IntKind.i64 0, Value.int IntKind.i64 0, Value.int IntKind.i64 0, Value.int IntKind.i64 0, Value.int IntKind.i64 0, Value.int IntKind.i64 0, Value.int IntKind.i64 0] 78))
    have hz' : (m == 0) = false := by simp [hz]
    clear ha hc hpv hl hm hn q0 q1 b2 hN3 hZ3 hB3 hF hcp
    go_enter Tryd.func95, Tryd.ntmps95
    go_wp2
    go_loopw [20] (fun i wr => ∃ k : Nat, k ≤ n ∧ i = .int .i64 (k : Int) ∧ Nums wr w.heap.size 78 (andC (andM xs ps) ps k) ∧ HasBlk wr (w.heap.size + 1) z13 78 ∧ Below w.heap.size w wr) (fun i _ => n - (intOf i).toNat)
    case atStart => exact ⟨0, Nat.zero_le _, rfl, HG.out, HZ1.out, HB1.out⟩
    case round =>
      obtain ⟨k, hk, rfl, hG, hZ, hB⟩ := hrel
      by_cases hlt : k < n
      · obtain ⟨b, off, rfl, hbb, hcc⟩ := HA.out.at_ (k := k) (by have := HN.out; omega)
        obtain ⟨q, hq6, hq⟩ := HPV.out k (by have := HN.out; omega)
        obtain ⟨x, hx64, hx⟩ := HC.out (7 + k) (by omega) (by omega)
        have c1 := (hB.cell (p := ⟨b, off + k, none⟩) hbb).trans hcc
        rw [hq] at c1
        have hl13 : (andC (andM xs ps) ps k).length = 13 := by rw [andC_len, andM_len (by have := HN.out; have := HL.out; omega), HL.out]
        have c2 := hG.cell (7 + k) (by omega)
        rw [andC_here (by have := HN.out; omega), hx] at c2
        have f2 := hG.frozen (7 + k)
        have HG2 : Hid (andC (andM xs ps) ps (k + 1) = (andC (andM xs ps) ps k).set (7 + k) (((x ||| 2 ^ q : Nat) : Int))) := Lib.hid (by rw [andC, andC_here (by have := HN.out; omega), hx, hq]; simp [orI])
        have hk0 : (0 : Int) ≤ (k : Int) := by omega
        have hk1 : (k : Int) < (n : Int) := by omega
        have hk6 : (k : Int) < 6 := by omega
        have HG0 := Lib.hid hG
        have HZ0 := Lib.hid hZ
        have HB0 := Lib.hid hB
        clear hG hZ hB hcc hq hx hl13
        go_wp2_with (go_at_call 90; refine (with_any x q (by omega) (by omega) _).mono ?_; rintro e w' ⟨rfl, rfl⟩)
        go_roundw
        case rel => exact ⟨k + 1, by omega, by go_num, by rw [HG2.out]; exact HG0.out.set _ _, HasBlk.far HZ0.out (show w.heap.size + 1 ≠ w.heap.size by omega) _, HB0.out.setCell (p := ⟨w.heap.size, 7 + k, none⟩) (Nat.le_refl _) _⟩
        case measure => simp [intOf]; omega
      · obtain rfl : k = n := by omega
        have HE : Hid (andC (andM xs ps) ps k = andL xs ps) := Lib.hid (by rw [andL, ← HN.out])
        rw [HE.out] at hG
        have hl13 : (andL xs ps).length = 13 := by rw [andL, andC_len, andM_len (by have := HN.out; have := HL.out; omega), HL.out]
        have HI := Lib.hid (iv13 hl13)
        have d0 := hG.cell 0 (by omega)
        have d1 := hG.cell 1 (by omega)
        have d2 := hG.cell 2 (by omega)
        have d3 := hG.cell 3 (by omega)
        have d4 := hG.cell 4 (by omega)
        have d5 := hG.cell 5 (by omega)
        have d6 := hG.cell 6 (by omega)
        have d7 := hG.cell 7 (by omega)
        have d8 := hG.cell 8 (by omega)
        have d9 := hG.cell 9 (by omega)
        have d10 := hG.cell 10 (by omega)
        have d11 := hG.cell 11 (by omega)
        have d12 := hG.cell 12 (by omega)
        have e0 : wr.cell? ⟨w.heap.size + 1, 0, none⟩ = some (.int .i64 0) := blk_cell hZ 0
        have g0 : wr.frozen? ⟨w.heap.size + 1, 0, none⟩ = false := blk_frozen hZ 0
        have e1 : wr.cell? ⟨w.heap.size + 1, 1, none⟩ = some (.int .i64 0) := blk_cell hZ 1
        have g1 : wr.frozen? ⟨w.heap.size + 1, 1, none⟩ = false := blk_frozen hZ 1
        have e2 : wr.cell? ⟨w.heap.size + 1, 2, none⟩ = some (.int .i64 0) := blk_cell hZ 2
        have g2 : wr.frozen? ⟨w.heap.size + 1, 2, none⟩ = false := blk_frozen hZ 2
        have e3 : wr.cell? ⟨w.heap.size + 1, 3, none⟩ = some (.int .i64 0) := blk_cell hZ 3
        have g3 : wr.frozen? ⟨w.heap.size + 1, 3, none⟩ = false := blk_frozen hZ 3
        have e4 : wr.cell? ⟨w.heap.size + 1, 4, none⟩ = some (.int .i64 0) := blk_cell hZ 4
        have g4 : wr.frozen? ⟨w.heap.size + 1, 4, none⟩ = false := blk_frozen hZ 4
        have e5 : wr.cell? ⟨w.heap.size + 1, 5, none⟩ = some (.int .i64 0) := blk_cell hZ 5
        have g5 : wr.frozen? ⟨w.heap.size + 1, 5, none⟩ = false := blk_frozen hZ 5
        have e6 : wr.cell? ⟨w.heap.size + 1, 6, none⟩ = some (.int .i64 0) := blk_cell hZ 6
        have g6 : wr.frozen? ⟨w.heap.size + 1, 6, none⟩ = false := blk_frozen hZ 6
        have e7 : wr.cell? ⟨w.heap.size + 1, 7, none⟩ = some (.int .i64 0) := blk_cell hZ 7
        have g7 : wr.frozen? ⟨w.heap.size + 1, 7, none⟩ = false := blk_frozen hZ 7
        have e8 : wr.cell? ⟨w.heap.size + 1, 8, none⟩ = some (.int .i64 0) := blk_cell hZ 8
        have g8 : wr.frozen? ⟨w.heap.size + 1, 8, none⟩ = false := blk_frozen hZ 8
        have e9 : wr.cell? ⟨w.heap.size + 1, 9, none⟩ = some (.int .i64 0) := blk_cell hZ 9
        have g9 : wr.frozen? ⟨w.heap.size + 1, 9, none⟩ = false := blk_frozen hZ 9
        have e10 : wr.cell? ⟨w.heap.size + 1, 10, none⟩ = some (.int .i64 0) := blk_cell hZ 10
        have g10 : wr.frozen? ⟨w.heap.size + 1, 10, none⟩ = false := blk_frozen hZ 10
        have e11 : wr.cell? ⟨w.heap.size + 1, 11, none⟩ = some (.int .i64 0) := blk_cell hZ 11
        have g11 : wr.frozen? ⟨w.heap.size + 1, 11, none⟩ = false := blk_frozen hZ 11
        have e12 : wr.cell? ⟨w.heap.size + 1, 12, none⟩ = some (.int .i64 0) := blk_cell hZ 12
        have g12 : wr.frozen? ⟨w.heap.size + 1, 12, none⟩ = false := blk_frozen hZ 12
        have HZ0 := Lib.hid hZ
        have HB0 := Lib.hid hB
        clear hG hZ hB hl13
        go_wp2
        refine bodyPost_ret (v := .agg (iv (andL xs ps))) ?_ rfl ?_
        · rw [← HI.out]
          simp [results, Tryd.results95, go_sem, e0, e1, e2, e3, e4, e5, e6, e7, e8, e9, e10, e11, e12]
        · have st : ∀ (W : World) (i : Nat) (v : Value), Below w.heap.size w W → Below w.heap.size w (W.setCell ⟨w.heap.size + 1, i, none⟩ v) := fun W i v h => h.setCell (p := ⟨w.heap.size + 1, i, none⟩) (Nat.le_succ _) v
          exact ⟨rfl, (st _ _ _ (st _ _ _ (st _ _ _ (st _ _ _ (st _ _ _ (st _ _ _ (st _ _ _ (st _ _ _ (st _ _ _ (st _ _ _ (st _ _ _ (st _ _ _ (st _ _ _ HB0.out)))))))))))))⟩

end Go.Proofs.YtjclfpcnfmpjdaaDoor

/- It is proved that a region that draws its order may be walked one operation at a time where what each operation gives does not hang on the order; conditions: those of each statement. -/
namespace Go
section
variable {F : Fence} {n : Nat} {P : Program} {ops : Array Oper} {Q : Exit → Act → World → Prop} {md : Region.Mode}

/-- Q, but K where nothing jumps. -/
def UponK (K : Act → World → Prop) (Q : Exit → Act → World → Prop) : Exit → Act → World → Prop
  | .normal, a, w => K a w
  | .ret, a, w => Q .ret a w
  | .exit i, a, w => Q (.exit i) a w
  | .goto t, a, w => Q (.goto t) a w
  | .panic c, a, w => Q (.panic c) a w
  | .outgrown, a, w => Q .outgrown a w

theorem Oper.wpIn_uponK {o : Oper} {a : Act} {w : World} {K K' : Act → World → Prop} (hh : o.wpIn F n P a w K (UponK K' Q)) : o.wpIn F n P a w K Q := by
  unfold Oper.wpIn at *
  refine ⟨hh.1, ?_⟩
  have hh := hh.2
  generalize (o.semAt F.round a.eval).run P w = r at *
  cases r with
  | ok x w' =>
    cases x <;> simp only [Oper.uponIn] at hh ⊢ <;>
      first
        | exact hh
        | exact ⟨hh.1, CallsIn.mono hh.2 (fun e w'' he => by cases e <;> exact he)⟩
        | exact ⟨hh.1, RoundIn.mono hh.2 (fun e w'' he => by cases e <;> exact he)⟩
  | halt x w' => cases x <;> simp only [Oper.uponIn] at hh ⊢ <;> exact hh

theorem wpOpIn_of_list {i : Nat} {o : Oper} {a : Act} {w : World} {K : Act → World → Prop} (ho : ops[i]? = some o) (h : wpListIn F n P ops (UponK K Q) [o] a w) : wpOpIn F n P ops Q i K a w := by
  unfold wpOpIn
  simp only [ho]
  unfold wpListIn at h
  split
  · rename_i hw; simp only [hw, if_true] at h; exact Oper.wpIn_uponK h
  · rename_i hw; simp only [hw] at h; exact h

def masks : Nat → List (List Bool)
  | 0 => [[]]
  | k + 1 => (masks k).flatMap fun m => [false :: m, true :: m]

theorem mem_masks : ∀ l : List Bool, l ∈ masks l.length
  | [] => by simp [masks]
  | b :: l => by
    simp only [List.length_cons, masks, List.mem_flatMap]
    exact ⟨l, mem_masks l, by cases b <;> simp⟩

/-- Where no operation may come next, all have come. -/
def Region.endsB (md : Region.Mode) (ops : Array Oper) : Bool := (masks ops.size).all fun l => !(Region.ready md ops l.toArray).isEmpty || l.all id

theorem count_set : ∀ (l : List Bool) (i : Nat), l[i]? = some false → (l.set i true).count false + 1 = l.count false
  | [], i, h => by simp at h
  | b :: l, 0, h => by simp at h; subst h; simp
  | b :: l, i + 1, h => by
    have := count_set l i (by simpa using h)
    cases b <;> simp [List.count_cons] <;> omega

theorem wpAnyIn_held {A : Array Bool → Act} {S : Array Bool → World → Prop} (hends : Region.endsB md ops = true)
    (hstep : ∀ listed w i, listed.size = ops.size → i ∈ Region.ready md ops listed → S listed w → wpOpIn F n P ops Q i (fun a' w' => a' = A (listed.setIfInBounds i true) ∧ S (listed.setIfInBounds i true) w') (A listed) w)
    (hend : ∀ listed w, listed.size = ops.size → (listed.toList.all id) = true → S listed w → Q .normal (A listed) w) :
    ∀ fuel listed w, listed.size = ops.size → listed.toList.count false ≤ fuel → S listed w → wpAnyIn F n P md ops Q fuel listed (A listed) w
  | 0, listed, w, hs, hc, hS => by
    have hall : listed.toList.all id = true := by
      rw [List.all_eq_true]
      intro x hx
      cases x
      · have := List.count_pos_iff.2 hx; omega
      · rfl
    refine ⟨?_, hend listed w hs hall hS⟩
    unfold Region.ready
    rw [List.filter_eq_nil_iff]
    intro i hi
    rw [List.mem_range] at hi
    have hi' : i < listed.size := by omega
    have : listed.getD i true = true := by
      have h1 := List.all_eq_true.1 hall listed[i] (by simp)
      simp only [id] at h1
      simp [Array.getD, hi', h1]
    simp [this]
  | fuel + 1, listed, w, hs, hc, hS => by
    refine ⟨fun h0 => hend listed w hs ?_ hS, fun i hi => ?_⟩
    · have h1 := List.all_eq_true.1 hends listed.toList (by have := mem_masks listed.toList; rwa [Array.length_toList, hs] at this)
      simpa [h0] using h1
    · refine wpOpIn_mono ?_ (hstep listed w i hs hi hS)
      rintro a' w' ⟨rfl, hS'⟩
      refine wpAnyIn_held hends hstep hend fuel _ w' (by simpa using hs) ?_ hS'
      have hu : listed.toList[i]? = some false := by
        unfold Region.ready at hi
        rw [List.mem_filter, Bool.and_eq_true, List.mem_range] at hi
        have hi' : i < listed.size := by omega
        have := hi.2.1
        simp [Array.getD, hi'] at this
        simp [hi', this]
      have := count_set listed.toList i hu
      simp only [Array.toList_setIfInBounds]
      omega

theorem wpIn_region_held {A : Array Bool → Act} {S : Array Bool → World → Prop} {id' : Nat} {a : Act} {w : World} (hm : P.follows .mixedOrders = true) (hends : Region.endsB .any ops = true)
    (ha : A (Array.replicate ops.size false) = a) (hS : S (Array.replicate ops.size false) { w with drawn := w.drawn + 1 })
    (hstep : ∀ listed w i, listed.size = ops.size → i ∈ Region.ready .any ops listed → S listed w → wpOpIn F n P ops Q i (fun a' w' => a' = A (listed.setIfInBounds i true) ∧ S (listed.setIfInBounds i true) w') (A listed) w)
    (hend : ∀ listed w, listed.size = ops.size → (listed.toList.all id) = true → S listed w → Q .normal (A listed) w) : (Code.region id' ops true).wpIn F n P Q a w := by
  subst ha
  exact wpIn_region_any hm (wpAnyIn_held hends hstep hend ops.size _ _ (by simp) (by simp) hS)

end
end Go

/- It is proved what the method ask leaves in its map; conditions: those of each statement. -/
namespace Go.Proofs.YtjclfpcnfmpjdaaDoor
open Go.RowKit Go.Shelf Go.Maps

attribute [local go_sem] Oper.semAt_some

theorem arr8 (x : Array Bool) (h : x.size = 8) : ∃ l0 l1 l2 l3 l4 l5 l6 l7 : Bool, x = #[l0, l1, l2, l3, l4, l5, l6, l7] := by
  obtain ⟨l⟩ := x
  match l, h with
  | [l0, l1, l2, l3, l4, l5, l6, l7], _ => exact ⟨_, _, _, _, _, _, _, _, rfl⟩

theorem zeroNm (w : World) : (zeroValue 78).run Tryd.prog w = .ok (.agg (iv zero13)) w := by kernel_rfl
theorem wpListIn_lookup_row {F : Fence} {nF : Nat} (w : World) {ops : Array Oper} {rest : List Oper} {o : Oper} {a : Act} {Q : Exit → Act → World → Prop}
    (hg : o.guard = none) (mm x : Operand) (hop : o.op = Op.lookup 55 mm x false) (b n : Nat) (D : DataW Unit)
    (hm : a.eval mm = .map (some b)) (hown : OwnT w b n D) (key : Value) (lk : Lit) (hx : a.eval x = key) (hkey : keyOf Tryd.prog 57 key = some lk) (L : List Int) (hat : D.atKey lk (intsD zero13) = intsD L)
    (hK : wpListIn F nF Tryd.prog ops Q rest (a.put o.dst (.agg (iv L))) w) : wpListIn F nF Tryd.prog ops Q (o :: rest) a w := by
  refine wpListIn_plain hg fun K' hK' => ?_
  obtain ⟨v, ps, hrun, hv⟩ := hown.lookup keyLaw Tryd.underlying55 (zeroNm w) (rowR_mk zero13) hkey
  rw [hat] at hv
  obtain rfl := rowR_inv hv
  unfold Oper.wpIn
  refine ⟨by simp [Oper.about, hop], ?_⟩
  rw [Oper.semAt_plain F _ _ (by rw [hop]; intro c hc'; cases hc')]
  simp [execOp, hop, hm, hx, hrun, Result.andThen]
  exact hK' _ _ hK

/-- Before the map is written. -/
structure PreA (W W' : World) (h Mb b n m : Nat) (pa : Option Addr) (p : List Nat) (K : Array Value) (D : DataW Unit) : Prop where
  k : HasBlk W' h #[.map (some b)] 55
  q : HasBlk W' Mb K 57
  i : Ints W' W'.heap.size pa (nI p)
  o : OwnT W' b n D
  t : But (fun k => k = b) W W'

/-- Behind it. -/
structure PostA (W W' : World) (b n : Nat) (D : DataW Unit) : Prop where
  o : OwnT W' b n D
  t : But (fun k => k = b) W W'

theorem PreA.below {W W' W2 : World} {h Mb b n m : Nat} {pa : Option Addr} {p : List Nat} {K : Array Value} {D : DataW Unit} (P : PreA W W' h Mb b n m pa p K D) (hb : Below W'.heap.size W' W2) : PreA W W2 h Mb b n m pa p K D :=
  ⟨(hb.block _ (lt_of_some P.k)).trans P.k, (hb.block _ (lt_of_some P.q)).trans P.q, (P.i.below hb).mono hb.size, P.o.but (But.of_below (X := fun _ => False) hb) (fun h => h), P.t.trans (But.of_below hb)⟩

theorem ints_putObj {A : World} {B l : Nat} {o : Obj} {a : Option Addr} {zs : List Int} (h : Ints A B a zs) (hl : ∃ o', A.heap[l]? = some o' ∧ o'.isCells = false) : Ints (A.putObj l o) B a zs := by
  rcases h with h | ⟨g, off, e, hg, hc⟩
  · exact .inl h
  · by_cases hz : zs = []
    · exact .inl hz
    · refine .inr ⟨g, off, e, hg, fun j hj => ?_⟩
      have hne : g ≠ l := by
        rintro rfl
        obtain ⟨o', ho, hn⟩ := hl
        have := hc 0 (List.length_pos_iff.2 hz)
        cases o' <;> simp [World.cell?, ho] at this
        cases hn
      exact (World.cell?_of_block (a := ⟨g, off + j, none⟩) (World.putObj_heap_other hne)).trans (hc j hj)

set_option maxRecDepth 100000 in
set_option maxHeartbeats 8000000 in
theorem ask_any (m : Nat) (hm0 : 1 ≤ m) (hm : m ≤ 6) (a : Option Addr) (c : Nat) (zs : List Int) (w : World) (ha : Ints w w.heap.size a zs) (hT : Tab w) (hf : famIn (m : Int) zs = true) (b n0 : Nat) (D0 : DataW Unit) (hb1 : 1 < b) (hown : OwnT w b n0 D0) :
    Calls Tryd.prog 76 #[.map (some b), .agg #[.int .i64 (m : Int), .slice a zs.length c]] w fun e w' => e = .returned (.tuple #[]) ∧
      (∃ n D, OwnT w' b n D ∧ TabD zs D (permsL m (List.range m))) ∧ But (fun k => k = b) w w' := by
  have hbw : b < w.heap.size := hown.lt
  obtain ⟨hm1, hm6, hl8, hz4⟩ := famIn_out hf
  have hown2 : OwnT ((w.alloc (.cells #[.map (some b)] 55)).alloc (.cells #[.int .i64 (m : Int), .slice a zs.length c] 25)) b n0 D0 := (hown.alloc _).alloc _
  obtain ⟨W3, hcl, hown3, hg3⟩ := clear_own hown2
  have hb3 : But (fun k => k = b) w W3 := ((But.alloc _ _).trans (But.alloc _ _)).trans (But.of_grownBy hg3 (fun r e _ => by injection e with e; exact e.symm))
  have q0 : HasBlk W3 w.heap.size #[.map (some b)] 55 := (hg3.block w.heap.size (by simp; omega) (fun e => by injection e; omega)).trans (alloc2_0 w _ _)
  have q1 : HasBlk W3 (w.heap.size + 1) #[.int .i64 (m : Int), .slice a zs.length c] 25 := (hg3.block (w.heap.size + 1) (by simp) (fun e => by injection e; omega)).trans (alloc2_1 w _ _)
  have hs3 : w.heap.size + 2 ≤ W3.heap.size := by have := hg3.size; simpa using this
  obtain ⟨n, hn⟩ : ∃ n, n = zs.length := ⟨_, rfl⟩
  have HN := Lib.hid hn
  have HI := Lib.hid ha
  have HT := Lib.hid hT
  have HF := Lib.hid hf
  have hx : n ≤ 8 := by omega
  have hz8 : zs.length ≤ 8 := by omega
  have HZ : Hid (∀ z ∈ zs, z.toNat < 2 ^ m) := Lib.hid (fun z hz => by
    have h1 := hz4 z hz
    have h2 : ((2 ^ m : Nat) : Int) = (2 : Int) ^ m := by simp
    have h3 : fullI (m : Int) = ((2 ^ m - 1 : Nat) : Int) := full_nat m
    have h4 : 1 ≤ 2 ^ m := Nat.one_le_two_pow
    omega)
  rw [← hn] at hcl q1 ⊢
  have c0 := (blk_cell q0 0).trans (cell1_0 _)
  have c1a := (blk_cell q1 0).trans (cell2_0 _ _)
  have c1b := (blk_cell q1 1).trans (cell2_1 _ _)
  have Q0 := Lib.hid q0
  have Q1 := Lib.hid q1
  have HB3 := Lib.hid hb3
  have HO3 := Lib.hid hown3
  have HS3 := Lib.hid hs3
  have HMB := Lib.hid hown.blk
  have hmx : Tryd.prog.follows .mixedOrders = true := by kernel_rfl
  clear ha hT hf hn hz4 hown2 hg3 q0 q1 hb3 hown3 hown
  refine (callsIn_wide (n := 6)).1 ?_
  refine callsIn_of_wp_marks Tryd.func76 rfl trivial ?_ rfl
  simp only [Tryd.ntmps76, List.size_toArray, List.length_cons, List.length_nil, Nat.reduceAdd, Nat.reduceSub, Array.replicate_succ, Array.replicate_zero, List.push_toArray, List.append_toArray, List.nil_append, List.cons_append]
  gi_wp2_with (refine ⟨trivial, ?_⟩; gi_at_call 94; refine (callsIn_wide.2 (allNames_any _ _)).mono ?_; rintro e w' ⟨rfl, rfl⟩)
  obtain ⟨Bm, hBm⟩ : ∃ Bm, Bm = W3.heap.size := ⟨_, rfl⟩
  have hc4 : (W3.alloc (.cells #[.int .i64 (m : Int)] 3)).cell? ⟨Bm, 0, none⟩ = some (.int .i64 (m : Int)) := by rw [hBm]; exact (blk_cell (alloc_new _ _) 0).trans (cell1_0 _)
  have hO4 : OwnT (W3.alloc (.cells #[.int .i64 (m : Int)] 3)) b 0 (.map []) := HO3.out.alloc _
  have hB4 := HB3.out.trans (But.alloc W3 (.cells #[.int .i64 (m : Int)] 3))
  have hQ0 : HasBlk (W3.alloc (.cells #[.int .i64 (m : Int)] 3)) w.heap.size #[.map (some b)] 55 := HasBlk.alloc Q0.out _
  have hQ1 : HasBlk (W3.alloc (.cells #[.int .i64 (m : Int)] 3)) (w.heap.size + 1) #[.int .i64 (m : Int), .slice a n c] 25 := HasBlk.alloc Q1.out _
  have hs4 : (W3.alloc (.cells #[.int .i64 (m : Int)] 3)).heap.size = Bm + 1 := by rw [hBm]; simp
  obtain ⟨W4, hW4⟩ : ∃ W4, W3.alloc (.cells #[.int .i64 (m : Int)] 3) = W4 := ⟨_, rfl⟩
  rw [← hBm]
  rw [hW4] at hc4 hO4 hB4 hQ0 hQ1 hs4 ⊢
  have hT4 : Tab W4 := tab_but HT.out hB4 (fun k e => by omega)
  have hwB : w.heap.size + 1 < Bm := by have := HS3.out; omega
  have Q0 := Lib.hid hQ0
  have Q1 := Lib.hid hQ1
  have HB4 := Lib.hid hB4
  have HO4 := Lib.hid hO4
  have HSO := Lib.hid hs4
  have HT4 := Lib.hid hT4
  clear c0 c1a c1b hcl hW4 hBm hO4 hB4 hQ0 hQ1
  refine wpIn_rangeFunc_cells (n := 6) (by omega) (gf := 105) (lb := #[.pointer (some ⟨Bm, 0, none⟩)]) rfl (enters_of Tryd.func105 (by kernel_rfl) rfl)
    (allNames1_in m b (6 - 1) hm0 hm hb1 Bm W4 (by omega) hc4 hT4) (Below.refl _ _) (by omega) (fun _ => rfl)
    (fun x A l o h hl => ⟨h.1, by obtain ⟨a', c', e, hi⟩ := h.2; exact ⟨a', c', e, by simpa using ints_putObj hi hl⟩⟩)
    (fun xs W => (∃ D, OwnT W b xs.length D ∧ TabD zs D (xs.map (·.2))) ∧ (∀ x ∈ xs, x.2.length = m ∧ ∀ v ∈ x.2, v < m) ∧ But (fun k => k = b) W4 W)
    ?own ⟨⟨_, HO4.out, tab_nil zs⟩, by simp, But.refl _ _⟩
    (fun x => { tmps := #[.map (some b), .agg #[.int .i64 (m : Int), .slice a n c], .pointer (some ⟨w.heap.size, 0, none⟩), .pointer (some ⟨w.heap.size + 1, 0, none⟩), x.1, undef, .map (some b), .pointer (some ⟨w.heap.size + 1, 0, none⟩), .int .i64 (m : Int), .func (.func 105) #[] #[.pointer (some ⟨Bm, 0, none⟩)], x.1, undef, undef, undef, undef, undef, undef, undef, undef, undef, undef], defers := [] }) ?assign ?body ?done
  case own =>
    rintro xs A C row ⟨⟨D, hO, hTd⟩, hall, hB⟩ hg hr
    have hs := HSO.out
    refine ⟨⟨D, hO.kept hg (fun e => by have := hr b e.symm; omega), hTd⟩, hall, ?_⟩
    exact ⟨hg.os.trans hB.os, hg.tape.trans hB.tape, hg.output.trans hB.output, Nat.le_trans hB.size hg.size, fun i hi hX => (hg.block i (Nat.lt_of_lt_of_le hi hB.size) (fun e => by have := hr i e.symm; omega)).trans (hB.same i hi hX)⟩
  case assign =>
    intro l x W K hK
    gi_wp2
    exact hK
  case body =>
    rintro l xs x W ⟨⟨D, hO, hTd⟩, hall, hB⟩ hok hlen
    obtain ⟨v, p⟩ := x
    obtain ⟨⟨hpl, hpv⟩, pa, pc, hv, hpi⟩ := hok
    simp only at hpl hpv hv hpi
    subst hv
    have hokp : Okp m (nI p) := okp_nI hm hpl hpv
    have hnm : NamesOk (nI p) := namesOk_nI hm0 hm hpl hpv
    have hpm : (nI p).length = m := by rw [nI_len, hpl]
    have hwk : WfK (keyL zs (nI p)) := wfK_key hm hz8 HZ.out hokp
    have hks := keyL_len zs (nI p) hz8
    have hWs : W4.heap.size ≤ W.heap.size := hB.size
    have hiW : Ints W W.heap.size a zs := (ints_but (ints_but HI.out (Nat.le_refl _) HB4.out HMB.out) (by have := HB4.out.size; omega) hB (by obtain ⟨es, clk, h⟩ := HO4.out.blk; exact ⟨es, clk, h⟩)).mono (by have := HSO.out; omega)
    have hTW : Tab W := tab_but HT4.out hB (fun k e => by omega)
    have HLB := listBy_any m a c zs pa pc (nI p) hokp W hiW hpi hTW HF.out
    rw [← HN.out, hpm] at HLB
    have x0 := (blk_cell (show HasBlk W (w.heap.size + 1) #[.int .i64 (m : Int), .slice a n c] 25 from hB.keep (by omega) Q1.out) 0).trans (cell2_0 _ _)
    have x1 := (blk_cell (show HasBlk W (w.heap.size + 1) #[.int .i64 (m : Int), .slice a n c] 25 from hB.keep (by omega) Q1.out) 1).trans (cell2_1 _ _)
    have hq0 : HasBlk W w.heap.size #[.map (some b)] 55 := hB.keep (by omega) Q0.out
    have hbW : b < W.heap.size := by omega
    have hwW : w.heap.size + 1 < W.heap.size := by have := HSO.out; omega
    have HO := Lib.hid hO
    have HTD := Lib.hid hTd
    have HALL := Lib.hid hall
    have HB := Lib.hid hB
    have HPI := Lib.hid hpi
    have HQ0 := Lib.hid hq0
    obtain ⟨y0, y1, y2, y3, y4, y5, y6, y7, hy⟩ : ∃ y0 y1 y2 y3 y4 y5 y6 y7 : Int, keyL zs (nI p) = [y0, y1, y2, y3, y4, y5, y6, y7] := by
      generalize keyL zs (nI p) = L at hks
      match L, hks with
      | [y0, y1, y2, y3, y4, y5, y6, y7], _ => exact ⟨_, _, _, _, _, _, _, _, rfl⟩
    have HIV : Hid (iv (keyL zs (nI p)) = #[.int .i64 y0, .int .i64 y1, .int .i64 y2, .int .i64 y3, .int .i64 y4, .int .i64 y5, .int .i64 y6, .int .i64 y7]) := Lib.hid (by rw [hy]; rfl)
    have HPL := Lib.hid hpl
    rw [hpl]
    clear hO hTd hall hB hpi hokp hiW hTW hq0 hpl hks hy
    gi_wp2_with (refine ⟨trivial, ?_⟩; gi_at_call 91; refine (CallsIn.inRound l (callsIn_wide.2 HLB)).mono ?_; rw [HIV.out]; rintro e w5 ⟨rfl, hb5⟩)
    have hb6 : Below W.heap.size W (w5.alloc (.cells #[.int .i64 y0, .int .i64 y1, .int .i64 y2, .int .i64 y3, .int .i64 y4, .int .i64 y5, .int .i64 y6, .int .i64 y7] 57)) := hb5.alloc hb5.size _
    have hq6 := alloc_new w5 (.cells #[.int .i64 y0, .int .i64 y1, .int .i64 y2, .int .i64 y3, .int .i64 y4, .int .i64 y5, .int .i64 y6, .int .i64 y7] 57)
    have hsz6 : (w5.alloc (.cells #[.int .i64 y0, .int .i64 y1, .int .i64 y2, .int .i64 y3, .int .i64 y4, .int .i64 y5, .int .i64 y6, .int .i64 y7] 57)).heap.size = w5.heap.size + 1 := by simp
    obtain ⟨W6, hW6⟩ : ∃ W6, w5.alloc (.cells #[.int .i64 y0, .int .i64 y1, .int .i64 y2, .int .i64 y3, .int .i64 y4, .int .i64 y5, .int .i64 y6, .int .i64 y7] 57) = W6 := ⟨_, rfl⟩
    rw [hW6] at hb6 hq6 hsz6 ⊢
    obtain ⟨Mb, hMb⟩ : ∃ Mb, Mb = w5.heap.size := ⟨_, rfl⟩
    rw [← hMb] at hq6 hsz6 ⊢
    have hMw : w.heap.size + 1 < Mb := by have := hb5.size; omega
    have hbM : b ≠ Mb := by have := hb5.size; omega
    have HPre : Hid (PreA W W6.drew w.heap.size Mb b xs.length m pa p #[.int .i64 y0, .int .i64 y1, .int .i64 y2, .int .i64 y3, .int .i64 y4, .int .i64 y5, .int .i64 y6, .int .i64 y7] D) := Lib.hid ⟨(hb6.block _ (by omega)).trans HQ0.out, hq6, (show Ints W6 W6.heap.size pa (nI p) from (HPI.out.below hb6).mono hb6.size), (show OwnT W6 b xs.length D from HO.out.but (But.of_below (X := fun _ => False) hb6) (fun h => h)), (But.of_below hb6).trans (But.drew W6)⟩
    have HMBE := Lib.hid hMb
    clear hMb hsz6 hW6
    refine wpIn_region_held (A := fun ls => { tmps := #[.map (some b), .agg #[.int .i64 (m : Int), .slice a n c], .pointer (some ⟨w.heap.size, 0, none⟩), .pointer (some ⟨w.heap.size + 1, 0, none⟩), .slice pa m pc, .pointer (some ⟨Mb, 0, none⟩), .map (some b), .pointer (some ⟨w.heap.size + 1, 0, none⟩), .int .i64 (m : Int), .func (.func 105) #[] #[.pointer (some ⟨Bm, 0, none⟩)], .slice pa m pc, .agg #[.int .i64 (m : Int), .slice a n c], .slice pa m pc, .agg #[.int .i64 y0, .int .i64 y1, .int .i64 y2, .int .i64 y3, .int .i64 y4, .int .i64 y5, .int .i64 y6, .int .i64 y7], bif ls.getD 0 false then .map (some b) else undef, bif ls.getD 1 false then .agg #[.int .i64 y0, .int .i64 y1, .int .i64 y2, .int .i64 y3, .int .i64 y4, .int .i64 y5, .int .i64 y6, .int .i64 y7] else undef, bif ls.getD 2 false then .map (some b) else undef, bif ls.getD 3 false then .agg #[.int .i64 y0, .int .i64 y1, .int .i64 y2, .int .i64 y3, .int .i64 y4, .int .i64 y5, .int .i64 y6, .int .i64 y7] else undef, bif ls.getD 4 false then .agg (iv (nmL zs (xs.map (·.2)) (keyL zs (nI p)))) else undef, bif ls.getD 5 false then .slice pa m pc else undef, bif ls.getD 6 false then .agg (iv (andL (nmL zs (xs.map (·.2)) (keyL zs (nI p))) (nI p))) else undef], defers := [] }) (S := fun ls W' => (ls.getD 7 false = true → ls.toList.all id = true) ∧ (if ls.getD 7 false then PostA W W' b (xs.length + 1) (D.put (keyLit (keyL zs (nI p))) (intsD (andL (nmL zs (xs.map (·.2)) (keyL zs (nI p))) (nI p)))) else PreA W W' w.heap.size Mb b xs.length m pa p #[.int .i64 y0, .int .i64 y1, .int .i64 y2, .int .i64 y3, .int .i64 y4, .int .i64 y5, .int .i64 y6, .int .i64 y7] D)) hmx (by kernel_rfl) rfl ⟨(fun h => (by cases h)), HPre.out⟩ ?step ?fin
    case step =>
      rintro listed W' i hsz hi hS
      obtain ⟨l0, l1, l2, l3, l4, l5, l6, l7, rfl⟩ := arr8 listed hsz
      obtain ⟨hi1, hi2⟩ := List.mem_filter.1 hi
      have hi8 : i < 8 := by simpa using hi1
      have hcase : i = 0 ∨ i = 1 ∨ i = 2 ∨ i = 3 ∨ i = 4 ∨ i = 5 ∨ i = 6 ∨ i = 7 := by omega
      rcases hcase with rfl | rfl | rfl | rfl | rfl | rfl | rfl | rfl
      · simp [Region.binds] at hi2
        subst hi2
        have h7 : l7 = false := by
          cases l7
          · rfl
          · have := hS.1 rfl
            simp at this
        subst h7
        have hP : PreA W W' w.heap.size Mb b xs.length m pa p #[.int .i64 y0, .int .i64 y1, .int .i64 y2, .int .i64 y3, .int .i64 y4, .int .i64 y5, .int .i64 y6, .int .i64 y7] D := hS.2
        refine wpOpIn_of_list rfl ?_
        have ck := (blk_cell hP.k 0).trans (cell1_0 _)
        gi_wp2
        first | exact ⟨rfl, hP⟩ | exact hP | exact ⟨rfl, (fun h => (by cases h)), hP⟩
      · simp [Region.binds] at hi2
        subst hi2
        have h7 : l7 = false := by
          cases l7
          · rfl
          · have := hS.1 rfl
            simp at this
        subst h7
        have hP : PreA W W' w.heap.size Mb b xs.length m pa p #[.int .i64 y0, .int .i64 y1, .int .i64 y2, .int .i64 y3, .int .i64 y4, .int .i64 y5, .int .i64 y6, .int .i64 y7] D := hS.2
        refine wpOpIn_of_list rfl ?_
        have e0 := blk_cell hP.q 0
        have e1 := blk_cell hP.q 1
        have e2 := blk_cell hP.q 2
        have e3 := blk_cell hP.q 3
        have e4 := blk_cell hP.q 4
        have e5 := blk_cell hP.q 5
        have e6 := blk_cell hP.q 6
        have e7 := blk_cell hP.q 7
        simp only [List.getElem?_toArray, List.getElem?_cons_zero, List.getElem?_cons_succ] at e0 e1 e2 e3 e4 e5 e6 e7
        gi_wp2
        first | exact ⟨rfl, hP⟩ | exact hP | exact ⟨rfl, (fun h => (by cases h)), hP⟩
      · simp [Region.binds] at hi2
        subst hi2
        have h7 : l7 = false := by
          cases l7
          · rfl
          · have := hS.1 rfl
            simp at this
        subst h7
        have hP : PreA W W' w.heap.size Mb b xs.length m pa p #[.int .i64 y0, .int .i64 y1, .int .i64 y2, .int .i64 y3, .int .i64 y4, .int .i64 y5, .int .i64 y6, .int .i64 y7] D := hS.2
        refine wpOpIn_of_list rfl ?_
        have ck := (blk_cell hP.k 0).trans (cell1_0 _)
        gi_wp2
        first | exact ⟨rfl, hP⟩ | exact hP | exact ⟨rfl, (fun h => (by cases h)), hP⟩
      · simp [Region.binds] at hi2
        subst hi2
        have h7 : l7 = false := by
          cases l7
          · rfl
          · have := hS.1 rfl
            simp at this
        subst h7
        have hP : PreA W W' w.heap.size Mb b xs.length m pa p #[.int .i64 y0, .int .i64 y1, .int .i64 y2, .int .i64 y3, .int .i64 y4, .int .i64 y5, .int .i64 y6, .int .i64 y7] D := hS.2
        refine wpOpIn_of_list rfl ?_
        have e0 := blk_cell hP.q 0
        have e1 := blk_cell hP.q 1
        have e2 := blk_cell hP.q 2
        have e3 := blk_cell hP.q 3
        have e4 := blk_cell hP.q 4
        have e5 := blk_cell hP.q 5
        have e6 := blk_cell hP.q 6
        have e7 := blk_cell hP.q 7
        simp only [List.getElem?_toArray, List.getElem?_cons_zero, List.getElem?_cons_succ] at e0 e1 e2 e3 e4 e5 e6 e7
        gi_wp2
        first | exact ⟨rfl, hP⟩ | exact hP | exact ⟨rfl, (fun h => (by cases h)), hP⟩
      · simp [Region.binds] at hi2
        obtain ⟨rfl, rfl, rfl⟩ := hi2
        have h7 : l7 = false := by
          cases l7
          · rfl
          · have := hS.1 rfl
            simp at this
        subst h7
        have hP : PreA W W' w.heap.size Mb b xs.length m pa p #[.int .i64 y0, .int .i64 y1, .int .i64 y2, .int .i64 y3, .int .i64 y4, .int .i64 y5, .int .i64 y6, .int .i64 y7] D := hS.2
        refine wpOpIn_of_list rfl ?_
        refine wpListIn_lookup_row W' rfl _ _ rfl b xs.length D rfl hP.o _ (keyLit (keyL zs (nI p))) rfl (by rw [← HIV.out]; exact keyLit_key hwk) _ (HTD.out.at_ _ hwk) ?_
        gi_wp2
        first | exact ⟨rfl, hP⟩ | exact hP | exact ⟨rfl, (fun h => (by cases h)), hP⟩
      · simp [Region.binds] at hi2
        subst hi2
        have h7 : l7 = false := by
          cases l7
          · rfl
          · have := hS.1 rfl
            simp at this
        subst h7
        have hP : PreA W W' w.heap.size Mb b xs.length m pa p #[.int .i64 y0, .int .i64 y1, .int .i64 y2, .int .i64 y3, .int .i64 y4, .int .i64 y5, .int .i64 y6, .int .i64 y7] D := hS.2
        refine wpOpIn_of_list rfl ?_
        gi_wp2
        first | exact ⟨rfl, hP⟩ | exact hP | exact ⟨rfl, (fun h => (by cases h)), hP⟩
      · simp [Region.binds] at hi2
        obtain ⟨rfl, rfl, rfl⟩ := hi2
        have h7 : l7 = false := by
          cases l7
          · rfl
          · have := hS.1 rfl
            simp at this
        subst h7
        have hP : PreA W W' w.heap.size Mb b xs.length m pa p #[.int .i64 y0, .int .i64 y1, .int .i64 y2, .int .i64 y3, .int .i64 y4, .int .i64 y5, .int .i64 y6, .int .i64 y7] D := hS.2
        refine wpOpIn_of_list rfl ?_
        have hno : NmOk (nmL zs (xs.map (·.2)) (keyL zs (nI p))) (xs.map (·.2)).length := nmOk_all _ _ _ (fun q hq => by obtain ⟨x, hx, rfl⟩ := List.mem_map.1 hq; exact namesOk_nI hm0 hm (HALL.out x hx).1 (HALL.out x hx).2)
        have hAND := and_any (nmL zs (xs.map (·.2)) (keyL zs (nI p))) hno.len hno.lo (by have h1 := hno.hi; have h2 : xs.length < 6 ^ m := hlen; have h3 : 6 ^ m ≤ 6 ^ 6 := Nat.pow_le_pow_right (by decide) hm; rw [List.length_map] at h1; omega) hno.cal pa pc (nI p) hnm.1 hnm.2.1 hnm.2.2 W' hP.i
        rw [hpm] at hAND
        clear hno
        gi_wp2_with (refine ⟨trivial, ?_⟩; gi_at_call 95; refine (CallsIn.inRound l (callsIn_wide.2 hAND)).mono ?_; rintro e w7 ⟨rfl, hb7⟩)
        first | exact ⟨rfl, hP.below hb7⟩ | exact hP.below hb7 | exact ⟨rfl, (fun h => (by cases h)), hP.below hb7⟩
      · simp [Region.binds] at hi2
        obtain ⟨rfl, rfl, rfl, rfl, -, -, rfl, rfl, rfl, rfl, -⟩ := hi2
        have hP : PreA W W' w.heap.size Mb b xs.length m pa p #[.int .i64 y0, .int .i64 y1, .int .i64 y2, .int .i64 y3, .int .i64 y4, .int .i64 y5, .int .i64 y6, .int .i64 y7] D := hS.2
        refine wpOpIn_of_list rfl ?_
        refine wpListIn_mapUpdate_own W' rfl _ _ _ 55 rfl 57 78 keyLaw Tryd.underlying55 rowR b xs.length D rfl hP.o (by have h2 : xs.length < 6 ^ m := hlen; have h3 : 6 ^ m ≤ 6 ^ 6 := Nat.pow_le_pow_right (by decide) hm; simp only [maxLen]; omega) _ _ (keyLit (keyL zs (nI p))) rfl rfl (by rw [← HIV.out]; exact keyLit_key hwk) _ [] (rowR_mk _) ?_
        intro w8 hown8 hg8
        gi_wp2
        first | exact ⟨hown8, hP.t.trans (But.of_grownBy hg8 (fun r e _ => by injection e with e; exact e.symm))⟩ | exact ⟨rfl, hown8, hP.t.trans (But.of_grownBy hg8 (fun r e _ => by injection e with e; exact e.symm))⟩ | exact ⟨rfl, (fun h => rfl), hown8, hP.t.trans (But.of_grownBy hg8 (fun r e _ => by injection e with e; exact e.symm))⟩
    case fin =>
      rintro listed W' hsz hal hS
      obtain ⟨l0, l1, l2, l3, l4, l5, l6, l7, rfl⟩ := arr8 listed hsz
      simp at hal
      obtain ⟨rfl, rfl, rfl, rfl, rfl, rfl, rfl, rfl⟩ := hal
      have hP : PostA W W' b (xs.length + 1) (D.put (keyLit (keyL zs (nI p))) (intsD (andL (nmL zs (xs.map (·.2)) (keyL zs (nI p))) (nI p)))) := hS.2
      gi_wp2
      refine ⟨hP.t, ⟨_, by rw [List.length_append]; exact hP.o, ?_⟩, ?_, HB.out.trans hP.t⟩
      · rw [List.map_append]
        exact tab_put HTD.out HO.out.isMap (fun q hq => by obtain ⟨x, hx, rfl⟩ := List.mem_map.1 hq; exact wfK_key hm hz8 HZ.out (okp_nI hm (HALL.out x hx).1 (HALL.out x hx).2)) p hwk
      · intro x1 x2 hx
        rcases List.mem_append.1 hx with h | h
        · exact HALL.out (x1, x2) h
        · have h2 := congrArg Prod.snd (List.mem_singleton.1 h)
          simp only at h2
          rw [h2]; exact ⟨HPL.out, hpv⟩
  case done =>
    rintro D ys W hD hys ⟨⟨D1, hO, hTd⟩, hall, hB⟩ hK
    have HK := Lib.hid hK
    have HO := Lib.hid hO
    have HB := Lib.hid hB
    rw [hys] at hTd
    have HTD := Lib.hid hTd
    have HDne : Hid (D ≠ b) := Lib.hid (by have := HSO.out; omega)
    have hDlt : W4.heap.size ≤ D := hD
    clear hK hO hB hTd hall
    gi_wp2
    refine ⟨by simp, .inl ⟨_, _, rfl, run_takeDeferred HK.out, ?_⟩⟩
    have hD0 : w.heap.size ≤ D := by have := HB4.out.size; omega
    have hbu : But (fun k => k = b) w W := HB4.out.trans HB.out
    refine ⟨_, results_none rfl _ _ _, rfl, ⟨_, D1, HO.out.kept (grownBy_putObj' W D _) (fun e => by injection e with e; exact HDne.out e.symm), HTD.out⟩, ?_⟩
    exact ⟨hbu.os, hbu.tape, hbu.output, by have := hbu.size; simpa using this, fun i hi hX => (World.putObj_heap_other (by omega)).trans (hbu.same i hi hX)⟩

end Go.Proofs.YtjclfpcnfmpjdaaDoor

/- It is proved what ownNames and keeping return; conditions: those of each statement. -/
namespace Go.Proofs.YtjclfpcnfmpjdaaDoor
open Go.RowKit Go.Shelf Go.Maps

attribute [local go_sem] Oper.semAt_some

set_option maxRecDepth 100000 in
set_option maxHeartbeats 2000000 in
theorem appendSeq_any (s Bs : Nat) (hs : s < 64) (w : World) (hBs : Bs < w.heap.size) (hc : w.cell? ⟨Bs, 0, none⟩ = some (.int .i64 (s : Int))) (hT : Tab w) :
    Calls Tryd.prog 111 #[.slice none 0 0, .func (.func 88) #[] #[.pointer (some ⟨Bs, 0, none⟩)]] w fun e w' => ∃ v, e = .returned v ∧
      w'.ownsRow w.heap.size 3 1 v (mem s).length ((nI (mem s)).map (Value.int .i64)) ∧ Below w.heap.size w w' := by
  obtain ⟨i0, hi, hz0, hz1, hz2⟩ := info_parts Tryd.info3
  have h16 : 1 ≤ 6 := by omega
  have hT1 := hT.lt
  have bO := Boxed.new w 23 (.slice none 0 0)
  have hB0 : Below w.heap.size w (w.alloc (.cells #[.slice none 0 0] 23)) := below1 w _
  have hst := membersS_stops (6 - 1) (by omega) Bs w.heap.size s hs (w.alloc (.cells #[.slice none 0 0] 23)) (by simp; omega) (by simp) (by omega) ((hB0.cell (p := ⟨Bs, 0, none⟩) hBs).trans hc) (hT.below hB0 hT1)
  refine (callsIn_wide (n := 6)).1 ?_
  refine callsIn_of_wp_marks Tryd.func111 rfl trivial ?_ rfl
  simp only [Tryd.ntmps111, List.size_toArray, List.length_cons, List.length_nil, Nat.reduceAdd, Nat.reduceSub, Array.replicate_succ, Array.replicate_zero, List.push_toArray, List.append_toArray, List.nil_append, List.cons_append]
  clear hc
  gi_wp2
  refine wpIn_rangeFunc_ownG rfl h16 (gf := 88) (lb := #[.pointer (some ⟨Bs, 0, none⟩)]) rfl trivial (enters_of Tryd.func88 (by kernel_rfl) rfl)
    hst belowK_t (belowK_b (by simp)) (Below.refl _ _) (fun _ => rfl)
    (fun pre W => (∃ v, Boxed W w.heap.size 23 v ∧ W.ownsRow w.heap.size 3 1 v pre.length ((nI (valsS pre)).map (Value.int .i64)) ∧ True) ∧ Below w.heap.size w W)
    (fun _ _ _ => False)
    (OwnFrom.and (Own.from (holdsRow_own w.heap.size w.heap.size 23 3 1 (fun pre : List (MemS s) => pre.length) (fun pre => (nI (valsS pre)).map (Value.int .i64)) (fun pre v => True)) _) (ownFrom_below (Nat.le_refl _) (by simp)))
    (fun _ _ _ _ _ hs _ _ => hs)
    ⟨⟨_, bO, World.ownsRow_nil _ _ _ _, trivial⟩, hB0⟩
    (fun x => { tmps := #[.slice none 0 0, .func (.func 88) #[] #[.pointer (some ⟨Bs, 0, none⟩)], .pointer (some ⟨w.heap.size, 0, none⟩), undef, .slice none 0 0, .int .i64 (x.1 : Int), .func (.func 88) #[] #[.pointer (some ⟨Bs, 0, none⟩)], .int .i64 (x.1 : Int), undef, undef, undef, undef, undef], defers := [] }) ?assign ?body ?done ?stop
  case assign =>
    intro l x W K hK
    gi_wp2
    exact hK
  case body =>
    rintro l pre x W ⟨⟨v, hv, hrow, -⟩, hB⟩ hlt
    have hc := hv.cell
    gi_wp2_with (gi_at_builtin; refine wpListIn_append_own _ rfl _ _ 23 rfl w.heap.size 3 i0 (.int .i64 0) 1 8 Tryd.underlying23 hi hz0 hz1 hz2 rfl (by decide) _ _ _ rfl (hrow.alloc _) ⟨W.heap.size, 0, none⟩ 1 1 [.int .i64 (x.1 : Int)] rfl rfl (cell_one_new _ _ _) (by simp [Value.oneCell']) (by simp only [maxLen]; omega) (by omega) (by have := hB.size; simp; omega) ?_; intro v' w1 hown' hgrow _; obtain ⟨g', cap', rfl⟩ := ownsRow_succ hown'; obtain ⟨hv1, hv2, hr2, hk2, hb2⟩ := hv.appended (by decide) hrow hB.size (Nat.le_refl _) hown' hgrow; have hc1 := hv1.cell; have hf1 := hv1.frozen)
    exact ⟨hk2.from _, hb2, ⟨_, hv2, by rw [valsS_snoc, nI_snoc, List.map_append, List.length_append]; exact hr2, trivial⟩, hB.trans hb2⟩
  case done =>
    rintro D ys W hD hys ⟨⟨v, hv, hrow, -⟩, hB⟩ hK
    rw [hys, show ys.length = (mem s).length from by rw [← hys]; simp [valsS]] at hrow
    have hc := hv.cell
    gi_wp2
    refine ⟨by simp, .inl ⟨_, _, rfl, run_takeDeferred hK, ?_⟩⟩
    exact ⟨_, results_tmp rfl _ _ _, v, rfl, ownsRow_putObj hrow _ hK rfl, hB.trans (belowK_b (w := w) (Nat.le_refl _) W D _ _ (by simp at hD; omega) hK rfl rfl)⟩
  case stop =>
    rintro D c pre W _ _ h _
    exact h.elim

theorem slice_form {w' : World} {B k : Nat} {v : Value} {ys : List Value} (h : w'.ownsRow B 3 1 v k ys) : ∃ a c, v = .slice a k c := by
  rcases h.2 with ⟨rfl, rfl⟩ | ⟨g, cap, cur, rfl, _⟩
  · exact ⟨none, 0, rfl⟩
  · exact ⟨_, _, rfl⟩

set_option maxRecDepth 100000 in
set_option maxHeartbeats 2000000 in
theorem ownNames_any (m : Nat) (hm0 : 1 ≤ m) (hm : m ≤ 6) (a : Option Addr) (n c : Nat) (w : World) (hT : Tab w) :
    Calls Tryd.prog 92 #[.agg #[.int .i64 (m : Int), .slice a n c]] w fun e w' => ∃ pa pc, e = .returned (.slice pa m pc) ∧ OwnN w' w.heap.size pa m pc (nI (List.range m)) ∧ Below w.heap.size w w' := by
  have hm1I : 1 ≤ (m : Int) := by omega
  have hm6I : (m : Int) ≤ 6 := by omega
  have HF := Lib.hid (full_nat m)
  have hT1 := hT.lt
  have h63 : 2 ^ m - 1 < 64 := by have := Nat.pow_le_pow_right (n := 2) (by decide) hm; omega
  have hC : ∀ (W : World), Tab W → ∀ Bs, Bs < W.heap.size → W.cell? ⟨Bs, 0, none⟩ = some (.int .i64 ((2 ^ m - 1 : Nat) : Int)) → Calls Tryd.prog 104 #[.func (.func 88) #[] #[.pointer (some ⟨Bs, 0, none⟩)]] W fun e w' => ∃ pa pc, e = .returned (.slice pa m pc) ∧ OwnN w' W.heap.size pa m pc (nI (List.range m)) ∧ Below W.heap.size W w' := by
    intro W hTW Bs hBs hc
    have hA := appendSeq_any (2 ^ m - 1) Bs h63 W hBs hc hTW
    rw [mem_fullR m hm, List.length_range] at hA
    clear hc hTW
    go_enter Tryd.func104, Tryd.ntmps104
    go_wp2_with (go_at_call 111; refine hA.mono ?_; rintro e w' ⟨v, rfl, ho, hb⟩)
    go_ret
    obtain ⟨pa, pc, rfl⟩ := slice_form ho
    exact ⟨pa, pc, rfl, ho, hb⟩
  have hb3 := below3 w (.cells #[.int .i64 (m : Int), .slice a n c] 25) (.cells #[.int .i64 (m : Int), .slice a n c] 25) (.cells #[.int .i64 ((2 ^ m - 1 : Nat) : Int)] 64)
  have q2 := alloc3_2 w (.cells #[.int .i64 (m : Int), .slice a n c] 25) (.cells #[.int .i64 (m : Int), .slice a n c] 25) (.cells #[.int .i64 ((2 ^ m - 1 : Nat) : Int)] 64)
  have hCW := hC _ (hT.below hb3 hT1) (w.heap.size + 1 + 1) (by simp) ((blk_cell q2 0).trans (cell1_0 _))
  clear hC q2 hT
  go_enter Tryd.func92, Tryd.ntmps92
  go_wp2_with (first
    | (go_at_call 56; refine (full_any _ _ _ _ _ hm1I hm6I).mono ?_; rintro e w' ⟨rfl, rfl⟩; rw [HF.out])
    | (go_at_call 53; refine (members_any _ _).mono ?_; rintro e w' ⟨rfl, rfl⟩)
    | (go_at_call 104; refine hCW.mono ?_; rintro e w' ⟨pa, pc, rfl, ho, hb⟩))
  go_ret
  exact ⟨pa, pc, rfl, ho.base (by simp; omega), hb3.trans (hb.mono (by simp; omega))⟩

end Go.Proofs.YtjclfpcnfmpjdaaDoor

/- It is proved what keeping returns; conditions: those of each statement. -/
namespace Go.Proofs.YtjclfpcnfmpjdaaDoor
open Go.RowKit Go.Shelf Go.Maps

theorem lookup_eq {W : World} {b n : Nat} {D : DataW Unit} {zs : List Int} {L : List (List Nat)} (hown : OwnT W b n D) (hT : TabD zs D L) {c : List Int} (hc : WfK c) :
    (Instr.lookup 55 (.map (some b)) (.agg (iv c)) false).run Tryd.prog W = .ok (.agg (iv (nmL zs L c))) W := by
  obtain ⟨v, ps, hrun, hv⟩ := hown.lookup keyLaw Tryd.underlying55 (zeroNm W) (rowR_mk zero13) (keyLit_key hc)
  rw [hT.at_ c hc] at hv
  obtain rfl := rowR_inv hv
  exact hrun

theorem store13 {W : World} {R t : Nat} {L : List Int} (x0 x1 x2 x3 x4 x5 x6 x7 x8 x9 x10 x11 x12 : Int) (h : HasBlk W R z13 t) : ∃ W', (((((((((((((W.setCell ⟨R, 0, none⟩ (.int .i64 x0)).setCell ⟨R, 1, none⟩ (.int .i64 x1)).setCell ⟨R, 2, none⟩ (.int .i64 x2)).setCell ⟨R, 3, none⟩ (.int .i64 x3)).setCell ⟨R, 4, none⟩ (.int .i64 x4)).setCell ⟨R, 5, none⟩ (.int .i64 x5)).setCell ⟨R, 6, none⟩ (.int .i64 x6)).setCell ⟨R, 7, none⟩ (.int .i64 x7)).setCell ⟨R, 8, none⟩ (.int .i64 x8)).setCell ⟨R, 9, none⟩ (.int .i64 x9)).setCell ⟨R, 10, none⟩ (.int .i64 x10)).setCell ⟨R, 11, none⟩ (.int .i64 x11)).setCell ⟨R, 12, none⟩ (.int .i64 x12)) = W' ∧ Nums W' R t [x0, x1, x2, x3, x4, x5, x6, x7, x8, x9, x10, x11, x12] ∧ ∀ (B : Nat), B ≤ R → Below B W W' := by
  refine ⟨_, rfl, ?_, fun B hB => ?_⟩
  · have h' : Nums W R t (List.replicate 13 0) := h
    exact ((((((((((((h'.set 0 x0).set 1 x1).set 2 x2).set 3 x3).set 4 x4).set 5 x5).set 6 x6).set 7 x7).set 8 x8).set 9 x9).set 10 x10).set 11 x11).set 12 x12
  · have st : ∀ (W1 : World) (i : Nat) (v : Value), Below B W W1 → Below B W (W1.setCell ⟨R, i, none⟩ v) := fun W1 i v h => h.setCell (p := ⟨R, i, none⟩) hB v
    exact st _ _ _ (st _ _ _ (st _ _ _ (st _ _ _ (st _ _ _ (st _ _ _ (st _ _ _ (st _ _ _ (st _ _ _ (st _ _ _ (st _ _ _ (st _ _ _ (st _ _ _ (Below.refl _ _)))))))))))))

set_option maxRecDepth 100000 in
set_option maxHeartbeats 8000000 in
theorem keeping_any (m : Nat) (hm0 : 1 ≤ m) (hm : m ≤ 6) (a : Option Addr) (c : Nat) (zs : List Int) (w : World) (ha : Ints w w.heap.size a zs) (hT : Tab w) (hf : famIn (m : Int) zs = true) (b n0 : Nat) (D0 : DataW Unit) (hb1 : 1 < b) (hown : OwnT w b n0 D0) :
    Calls Tryd.prog 65 #[.map (some b), .agg #[.int .i64 (m : Int), .slice a zs.length c]] w fun e w' => e = .returned (.agg (iv (nmL zs (permsL m (List.range m)) (keyL zs (nI (List.range m)))))) ∧ But (fun k => k = b) w w' := by
  have hbw : b < w.heap.size := hown.lt
  obtain ⟨hm1, hm6, hl8, hz4⟩ := famIn_out hf
  obtain ⟨es0, clk0, hblk⟩ := hown.blk
  have hown2 : OwnT ((w.alloc (.cells #[.int .i64 (m : Int), .slice a zs.length c] 25)).alloc (.cells z13 78)) b n0 D0 := (hown.alloc _).alloc _
  have hb2 := below2 w (.cells #[.int .i64 (m : Int), .slice a zs.length c] 25) (.cells z13 78)
  have q0 := alloc2_0 w (.cells #[.int .i64 (m : Int), .slice a zs.length c] 25) (.cells z13 78)
  have q1 := alloc2_1 w (.cells #[.int .i64 (m : Int), .slice a zs.length c] 25) (.cells z13 78)
  have hsz2 : ((w.alloc (.cells #[.int .i64 (m : Int), .slice a zs.length c] 25)).alloc (.cells z13 78)).heap.size = w.heap.size + 1 + 1 := by simp
  obtain ⟨W2, hW2⟩ : ∃ W2, (w.alloc (.cells #[.int .i64 (m : Int), .slice a zs.length c] 25)).alloc (.cells z13 78) = W2 := ⟨_, rfl⟩
  rw [hW2] at hown2 hb2 q0 q1 hsz2
  have hASK := ask_any m hm0 hm a c zs W2 ((ha.below hb2).mono hb2.size) (hT.below hb2 hT.lt) hf b n0 D0 hb1 hown2
  have hz8 : zs.length ≤ 8 := by omega
  have hr6 : (List.range m).length = m := List.length_range
  have hrv : ∀ v ∈ List.range m, v < m := fun v hv => by simpa using hv
  have hokp : Okp m (nI (List.range m)) := okp_nI hm hr6 hrv
  have hz : ∀ z ∈ zs, z.toNat < 2 ^ m := fun z hz => by
    have h1 := hz4 z hz
    have h3 : fullI (m : Int) = ((2 ^ m - 1 : Nat) : Int) := full_nat m
    have h4 : 1 ≤ 2 ^ m := Nat.one_le_two_pow
    omega
  have hwk : WfK (keyL zs (nI (List.range m))) := wfK_key hm hz8 hz hokp
  have hnm : NmOk (nmL zs (permsL m (List.range m)) (keyL zs (nI (List.range m)))) (permsL m (List.range m)).length := nmOk_all _ _ _ (fun p hp => by
    rw [← lvlL_perms] at hp
    exact namesOk_nI hm0 hm (lvlL_in hp) (lvlL_lt hp))
  obtain ⟨x0, x1, x2, x3, x4, x5, x6, x7, x8, x9, x10, x11, x12, hx⟩ : ∃ x0 x1 x2 x3 x4 x5 x6 x7 x8 x9 x10 x11 x12 : Int, nmL zs (permsL m (List.range m)) (keyL zs (nI (List.range m))) = [x0, x1, x2, x3, x4, x5, x6, x7, x8, x9, x10, x11, x12] := by
    have h13 := hnm.len
    generalize nmL zs (permsL m (List.range m)) (keyL zs (nI (List.range m))) = L at h13
    match L, h13 with
    | [x0, x1, x2, x3, x4, x5, x6, x7, x8, x9, x10, x11, x12], _ => exact ⟨_, _, _, _, _, _, _, _, _, _, _, _, _, rfl⟩
  obtain ⟨n, hn⟩ : ∃ n, n = zs.length := ⟨_, rfl⟩
  have HN := Lib.hid hn
  have HA := Lib.hid ha
  have HT := Lib.hid hT
  have HF := Lib.hid hf
  have HOKP := Lib.hid hokp
  have HWK := Lib.hid hwk
  have HX := Lib.hid hx
  have HB2 := Lib.hid hb2
  have HQ0 : Hid (HasBlk W2 w.heap.size #[.int .i64 (m : Int), .slice a zs.length c] 25) := Lib.hid q0
  have HQ1 : Hid (HasBlk W2 (w.heap.size + 1) z13 78) := Lib.hid q1
  have HS2 := Lib.hid hsz2
  have HBLK := Lib.hid hblk
  have y0 := (blk_cell q0 0).trans (cell2_0 _ _)
  have y1 := (blk_cell q0 1).trans (cell2_1 _ _)
  unfold z13 at hW2
  have hT1w := hT.lt
  rw [← hn] at hW2 hASK y1 ⊢
  clear ha hT hf hokp hwk hx hnm hb2 q0 q1 hsz2 hown hown2 hblk hz hn hz4
  go_enter Tryd.func65, Tryd.ntmps65
  go_wp2_with (go_at_call 76; refine hASK.mono ?_; rintro e w1 ⟨rfl, ⟨n1, D1, hO1, hT1⟩, hb1'⟩)
  have hbs : w.heap.size + 1 + 1 ≤ w1.heap.size := by have := HS2.out; have := hb1'.size; omega
  have q0 : HasBlk w1 w.heap.size #[.int .i64 (m : Int), .slice a zs.length c] 25 := hb1'.keep (by omega) HQ0.out
  have q1 : HasBlk w1 (w.heap.size + 1) z13 78 := hb1'.keep (by omega) HQ1.out
  have hbw1 : But (fun k => k = b) w w1 := (But.of_below HB2.out).trans hb1'
  have hTw1 : Tab w1 := tab_but HT.out hbw1 (fun k e => by omega)
  have hIw1 : Ints w1 w.heap.size a zs := ints_but HA.out (Nat.le_refl _) hbw1 ⟨es0, clk0, HBLK.out⟩
  have z0 := (blk_cell q0 0).trans (cell2_0 _ _)
  have z1 := (blk_cell q0 1).trans (cell2_1 _ _)
  rw [← HN.out] at z1
  have HO1 := Lib.hid hO1
  have HT1 := Lib.hid hT1
  have HBW1 := Lib.hid hbw1
  have HTW1 := Lib.hid hTw1
  have HIW1 := Lib.hid hIw1
  have HQ0 := Lib.hid q0
  have HQ1 := Lib.hid q1
  clear y0 y1 hW2 hASK hO1 hT1 hb1' q0 q1 hbw1 hTw1 hIw1
  go_region_with (first
    | (go_at_call 92; refine (ownNames_any m hm0 hm _ _ _ w1.drew HTW1.out).mono ?_; rintro e w2 ⟨pa, pc, rfl, ho, hb⟩
       have hb' : Below w1.heap.size w1 w2 := ⟨hb.os, hb.tape, hb.output, hb.size, hb.block⟩
       have q0 : HasBlk w2 w.heap.size #[.int .i64 (m : Int), .slice a zs.length c] 25 := (hb'.block _ (by omega)).trans HQ0.out
       have z0' := (blk_cell q0 0).trans (cell2_0 _ _)
       have z1' := (blk_cell q0 1).trans (cell2_1 _ _)
       rw [← HN.out] at z1'
       have hli : (nI (List.range m)).length = m := by rw [nI_len, List.length_range]
       have hLB := listBy_any m a c zs pa pc (nI (List.range m)) HOKP.out w2 ((HIW1.out.below (hb'.mono (by omega))).mono (by have := hb'.size; omega)) (own_ints (show OwnI w2 w1.heap.size (.slice pa (nI (List.range m)).length pc) (nI (List.range m)) from by rw [hli]; unfold OwnI; rw [hli]; exact ho)) (HTW1.out.below hb' (by omega)) HF.out
       rw [hli, ← HN.out] at hLB
       have HB' := Lib.hid hb'
       clear ho hb hb' q0 hli)
    | (go_at_call 91; refine hLB.mono ?_; rintro e w3 ⟨rfl, hb3⟩
       have HO3 : Hid (OwnT w3 b n1 D1) := Lib.hid ((HO1.out.but (But.of_below (X := fun _ => False) HB'.out) (fun h => h)).but (But.of_below (X := fun _ => False) hb3) (fun h => h))
       have HZ3 : Hid (HasBlk w3 (w.heap.size + 1) z13 78) := Lib.hid ((hb3.block _ (by have := HB'.out.size; omega)).trans ((HB'.out.block _ (by omega)).trans HQ1.out))
       have hrun := lookup_eq HO3.out HT1.out HWK.out
       rw [HX.out] at hrun
       simp only [show iv [x0, x1, x2, x3, x4, x5, x6, x7, x8, x9, x10, x11, x12] = #[.int .i64 x0, .int .i64 x1, .int .i64 x2, .int .i64 x3, .int .i64 x4, .int .i64 x5, .int .i64 x6, .int .i64 x7, .int .i64 x8, .int .i64 x9, .int .i64 x10, .int .i64 x11, .int .i64 x12] from rfl] at hrun
       have HB3 := Lib.hid hb3
       have e0 : w3.cell? ⟨w.heap.size + 1, 0, none⟩ = some (.int .i64 0) := blk_cell HZ3.out 0
       have g0 : w3.frozen? ⟨w.heap.size + 1, 0, none⟩ = false := blk_frozen HZ3.out 0
       have e1 : w3.cell? ⟨w.heap.size + 1, 1, none⟩ = some (.int .i64 0) := blk_cell HZ3.out 1
       have g1 : w3.frozen? ⟨w.heap.size + 1, 1, none⟩ = false := blk_frozen HZ3.out 1
       have e2 : w3.cell? ⟨w.heap.size + 1, 2, none⟩ = some (.int .i64 0) := blk_cell HZ3.out 2
       have g2 : w3.frozen? ⟨w.heap.size + 1, 2, none⟩ = false := blk_frozen HZ3.out 2
       have e3 : w3.cell? ⟨w.heap.size + 1, 3, none⟩ = some (.int .i64 0) := blk_cell HZ3.out 3
       have g3 : w3.frozen? ⟨w.heap.size + 1, 3, none⟩ = false := blk_frozen HZ3.out 3
       have e4 : w3.cell? ⟨w.heap.size + 1, 4, none⟩ = some (.int .i64 0) := blk_cell HZ3.out 4
       have g4 : w3.frozen? ⟨w.heap.size + 1, 4, none⟩ = false := blk_frozen HZ3.out 4
       have e5 : w3.cell? ⟨w.heap.size + 1, 5, none⟩ = some (.int .i64 0) := blk_cell HZ3.out 5
       have g5 : w3.frozen? ⟨w.heap.size + 1, 5, none⟩ = false := blk_frozen HZ3.out 5
       have e6 : w3.cell? ⟨w.heap.size + 1, 6, none⟩ = some (.int .i64 0) := blk_cell HZ3.out 6
       have g6 : w3.frozen? ⟨w.heap.size + 1, 6, none⟩ = false := blk_frozen HZ3.out 6
       have e7 : w3.cell? ⟨w.heap.size + 1, 7, none⟩ = some (.int .i64 0) := blk_cell HZ3.out 7
       have g7 : w3.frozen? ⟨w.heap.size + 1, 7, none⟩ = false := blk_frozen HZ3.out 7
       have e8 : w3.cell? ⟨w.heap.size + 1, 8, none⟩ = some (.int .i64 0) := blk_cell HZ3.out 8
       have g8 : w3.frozen? ⟨w.heap.size + 1, 8, none⟩ = false := blk_frozen HZ3.out 8
       have e9 : w3.cell? ⟨w.heap.size + 1, 9, none⟩ = some (.int .i64 0) := blk_cell HZ3.out 9
       have g9 : w3.frozen? ⟨w.heap.size + 1, 9, none⟩ = false := blk_frozen HZ3.out 9
       have e10 : w3.cell? ⟨w.heap.size + 1, 10, none⟩ = some (.int .i64 0) := blk_cell HZ3.out 10
       have g10 : w3.frozen? ⟨w.heap.size + 1, 10, none⟩ = false := blk_frozen HZ3.out 10
       have e11 : w3.cell? ⟨w.heap.size + 1, 11, none⟩ = some (.int .i64 0) := blk_cell HZ3.out 11
       have g11 : w3.frozen? ⟨w.heap.size + 1, 11, none⟩ = false := blk_frozen HZ3.out 11
       have e12 : w3.cell? ⟨w.heap.size + 1, 12, none⟩ = some (.int .i64 0) := blk_cell HZ3.out 12
       have g12 : w3.frozen? ⟨w.heap.size + 1, 12, none⟩ = false := blk_frozen HZ3.out 12
       clear hb3 hLB))
  all_goals
    obtain ⟨Wf, hWf, hF, hBf⟩ := store13 (L := []) x0 x1 x2 x3 x4 x5 x6 x7 x8 x9 x10 x11 x12 HZ3.out
    go_wp2
    rw [hWf]
    have r0 : Wf.cell? ⟨w.heap.size + 1, 0, none⟩ = some (.int .i64 x0) := by have := hF.cell 0 (by simp); simpa using this
    have r1 : Wf.cell? ⟨w.heap.size + 1, 1, none⟩ = some (.int .i64 x1) := by have := hF.cell 1 (by simp); simpa using this
    have r2 : Wf.cell? ⟨w.heap.size + 1, 2, none⟩ = some (.int .i64 x2) := by have := hF.cell 2 (by simp); simpa using this
    have r3 : Wf.cell? ⟨w.heap.size + 1, 3, none⟩ = some (.int .i64 x3) := by have := hF.cell 3 (by simp); simpa using this
    have r4 : Wf.cell? ⟨w.heap.size + 1, 4, none⟩ = some (.int .i64 x4) := by have := hF.cell 4 (by simp); simpa using this
    have r5 : Wf.cell? ⟨w.heap.size + 1, 5, none⟩ = some (.int .i64 x5) := by have := hF.cell 5 (by simp); simpa using this
    have r6 : Wf.cell? ⟨w.heap.size + 1, 6, none⟩ = some (.int .i64 x6) := by have := hF.cell 6 (by simp); simpa using this
    have r7 : Wf.cell? ⟨w.heap.size + 1, 7, none⟩ = some (.int .i64 x7) := by have := hF.cell 7 (by simp); simpa using this
    have r8 : Wf.cell? ⟨w.heap.size + 1, 8, none⟩ = some (.int .i64 x8) := by have := hF.cell 8 (by simp); simpa using this
    have r9 : Wf.cell? ⟨w.heap.size + 1, 9, none⟩ = some (.int .i64 x9) := by have := hF.cell 9 (by simp); simpa using this
    have r10 : Wf.cell? ⟨w.heap.size + 1, 10, none⟩ = some (.int .i64 x10) := by have := hF.cell 10 (by simp); simpa using this
    have r11 : Wf.cell? ⟨w.heap.size + 1, 11, none⟩ = some (.int .i64 x11) := by have := hF.cell 11 (by simp); simpa using this
    have r12 : Wf.cell? ⟨w.heap.size + 1, 12, none⟩ = some (.int .i64 x12) := by have := hF.cell 12 (by simp); simpa using this
    have h13 : But (fun k => k = b) w w3 := (HBW1.out.trans (But.of_below HB'.out)).trans (But.of_below HB3.out)
    have h4 := hBf (w.heap.size + 1) (Nat.le_refl _)
    refine bodyPost_ret (v := .agg #[.int .i64 x0, .int .i64 x1, .int .i64 x2, .int .i64 x3, .int .i64 x4, .int .i64 x5, .int .i64 x6, .int .i64 x7, .int .i64 x8, .int .i64 x9, .int .i64 x10, .int .i64 x11, .int .i64 x12]) (by simp [results, Tryd.results65, go_sem, r0, r1, r2, r3, r4, r5, r6, r7, r8, r9, r10, r11, r12]) rfl ⟨by rw [HX.out]; rfl, ?_⟩
    exact ⟨h4.os.trans h13.os, h4.tape.trans h13.tape, h4.output.trans h13.output, Nat.le_trans h13.size h4.size, fun i hi hX => (h4.block i (by omega)).trans (h13.same i hi hX)⟩

end Go.Proofs.YtjclfpcnfmpjdaaDoor

/- It is proved what FamilyAll of the program and of the model return; conditions: those of each statement. -/
namespace Go.Proofs.YtjclfpcnfmpjdaaDoor
open Go.RowKit Go.Shelf

attribute [local go_sem] Oper.semAt_some

/-- What a function of an int and a bool returns; nothing that lay has turned. -/
def RetIB (w : World) (r : Int) (ok : Bool) (e : Ending) (w' : World) : Prop := e = .returned (.tuple #[.int .i64 r, .bool ok]) ∧ Below w.heap.size w w'

end Go.Proofs.YtjclfpcnfmpjdaaDoor

/- It is proved what AlikeSame of the program returns; conditions: those of each statement. -/
namespace Go.Proofs.YtjclfpcnfmpjdaaDoor
open Go.RowKit Go.Shelf Go.Maps

/-- All names that make a family's clubs its own. -/
def ownL (k : Nat) (zs : List Int) : List (List Nat) := (permsL k (List.range k)).filter fun p => keyL zs (nI p) == keyL zs (nI (List.range k))

def sameZ (m : Int) (zs : List Int) : Int := if famIn m zs then ((ownL m.toNat zs).length : Int) else 0
theorem nm_count : ∀ (L : List (List Nat)) (x : List Int), x.length = 13 → (∀ p ∈ L, NamesOk (nI p)) → (L.foldl (fun x p => andL x (nI p)) x)[6]?.getD 0 = x[6]?.getD 0 + (L.length : Int)
  | [], x, _, _ => by simp
  | p :: L, x, hx, hp => by
    have h6 := (hp p (by simp)).1
    rw [List.foldl_cons, nm_count L _ (by rw [andL, andC_len, andM_len (by omega), hx]) (fun q hq => hp q (by simp [hq])), andL_six hx h6, List.length_cons]
    omega

theorem same_six (k : Nat) (hk0 : 1 ≤ k) (hk : k ≤ 6) (zs : List Int) : (nmL zs (permsL k (List.range k)) (keyL zs (nI (List.range k))))[6]?.getD 0 = ((ownL k zs).length : Int) := by
  unfold nmL ownL
  rw [nm_count _ zero13 rfl (fun p hp => by
    have hp := (List.mem_filter.1 hp).1
    rw [← lvlL_perms] at hp
    exact namesOk_nI hk0 hk (lvlL_in hp) (lvlL_lt hp))]
  simp [zero13]

theorem field_six (x0 x1 x2 x3 x4 x5 x6 x7 x8 x9 x10 x11 x12 : Int) (w : World) : (Instr.field 78 (.agg #[.int .i64 x0, .int .i64 x1, .int .i64 x2, .int .i64 x3, .int .i64 x4, .int .i64 x5, .int .i64 x6, .int .i64 x7, .int .i64 x8, .int .i64 x9, .int .i64 x10, .int .i64 x11, .int .i64 x12]) 1).run Tryd.prog w = .ok (.int .i64 x6) w := by kernel_rfl
set_option maxRecDepth 100000 in
set_option maxHeartbeats 4000000 in
theorem implSame_any (m : Int) (a : Option Addr) (c : Nat) (zs : List Int) (w : World) (ha : Ints w w.heap.size a zs) (hT : Tab w) (hx : zs.length ≤ 1048576) :
    Calls Tryd.prog 27 #[.agg #[.int .i64 m, .slice a zs.length c]] w (RetIB w (sameZ m zs) (famIn m zs)) := by
  have HA := Lib.hid ((ha.below (below1 w (.cells #[.int .i64 m, .slice a zs.length c] 25))).mono (B' := (w.alloc (.cells #[.int .i64 m, .slice a zs.length c] 25)).heap.size) (by simp))
  cases hf : famIn m zs
  · have HF := Lib.hid hf
    have HR : Hid (sameZ m zs = 0) := Lib.hid (by simp [sameZ, hf])
    clear hf ha
    go_enter Tryd.func27, Tryd.ntmps27
    go_wp2_with (go_at_call 46; refine (implFamilyIn_any _ _ _ zs _ HA.out hx).mono ?_; rintro e w1 ⟨rfl, hb⟩; rw [HF.out]; have HB := Lib.hid hb; clear hb)
    go_ret2
    exact ⟨by rw [HR.out]; rfl, (below1 _ _).trans (HB.out.mono (by simp))⟩
  · have HF := Lib.hid hf
    obtain ⟨hm1, hm6, hl8, -⟩ := famIn_out hf
    obtain ⟨k, rfl⟩ : ∃ k : Nat, m = (k : Int) := ⟨m.toNat, by omega⟩
    have hk0 : 1 ≤ k := by omega
    have hk6 : k ≤ 6 := by omega
    have HR : Hid (sameZ (k : Int) zs = (nmL zs (permsL k (List.range k)) (keyL zs (nI (List.range k))))[6]?.getD 0) := Lib.hid (by rw [same_six k hk0 hk6 zs]; simp [sameZ, hf])
    have hnm : NmOk (nmL zs (permsL k (List.range k)) (keyL zs (nI (List.range k)))) (permsL k (List.range k)).length := nmOk_all _ _ _ (fun p hp => by
      rw [← lvlL_perms] at hp
      exact namesOk_nI hk0 hk6 (lvlL_in hp) (lvlL_lt hp))
    obtain ⟨x0, x1, x2, x3, x4, x5, x6, x7, x8, x9, x10, x11, x12, hxx⟩ : ∃ x0 x1 x2 x3 x4 x5 x6 x7 x8 x9 x10 x11 x12 : Int, nmL zs (permsL k (List.range k)) (keyL zs (nI (List.range k))) = [x0, x1, x2, x3, x4, x5, x6, x7, x8, x9, x10, x11, x12] := by
      have h13 := hnm.len
      generalize nmL zs (permsL k (List.range k)) (keyL zs (nI (List.range k))) = L at h13
      match L, h13 with
      | [x0, x1, x2, x3, x4, x5, x6, x7, x8, x9, x10, x11, x12], _ => exact ⟨_, _, _, _, _, _, _, _, _, _, _, _, _, rfl⟩
    have HX := Lib.hid hxx
    have HT := Lib.hid hT
    have HI := Lib.hid ha
    have hmm := @run_makeMap Tryd.prog
    have hfs := field_six
    have hT1 := hT.lt
    clear hf ha hnm hxx hT
    go_enter Tryd.func27, Tryd.ntmps27
    go_wp2_with fail
    refine (implFamilyIn_any _ _ _ zs _ HA.out hx).mono ?_
    rintro e w1 ⟨rfl, hb⟩
    rw [HF.out]
    have q0 : HasBlk w1 w.heap.size #[.int .i64 (k : Int), .slice a zs.length c] 25 := (hb.block _ (by simp)).trans (alloc_new w _)
    have hs1 : w.heap.size + 1 ≤ w1.heap.size := by have := hb.size; simpa using this
    have hbw : Below w.heap.size w w1 := (below1 w _).trans (hb.mono (by simp))
    have hb2 : Below w.heap.size w (w1.alloc (.map #[] 0)) := hbw.alloc (by omega) _
    have q2 : HasBlk (w1.alloc (.map #[] 0)) w.heap.size #[.int .i64 (k : Int), .slice a zs.length c] 25 := HasBlk.alloc q0 _
    have x0' := (blk_cell q2 0).trans (cell2_0 _ _)
    have x1' := (blk_cell q2 1).trans (cell2_1 _ _)
    have hown : OwnT (w1.alloc (.map #[] 0)) w1.heap.size 0 (.map []) := World.ownsMap_made w1 _ _ _
    have hK := keeping_any k hk0 hk6 a c zs (w1.alloc (.map #[] 0)) ((HI.out.below hb2).mono (by simp; omega)) (HT.out.below hb2 hT1) HF.out w1.heap.size 0 (.map []) (by omega) hown
    have HB2 := Lib.hid hb2
    clear hb q0 hbw hb2 q2 hown
    go_wp2_with (go_at_call 65; refine hK.mono ?_; rintro e w3 ⟨rfl, hb3⟩; rw [HX.out]; rw [show iv [x0, x1, x2, x3, x4, x5, x6, x7, x8, x9, x10, x11, x12] = #[.int .i64 x0, .int .i64 x1, .int .i64 x2, .int .i64 x3, .int .i64 x4, .int .i64 x5, .int .i64 x6, .int .i64 x7, .int .i64 x8, .int .i64 x9, .int .i64 x10, .int .i64 x11, .int .i64 x12] from rfl]; have HB3 := Lib.hid hb3; clear hb3)
    go_ret2
    refine ⟨by rw [HR.out, HX.out]; rfl, ?_⟩
    exact HB2.out.trans (HB3.out.below (by simp; omega) (fun i e => by omega))

end Go.Proofs.YtjclfpcnfmpjdaaDoor

/- It is proved what l2Own returns; conditions: those of each statement. -/
namespace Go.Proofs.YtjclfpcnfmpjdaaDoor
open Go.RowKit Go.Shelf

set_option maxRecDepth 100000 in
theorem called_id_fin : ∀ m : Fin 7, ∀ s : Fin 64, s.val < 2 ^ m.val → called (nI (List.range m.val)) s.val = s.val := by decide +kernel

theorem called_id {m s : Nat} (hm : m ≤ 6) (hs : s < 2 ^ m) : called (nI (List.range m)) s = s :=
  called_id_fin ⟨m, by omega⟩ ⟨s, Nat.lt_of_lt_of_le hs (Nat.pow_le_pow_right (by decide) hm : 2 ^ m ≤ 2 ^ 6)⟩ hs

theorem own_map {m : Nat} (hm : m ≤ 6) {zs : List Int} (h : ∀ z ∈ zs, 0 ≤ z ∧ z.toNat < 2 ^ m) : zs.map (callZ (nI (List.range m))) = zs := by
  conv => rhs; rw [← List.map_id zs]
  apply List.map_congr_left
  intro z hz
  obtain ⟨h1, h2⟩ := h z hz
  unfold callZ
  rw [called_id hm h2]
  simp; omega

theorem own_pred {m : Nat} (hm : m ≤ 6) {zs : List Int} (h : ∀ z ∈ zs, 0 ≤ z ∧ z.toNat < 2 ^ m) (ps : List Int) :
    decide ((zs.map (callZ ps)).mergeSort leZ = zs.mergeSort leZ) = (keyL zs ps == keyL zs (nI (List.range m))) := by
  unfold keyL
  rw [own_map hm h, Bool.eq_iff_iff, decide_eq_true_eq, beq_iff_eq, List.append_left_inj]

def ownF (m : Nat) (zs : List Int) (k : Nat) : List (List Int) := (((lvlL m m).take k).filter fun p => keyL zs (nI p) == keyL zs (nI (List.range m))).map nI
theorem ownF_all (m : Nat) (zs : List Int) : ownF m zs (lvlL m m).length = (ownL m zs).map nI := by unfold ownF ownL; rw [List.take_length, lvlL_perms]
theorem ownF_yes {m k : Nat} {zs : List Int} (hk : k < (lvlL m m).length) (h : (keyL zs (nI (lvlL m m)[k]) == keyL zs (nI (List.range m))) = true) : ownF m zs (k + 1) = ownF m zs k ++ [nI (lvlL m m)[k]] := by
  unfold ownF
  rw [List.take_succ_eq_append_getElem hk, List.filter_append, List.map_append]
  simp [h]

theorem ownF_no {m k : Nat} {zs : List Int} (hk : k < (lvlL m m).length) (h : (keyL zs (nI (lvlL m m)[k]) == keyL zs (nI (List.range m))) = false) : ownF m zs (k + 1) = ownF m zs k := by
  unfold ownF
  rw [List.take_succ_eq_append_getElem hk, List.filter_append, List.map_append]
  have h' : ¬ (keyL zs (nI (lvlL m m)[k]) = keyL zs (nI (List.range m))) := by simpa using h
  simp [h']

theorem ownF_len (m : Nat) (zs : List Int) (hm : m ≤ 6) (k : Nat) : (ownF m zs k).length ≤ 46656 := by
  unfold ownF
  rw [List.length_map]
  refine Nat.le_trans (List.length_filter_le _ _) (Nat.le_trans ?_ (lvlL_small hm (Nat.le_refl m)))
  rw [List.length_take]; omega

theorem field_fam (x0 : Int) (a : Option Addr) (n c : Nat) (w : World) : (Instr.field 25 (.agg #[.int .i64 x0, .slice a n c]) 1).run Tryd.prog w = .ok (.slice a n c) w := by kernel_rfl
set_option maxRecDepth 100000 in
set_option maxHeartbeats 8000000 in
theorem specOwn_any (m : Nat) (hm : m ≤ 6) (a : Option Addr) (c : Nat) (zs : List Int) (w : World) (ha : Ints w w.heap.size a zs) (hf : famIn (m : Int) zs = true) :
    Calls Tryd.prog 66 #[.agg #[.int .i64 (m : Int), .slice a zs.length c]] w fun e w' => ∃ v, e = .returned v ∧ Rws w' w.heap.size v ((ownL m zs).map nI) ∧ Below w.heap.size w w' := by
  obtain ⟨hm1, hm6, hl8, hz4⟩ := famIn_out hf
  have hz : ∀ z ∈ zs, 0 ≤ z ∧ z.toNat < 2 ^ m := fun z hz => by
    have h1 := hz4 z hz
    have h3 : fullI (m : Int) = ((2 ^ m - 1 : Nat) : Int) := full_nat m
    have h4 : 1 ≤ 2 ^ m := Nat.one_le_two_pow
    omega
  have hb1 := below2 w (.cells #[.int .i64 (m : Int), .slice a zs.length c] 25) (.cells #[] 23)
  have q0 := alloc2_0 w (.cells #[.int .i64 (m : Int), .slice a zs.length c] 25) (.cells #[] 23)
  have q1 := alloc2_1 w (.cells #[.int .i64 (m : Int), .slice a zs.length c] 25) (.cells #[] 23)
  have hs1 : ((w.alloc (.cells #[.int .i64 (m : Int), .slice a zs.length c] 25)).alloc (.cells #[] 23)).heap.size = w.heap.size + 1 + 1 := by simp
  obtain ⟨w1, hw1⟩ : ∃ w1, (w.alloc (.cells #[.int .i64 (m : Int), .slice a zs.length c] 25)).alloc (.cells #[] 23) = w1 := ⟨_, rfl⟩
  rw [hw1] at hb1 q0 q1 hs1
  obtain ⟨n, hn⟩ : ∃ n, n = zs.length := ⟨_, rfl⟩
  have HN := Lib.hid hn
  have HA := Lib.hid ha
  have HF := Lib.hid hf
  have HZ := Lib.hid hz
  have HB1 := Lib.hid hb1
  have HS1 := Lib.hid hs1
  have HQ1 : Hid (HasBlk w1 (w.heap.size + 1) #[] 23) := Lib.hid q1
  rw [← hn] at hw1 q0 ⊢
  have HQ0 : Hid (HasBlk w1 w.heap.size #[.int .i64 (m : Int), .slice a n c] 25) := Lib.hid q0
  have x0 := (blk_cell q0 0).trans (cell2_0 _ _)
  have x1 := (blk_cell q0 1).trans (cell2_1 _ _)
  have hn8 : n ≤ 8 := by omega
  clear ha hf hz hz4 hb1 q0 q1 hs1 hn hl8
  go_enter Tryd.func66, Tryd.ntmps66
  go_wp2_with fail
  refine (perms_any m hm w1).mono ?_
  rintro e w2 ⟨pv, rfl, hRp, hb2⟩
  obtain ⟨pa, pc, rfl⟩ := hRp.form
  obtain ⟨N, hN⟩ : ∃ N, N = (lvlL m m).length := ⟨_, rfl⟩
  have hNs : N ≤ 46656 := by rw [hN]; exact lvlL_small hm (Nat.le_refl m)
  rw [List.length_map, ← hN]
  have q02 : HasBlk w2 w.heap.size #[.int .i64 (m : Int), .slice a n c] 25 := (hb2.block _ (by have := HS1.out; omega)).trans HQ0.out
  have y0 := (blk_cell q02 0).trans (cell2_0 _ _)
  have y1 := (blk_cell q02 1).trans (cell2_1 _ _)
  have hS := l2Sorted_any a c zs w2 ((HA.out.below (HB1.out.trans (hb2.mono HB1.out.size))).mono (by have := HB1.out.size; have := hb2.size; omega)) (by have := HN.out; omega)
  rw [← HN.out] at hS
  have HRP := Lib.hid hRp
  have HB2 := Lib.hid hb2
  have HNN := Lib.hid hN
  clear hRp hb2 hN q02 x0 x1 hw1
  go_wp2_with fail
  refine hS.mono ?_
  rintro e w3 ⟨la, lc, rfl, hol, hb3⟩
  obtain ⟨ga, hga⟩ : ∃ ga : Nat, ga = (pa.map Addr.block).getD 0 := ⟨_, rfl⟩
  have hs2 : w.heap.size + 1 + 1 ≤ w2.heap.size := by have := HB2.out.size; have := HS1.out; omega
  have hgaw : ga ≠ w.heap.size + 1 ∧ ga < w3.heap.size := by
    obtain ⟨vals, h1, -⟩ := HRP.out
    have := hb3.size
    cases pa with
    | none => rw [hga]; simp only [Option.map, Option.getD]; omega
    | some x =>
      rw [hga]
      simp only [Option.map, Option.getD]
      obtain ⟨h2, h3⟩ := World.ownsRow.lt h1 x.block rfl
      have := HS1.out
      omega
  have HST : Hid (Rws w3 (w.heap.size + 1) (.slice (some ⟨w.heap.size + 1, 0, none⟩) 0 0) (ownF m zs 0)) := Lib.hid (by
    have q3 : w3.heap[w.heap.size + 1]? = some (.cells #[] 23 (0, 0)) := (hb3.block _ (by omega)).trans ((HB2.out.block _ (by have := HS1.out; omega)).trans HQ1.out)
    have := rws_nil w3 (w.heap.size + 1) q3 (Nat.le_refl _)
    simpa [ownF] using this)
  have HRP3 : Hid (Rws w3 (w.heap.size + 1) (.slice pa N pc) ((lvlL m m).map nI)) := Lib.hid (by
    have := (HRP.out.below hb3).base (B' := w.heap.size + 1) (by have := HS1.out; omega)
    rwa [List.length_map, ← HNN.out] at this)
  have HOL : Hid (OwnN w3 (w.heap.size + 1) la n lc (zs.mergeSort leZ)) := Lib.hid (by
    exact hol.base (B' := w.heap.size + 1) (by omega))
  have HB3 : Hid (Below (w.heap.size + 1) w1 w3) := Lib.hid ((HB2.out.mono (by have := HS1.out; omega)).trans (hb3.mono (by omega)))
  have HGA := Lib.hid hga
  have HGW := Lib.hid hgaw
  have HOK : Hid (∀ k, k < N → Okp m (nI ((lvlL m m)[k]?.getD []))) := Lib.hid (fun k hk => by
    have hk' : k < (lvlL m m).length := by have := HNN.out; omega
    rw [List.getElem?_eq_getElem hk', Option.getD_some]
    exact okp_nI hm (lvlL_in (List.getElem_mem hk')) (lvlL_lt (List.getElem_mem hk')))
  have hsW : w.heap.size + 1 + 1 ≤ w3.heap.size := by have := hb3.size; omega
  clear hol hb3 hga hgaw hS y0 y1
  go_wp2
  go_loopw [3, 6] (fun o i wr => ∃ (k : Nat) (ov : Value), k ≤ N ∧ i = .int .i64 (k : Int) ∧ ov = o ∧ Rws wr (w.heap.size + 1) ov (ownF m zs k) ∧ ov.ownBlock ≠ some ga ∧ Rws wr (w.heap.size + 1) (.slice pa N pc) ((lvlL m m).map nI) ∧ OwnN wr (w.heap.size + 1) la n lc (zs.mergeSort leZ) ∧ ga < wr.heap.size ∧ Below (w.heap.size + 1) w1 wr) (fun _ i _ => N - (intOf i).toNat)
  case atStart => exact ⟨0, _, Nat.zero_le _, rfl, rfl, HST.out, by simp [Value.ownBlock]; exact fun e => HGW.out.1 e.symm, HRP3.out, HOL.out, HGW.out.2, HB3.out⟩
  case round =>
    obtain ⟨k, ov, hk, rfl, rfl, hO, hne, hRa, hLi, hgl, hB⟩ := hrel
    by_cases hlt : k < N
    · have hkl : k < (lvlL m m).length := by have := HNN.out; omega
      obtain ⟨p, hp⟩ : ∃ p, p = (lvlL m m)[k] := ⟨_, rfl⟩
      have hpl : p.length = m := by rw [hp]; exact lvlL_in (List.getElem_mem hkl)
      have hok : Okp m (nI p) := by have := HOK.out k hlt; rwa [List.getElem?_eq_getElem hkl, Option.getD_some, ← hp] at this
      have e2 : ((lvlL m m).map nI)[k]?.getD [] = nI p := by rw [List.getElem?_map, List.getElem?_eq_getElem hkl, ← hp]; rfl
      obtain ⟨g, pa', pc', rfl, hcr, hor⟩ := hRa.at_ (i := k) (by rw [List.length_map]; exact hkl)
      rw [e2, nI_len, hpl] at hcr hor
      have hgg : g = ga := by have := HGA.out; simpa using this.symm
      subst hgg
      have hpm : (nI p).length = m := by rw [nI_len, hpl]
      obtain ⟨pb, hpb⟩ : ∃ pb, pb = (keyL zs (nI p) == keyL zs (nI (List.range m))) := ⟨_, rfl⟩
      have HPD : Hid (decide ((zs.map (callZ (nI p))).mergeSort leZ = zs.mergeSort leZ) = pb) := Lib.hid (by rw [hpb]; exact own_pred hm HZ.out (nI p))
      have HNX : Hid (ownF m zs (k + 1) = if pb then ownF m zs k ++ [nI p] else ownF m zs k) := Lib.hid (by
        rw [hpb, hp]
        cases h : (keyL zs (nI (lvlL m m)[k]) == keyL zs (nI (List.range m)))
        · rw [if_neg (by decide)]; exact ownF_no hkl h
        · rw [if_pos rfl]; exact ownF_yes hkl h)
      obtain ⟨wo, hwo⟩ : ∃ wo, wo = wr := ⟨wr, rfl⟩
      subst hwo
      have hBw : Below w.heap.size w wo := HB1.out.trans (hB.mono (by omega))
      have q0 : HasBlk wo w.heap.size #[.int .i64 (m : Int), .slice a n c] 25 := (hB.block _ (by omega)).trans HQ0.out
      have hsz : w.heap.size + 1 + 1 ≤ wo.heap.size := by have := hB.size; have := HS1.out; omega
      have x0 := (blk_cell q0 0).trans (cell2_0 _ _)
      have x1 := (blk_cell q0 1).trans (cell2_1 _ _)
      have HKE : Hid (∀ w', Below wo.heap.size wo w' → w'.cell? ⟨w.heap.size, 0, none⟩ = some (.int .i64 (m : Int)) ∧ w'.cell? ⟨w.heap.size, 1, none⟩ = some (.slice a n c) ∧ w'.cell? ⟨g, k, none⟩ = some (.slice pa' m pc') ∧ Below wo.heap.size wo w') := Lib.hid (fun w' h => ⟨(h.cell (p := ⟨w.heap.size, 0, none⟩) (show w.heap.size < wo.heap.size by omega)).trans x0, (h.cell (p := ⟨w.heap.size, 1, none⟩) (show w.heap.size < wo.heap.size by omega)).trans x1, (h.cell (p := ⟨g, k, none⟩) hgl).trans hcr, h⟩)
      have hDr : Below wo.heap.size wo wo.drew := (Below.refl _ wo).drew
      have hL1 := l1Named_any m a pa' c pc' zs (nI p) wo.drew ((HA.out.below hBw).mono (show w.heap.size ≤ wo.heap.size by omega)) (own_ints (show OwnI wo (w.heap.size + 1) (.slice pa' (nI p).length pc') (nI p) from by rw [hpm]; unfold OwnI; rw [hpm]; exact hor)) HF.out hok
      rw [hpm, ← HN.out] at hL1
      have HSO9 : Hid (∀ w9 a9 c9, OwnI w9 wo.drew.heap.size (.slice a9 (zs.map (callZ (nI p))).length c9) (zs.map (callZ (nI p))) → Calls Tryd.prog 84 #[.slice a9 n c9] w9 fun e w' => ∃ a' c', e = .returned (.slice a' n c') ∧ OwnN w' w9.heap.size a' n c' ((zs.map (callZ (nI p))).mergeSort leZ) ∧ Below w9.heap.size w9 w') := Lib.hid (fun w9 a9 c9 h => by
        have h9 := l2Sorted_any a9 c9 (zs.map (callZ (nI p))) w9 (own_ints h) (by rw [List.length_map]; have := HN.out; omega)
        rwa [List.length_map, ← HN.out] at h9)
      have HEQ : Hid (∀ w10 B a10 c10, OwnN w10 B a10 n c10 ((zs.map (callZ (nI p))).mergeSort leZ) → OwnN w10 (w.heap.size + 1) la n lc (zs.mergeSort leZ) → Calls Tryd.prog 50 #[.slice a10 n c10, .slice la n lc] w10 fun e w' => e = .returned (.bool pb) ∧ Below w10.heap.size w10 w') := Lib.hid (fun w10 B a10 c10 h h' => by
        have l1 : ((zs.map (callZ (nI p))).mergeSort leZ).length = n := by rw [List.length_mergeSort, List.length_map]; exact HN.out.symm
        have l2 : (zs.mergeSort leZ).length = n := by rw [List.length_mergeSort]; exact HN.out.symm
        have h9 := equal_any a10 la c10 lc ((zs.map (callZ (nI p))).mergeSort leZ) (zs.mergeSort leZ) w10 (own_ints (show OwnI w10 B (.slice a10 ((zs.map (callZ (nI p))).mergeSort leZ).length c10) _ from by unfold OwnI; rw [l1]; exact h)) (own_ints (show OwnI w10 (w.heap.size + 1) (.slice la (zs.mergeSort leZ).length lc) _ from by unfold OwnI; rw [l2]; exact h')) (by omega) (by omega)
        rwa [l1, l2, HPD.out] at h9)
      have HLI := Lib.hid hLi
      have HOV := Lib.hid hO
      have HNE := Lib.hid hne
      have HRA := Lib.hid hRa
      have HOR := Lib.hid hor
      have HBO := Lib.hid hB
      have HHN := HN
      have hkI : (k : Int) < (N : Int) := by omega
      have hk0 : (0 : Int) ≤ (k : Int) := by omega
      have hpm := Lib.hid hpm
      clear hp hok e2 hpb hBw q0 hO hne hRa hor hB hLi hkl
      have hff := field_fam
      go_wp2
      go_region_held3 (fun w' => w'.cell? ⟨w.heap.size, 0, none⟩ = some (.int .i64 (m : Int)) ∧ w'.cell? ⟨w.heap.size, 1, none⟩ = some (.slice a n c) ∧ w'.cell? ⟨g, k, none⟩ = some (.slice pa' m pc') ∧ Below wo.heap.size wo w')
        (first
          | exact HKE.out _ hDr
          | exact HKE.out _ (hDr.trans hb9)
          | exact HKE.out _ ((hDr.trans hb9).trans (hb10.mono hb9.size))
          | exact HKE.out _ (((hDr.trans hb9).trans (hb10.mono hb9.size)).trans (hb11.mono (Nat.le_trans hb9.size hb10.size))))
        (first
          | (go_at_call 74; refine hL1.mono ?_; rintro e w9 ⟨a9, c9, rfl, ho9, hb9⟩; rw [List.length_map, ← HHN.out])
          | (go_at_call 84; refine (HSO9.out w9 a9 c9 ho9).mono ?_; rintro e w10 ⟨a10, c10, rfl, ho10, hb10⟩)
          | (go_at_call 50; refine (HEQ.out w10 _ a10 c10 ho10 ((HLI.out.below (hDr.trans hb9)).below (hb10.mono (Nat.le_refl _)))).mono ?_; rintro e w11 ⟨rfl, hb11⟩))
      rename_i hHeld
      obtain ⟨-, -, z2, hbw⟩ := hHeld
      have HBw := Lib.hid hbw
      have hszw : wo.heap.size ≤ w11.heap.size := hbw.size
      have HOVh : Hid (Rws w11 (w.heap.size + 1) ov (ownF m zs k)) := Lib.hid (HOV.out.below hbw)
      have HRAh : Hid (Rws w11 (w.heap.size + 1) (.slice (some ⟨g, 0, none⟩) N pc) ((lvlL m m).map nI)) := Lib.hid (HRA.out.below hbw)
      have HLIh : Hid (OwnN w11 (w.heap.size + 1) la n lc (zs.mergeSort leZ)) := Lib.hid (HLI.out.below hbw)
      have HORh : Hid (OwnN w11 (w.heap.size + 1) pa' m pc' (nI p)) := Lib.hid (HOR.out.below hbw)
      have HBh : Hid (Below (w.heap.size + 1) w1 w11) := Lib.hid (HBO.out.trans (hbw.mono (by omega)))
      have hglh : g < w11.heap.size := by omega
      clear hbw hL1 HSO9 HEQ HKE hDr x0 x1 hcr hff ho9 hb9 ho10 hb10 hb11
      cases pb
      · go_wp2
        go_roundw
        case rel => exact ⟨k + 1, ov, by omega, by go_num, rfl, by rw [HNX.out]; exact HOVh.out, HNE.out, HRAh.out, HLIh.out, hglh, HBh.out⟩
        case measure => simp [intOf]; omega
      · obtain ⟨a5, c5, w5, hr5, hRf, hnf, hgr, ⟨n', xs', hov⟩, hBf⟩ := app_row (k := m) (l := nI p) HOVh.out (by omega) (by have := ownF_len m zs hm k; omega) pa' pc' hpm.out HORh.out g hglh HNE.out
        obtain ⟨T, hT⟩ : ∃ T, T = (ownF m zs k).length + 1 := ⟨_, rfl⟩
        rw [← hT] at hr5 hRf hnf
        have HFIN : Hid (Rws w5 (w.heap.size + 1) (.slice a5 T c5) (ownF m zs (k + 1))) := Lib.hid (by rw [HNX.out, if_pos rfl]; exact hRf)
        have HNF := Lib.hid hnf
        have HRA5 : Hid (Rws w5 (w.heap.size + 1) (.slice (some ⟨g, 0, none⟩) N pc) ((lvlL m m).map nI)) := Lib.hid ((HRAh.out.alloc _).kept hgr rfl hov (Or.inr (fun e => HNE.out e.symm)))
        have HLI5 : Hid (OwnN w5 (w.heap.size + 1) la n lc (zs.mergeSort leZ)) := Lib.hid (by
          have h := World.ownsRow.alloc HLIh.out (.cells #[.slice pa' m pc'] 23)
          exact h.kept hgr (type_ne h hov (by decide)))
        have HB5 : Hid (Below (w.heap.size + 1) w1 w5) := Lib.hid (HBh.out.trans hBf)
        have hg5 : g < w5.heap.size := by have := hBf.size; omega
        clear hRf hnf hgr hov hBf hT
        go_wp2_with (at_builtin; refine wpList_append_eq _ rfl _ _ 82 82 rfl _ _ rfl rfl hr5 ?_)
        go_roundw
        case rel => exact ⟨k + 1, _, by omega, by go_num, rfl, HFIN.out, HNF.out, HRA5.out, HLI5.out, hg5, HB5.out⟩
        case measure => simp [intOf]; omega
    · obtain rfl : k = N := by omega
      have HF : Hid (Rws wr (w.heap.size + 1) ov ((ownL m zs).map nI)) := Lib.hid (by rw [← ownF_all, ← HNN.out]; exact hO)
      have HBF : Hid (Below w.heap.size w wr) := Lib.hid (HB1.out.trans (hB.mono (by omega)))
      clear hO hne hRa hLi hB
      go_wp2
      go_ret
      exact ⟨_, rfl, HF.out.base (by omega), HBF.out⟩

end Go.Proofs.YtjclfpcnfmpjdaaDoor

/- It is proved what l2Best returns; conditions: those of each statement. -/
namespace Go.Proofs.YtjclfpcnfmpjdaaDoor
open Go.RowKit Go.Shelf

/-- The list that the names p make, in order. -/
def lstP (zs : List Int) (p : List Nat) : List Int := (zs.map (callZ (nI p))).mergeSort leZ

/-- The least list of the names up to L[i], and the first names that make it. -/
def bestG (zs : List Int) (L : List (List Nat)) : Nat → List Int × List Nat
  | 0 => (lstP zs (L[0]?.getD []), L[0]?.getD [])
  | i + 1 => if lexB (lstP zs (L[i + 1]?.getD [])) (bestG zs L i).1 then (lstP zs (L[i + 1]?.getD []), L[i + 1]?.getD []) else bestG zs L i

theorem lstP_len (zs : List Int) (p : List Nat) : (lstP zs p).length = zs.length := by unfold lstP; rw [List.length_mergeSort, List.length_map]
theorem bestG_len (zs : List Int) (L : List (List Nat)) : ∀ i, (bestG zs L i).1.length = zs.length
  | 0 => lstP_len _ _
  | i + 1 => by
    rw [bestG]; split
    · exact lstP_len _ _
    · exact bestG_len zs L i

theorem bestG_in (zs : List Int) (L : List (List Nat)) : ∀ i, i < L.length → (bestG zs L i).2 ∈ L
  | 0, h => by rw [bestG, List.getElem?_eq_getElem h]; exact List.getElem_mem h
  | i + 1, h => by
    rw [bestG]; split
    · rw [List.getElem?_eq_getElem h]; exact List.getElem_mem h
    · exact bestG_in zs L i (by omega)

set_option maxRecDepth 100000 in
theorem lvlL_pos_fin : ∀ m : Fin 7, 0 < (lvlL m.val m.val).length := by decide +kernel

theorem lvlL_pos {m : Nat} (hm : m ≤ 6) : 0 < (lvlL m m).length := lvlL_pos_fin ⟨m, by omega⟩
def RetBest (w : World) (n m : Nat) (b : List Int × List Nat) (e : Ending) (w' : World) : Prop :=
  ∃ ba bc na nc, e = .returned (.tuple #[.slice ba n bc, .slice na m nc]) ∧ OwnN w' w.heap.size ba n bc b.1 ∧ OwnN w' w.heap.size na m nc (nI b.2) ∧ Below w.heap.size w w'

set_option maxRecDepth 100000 in
set_option maxHeartbeats 8000000 in
theorem specBest_any (m : Nat) (hm : m ≤ 6) (a : Option Addr) (c : Nat) (zs : List Int) (w : World) (ha : Ints w w.heap.size a zs) (hf : famIn (m : Int) zs = true) :
    Calls Tryd.prog 49 #[.agg #[.int .i64 (m : Int), .slice a zs.length c]] w (RetBest w zs.length m (bestG zs (lvlL m m) ((lvlL m m).length - 1))) := by
  obtain ⟨hm1, hm6, hl8, -⟩ := famIn_out hf
  have hb1 := below1 w (.cells #[.int .i64 (m : Int), .slice a zs.length c] 25)
  have q0 := alloc_new w (.cells #[.int .i64 (m : Int), .slice a zs.length c] 25)
  have hs1 : (w.alloc (.cells #[.int .i64 (m : Int), .slice a zs.length c] 25)).heap.size = w.heap.size + 1 := by simp
  obtain ⟨w1, hw1⟩ : ∃ w1, w.alloc (.cells #[.int .i64 (m : Int), .slice a zs.length c] 25) = w1 := ⟨_, rfl⟩
  rw [hw1] at hb1 q0 hs1
  obtain ⟨n, hn⟩ : ∃ n, n = zs.length := ⟨_, rfl⟩
  have HN := Lib.hid hn
  have HA := Lib.hid ha
  have HF := Lib.hid hf
  have HB1 := Lib.hid hb1
  have HS1 := Lib.hid hs1
  rw [← hn] at hw1 q0 ⊢
  have HQ0 : Hid (HasBlk w1 w.heap.size #[.int .i64 (m : Int), .slice a n c] 25) := Lib.hid q0
  have x0 := (blk_cell q0 0).trans (cell2_0 _ _)
  have hn8 : n ≤ 8 := by omega
  clear ha hf hb1 q0 hs1 hn hl8
  go_enter Tryd.func49, Tryd.ntmps49
  go_wp2_with fail
  refine (perms_any m hm w1).mono ?_
  rintro e w2 ⟨pv, rfl, hRp, hb2⟩
  obtain ⟨pa, pc, rfl⟩ := hRp.form
  obtain ⟨N, hN⟩ : ∃ N, N = (lvlL m m).length := ⟨_, rfl⟩
  have hNs : N ≤ 46656 := by rw [hN]; exact lvlL_small hm (Nat.le_refl m)
  have hN0 : 0 < N := by rw [hN]; exact lvlL_pos hm
  have HNN := Lib.hid hN
  have HOK : Hid (∀ k, k < N → Okp m (nI ((lvlL m m)[k]?.getD [])) ∧ ((lvlL m m)[k]?.getD []).length = m) := Lib.hid (fun k hk => by
    have hk' : k < (lvlL m m).length := by have := HNN.out; omega
    rw [List.getElem?_eq_getElem hk', Option.getD_some]
    exact ⟨okp_nI hm (lvlL_in (List.getElem_mem hk')) (lvlL_lt (List.getElem_mem hk')), lvlL_in (List.getElem_mem hk')⟩)
  have hRp2 : Rws w2 w.heap.size (.slice pa N pc) ((lvlL m m).map nI) := by
    have := hRp.base (B' := w.heap.size) (by have := HS1.out; omega)
    rwa [List.length_map, ← hN] at this
  have HBW2 : Hid (Below w.heap.size w w2) := Lib.hid (HB1.out.trans (hb2.mono (by have := HS1.out; omega)))
  have q02 : HasBlk w2 w.heap.size #[.int .i64 (m : Int), .slice a n c] 25 := (hb2.block _ (by have := HS1.out; omega)).trans HQ0.out
  have hsz2 : w.heap.size + 1 ≤ w2.heap.size := by have := hb2.size; have := HS1.out; omega
  rw [List.length_map, ← hN]
  -- what a list's region leaves, at any world
  have HRUN : Hid (∀ (wo : World) (k : Nat), k < N → HasBlk wo w.heap.size #[.int .i64 (m : Int), .slice a n c] 25 → Below w.heap.size w wo → w.heap.size + 1 ≤ wo.heap.size → Rws wo w.heap.size (.slice pa N pc) ((lvlL m m).map nI) → ∃ g pa' pc', pa = some ⟨g, 0, none⟩ ∧
      (∀ w', Below wo.heap.size wo w' → w'.cell? ⟨w.heap.size, 0, none⟩ = some (.int .i64 (m : Int)) ∧ w'.cell? ⟨w.heap.size, 1, none⟩ = some (.slice a n c) ∧ w'.cell? ⟨g, k, none⟩ = some (.slice pa' m pc') ∧ Below wo.heap.size wo w') ∧
      OwnN wo w.heap.size pa' m pc' (nI ((lvlL m m)[k]?.getD [])) ∧
      Calls Tryd.prog 74 #[.agg #[.int .i64 (m : Int), .slice a n c], .slice pa' m pc'] wo.drew (fun e w' => ∃ a9 c9, e = .returned (.agg #[.int .i64 (m : Int), .slice a9 n c9]) ∧ (Calls Tryd.prog 84 #[.slice a9 n c9] w' fun e w'' => ∃ a' c', e = .returned (.slice a' n c') ∧ OwnN w'' w'.heap.size a' n c' (lstP zs ((lvlL m m)[k]?.getD [])) ∧ Below w'.heap.size w' w'') ∧ Below wo.drew.heap.size wo.drew w')) := Lib.hid (by
    intro wo k hk hq hBw hsz hRa
    obtain ⟨hok, hpl⟩ := HOK.out k hk
    obtain ⟨p, hp⟩ : ∃ p, p = (lvlL m m)[k]?.getD [] := ⟨_, rfl⟩
    rw [← hp] at hok hpl ⊢
    have hkl : k < (lvlL m m).length := by have := HNN.out; omega
    have e2 : ((lvlL m m).map nI)[k]?.getD [] = nI p := by rw [List.getElem?_map, hp, List.getElem?_eq_getElem hkl]; rfl
    obtain ⟨g, pa', pc', rfl, hcr, hor⟩ := hRa.at_ (i := k) (by rw [List.length_map]; exact hkl)
    rw [e2, nI_len, hpl] at hcr hor
    have hpm : (nI p).length = m := by rw [nI_len, hpl]
    have hgl : g < wo.heap.size := lt_of_cell hcr
    have x0 := (blk_cell hq 0).trans (cell2_0 _ _)
    have x1 := (blk_cell hq 1).trans (cell2_1 _ _)
    refine ⟨g, pa', pc', rfl, fun w' h => ⟨(h.cell (p := ⟨w.heap.size, 0, none⟩) (show w.heap.size < wo.heap.size by omega)).trans x0, (h.cell (p := ⟨w.heap.size, 1, none⟩) (show w.heap.size < wo.heap.size by omega)).trans x1, (h.cell (p := ⟨g, k, none⟩) hgl).trans hcr, h⟩, hor, ?_⟩
    have hL1 := l1Named_any m a pa' c pc' zs (nI p) wo.drew ((HA.out.below hBw).mono (show w.heap.size ≤ wo.heap.size by omega)) (own_ints (show OwnI wo w.heap.size (.slice pa' (nI p).length pc') (nI p) from by rw [hpm]; unfold OwnI; rw [hpm]; exact hor)) HF.out hok
    rw [hpm, ← HN.out] at hL1
    refine hL1.mono ?_
    rintro e w9 ⟨a9, c9, rfl, ho9, hb9⟩
    refine ⟨a9, c9, by rw [List.length_map, ← HN.out], ?_, hb9⟩
    have h9 := l2Sorted_any a9 c9 (zs.map (callZ (nI p))) w9 (own_ints ho9) (by rw [List.length_map]; have := HN.out; omega)
    rwa [List.length_map, ← HN.out] at h9)
  obtain ⟨g, pa', pc', rfl, hKE, hor, hL1⟩ := HRUN.out w2 0 hN0 q02 HBW2.out hsz2 hRp2
  have HKE := Lib.hid hKE
  have HOR := Lib.hid hor
  have HRP := Lib.hid hRp2
  have HQ2 := Lib.hid q02
  have hNI : (0 : Int) < (N : Int) := by omega
  have hDr : Below w2.heap.size w2 w2.drew := (Below.refl _ w2).drew
  have hff := field_fam
  clear hRp hRp2 hb2 hN q02 x0 hw1 hKE hor
  go_wp2_with fail
  go_region_held3 (fun w' => w'.cell? ⟨w.heap.size, 0, none⟩ = some (.int .i64 (m : Int)) ∧ w'.cell? ⟨w.heap.size, 1, none⟩ = some (.slice a n c) ∧ w'.cell? ⟨g, 0, none⟩ = some (.slice pa' m pc') ∧ Below w2.heap.size w2 w')
    (first
      | exact HKE.out _ hDr
      | exact HKE.out _ (hDr.trans hb9)
      | exact HKE.out _ ((hDr.trans hb9).trans (hb10.mono hb9.size)))
    (first
      | (go_at_call 74; refine hL1.mono ?_; rintro e w9 ⟨a9, c9, rfl, hS9, hb9⟩)
      | (go_at_call 84; refine hS9.mono ?_; rintro e w10 ⟨a10, c10, rfl, ho10, hb10⟩))
  rename_i hHeld
  obtain ⟨-, -, z2, hbw⟩ := hHeld
  have HBS : Hid (OwnN w10 w.heap.size a10 n c10 (bestG zs (lvlL m m) (1 - 1)).1) := Lib.hid (ho10.base (B' := w.heap.size) (by have := hb9.size; simp at this; omega))
  have HNS : Hid (OwnN w10 w.heap.size pa' m pc' (nI (bestG zs (lvlL m m) (1 - 1)).2)) := Lib.hid (HOR.out.below hbw)
  have HRS : Hid (Rws w10 w.heap.size (.slice (some ⟨g, 0, none⟩) N pc) ((lvlL m m).map nI)) := Lib.hid (HRP.out.below hbw)
  have HQS : Hid (HasBlk w10 w.heap.size #[.int .i64 (m : Int), .slice a n c] 25) := Lib.hid ((hbw.block _ (by omega)).trans HQ2.out)
  have HBS2 : Hid (Below w.heap.size w w10) := Lib.hid (HBW2.out.trans (hbw.mono (by omega)))
  have hsz10 : w.heap.size + 1 ≤ w10.heap.size := by have := hbw.size; omega
  clear hbw hb9 hS9 ho10 hb10 hL1 hDr hff
  go_wp2
  go_loopw [5, 6, 7] (fun b q i wr => ∃ (j : Nat) (ba : Option Addr) (bc : Nat) (na : Option Addr) (nc : Nat), 1 ≤ j ∧ j ≤ N ∧ i = .int .i64 (j : Int) ∧ b = .slice ba n bc ∧ q = .slice na m nc ∧ OwnN wr w.heap.size ba n bc (bestG zs (lvlL m m) (j - 1)).1 ∧ OwnN wr w.heap.size na m nc (nI (bestG zs (lvlL m m) (j - 1)).2) ∧ Rws wr w.heap.size (.slice (some ⟨g, 0, none⟩) N pc) ((lvlL m m).map nI) ∧ HasBlk wr w.heap.size #[.int .i64 (m : Int), .slice a n c] 25 ∧ Below w.heap.size w wr ∧ w.heap.size + 1 ≤ wr.heap.size) (fun _ _ i _ => N - (intOf i).toNat)
  case atStart => exact ⟨1, _, _, _, _, Nat.le_refl _, hN0, rfl, rfl, rfl, HBS.out, HNS.out, HRS.out, HQS.out, HBS2.out, hsz10⟩
  case round =>
    obtain ⟨j, ba, bc, na, nc, hj1, hj, rfl, rfl, rfl, hB, hNm, hRr, hQ, hBl, hsz⟩ := hrel
    obtain ⟨wo, hwo⟩ : ∃ wo, wo = wr := ⟨wr, rfl⟩
    subst hwo
    by_cases hlt : j < N
    · obtain ⟨g', pa2, pc2, hg', hKE, hor, hL1⟩ := HRUN.out wo j hlt hQ hBl hsz hRr
      obtain rfl : g' = g := by injection hg' with e; injection e with e; exact e.symm
      obtain ⟨p, hp⟩ : ∃ p, p = (lvlL m m)[j]?.getD [] := ⟨_, rfl⟩
      rw [← hp] at hor hL1
      obtain ⟨b, hb⟩ : ∃ b, b = bestG zs (lvlL m m) (j - 1) := ⟨_, rfl⟩
      have hbn : b.1.length = n := by rw [hb, bestG_len, HN.out]
      rw [← hb] at hB hNm
      obtain ⟨pb, hpb⟩ : ∃ pb, pb = lexB (lstP zs p) b.1 := ⟨_, rfl⟩
      have HNX : Hid (bestG zs (lvlL m m) (j + 1 - 1) = if pb then (lstP zs p, p) else b) := Lib.hid (by
        rw [show j + 1 - 1 = (j - 1) + 1 from by omega, bestG, show j - 1 + 1 = j from by omega, ← hp, ← hb, ← hpb])
      have HBF : Hid (∀ w10 B a10 c10, OwnN w10 B a10 n c10 (lstP zs p) → OwnN w10 w.heap.size ba n bc b.1 → Calls Tryd.prog 85 #[.slice a10 n c10, .slice ba n bc] w10 fun e w' => e = .returned (.bool pb) ∧ Below w10.heap.size w10 w') := Lib.hid (fun w10 B a10 c10 h h' => by
        have l1 : (lstP zs p).length = n := by rw [lstP_len]; exact HN.out.symm
        have h9 := before_any a10 ba c10 bc (lstP zs p) b.1 w10 (own_ints (show OwnI w10 B (.slice a10 (lstP zs p).length c10) _ from by unfold OwnI; rw [l1]; exact h)) (own_ints (show OwnI w10 w.heap.size (.slice ba b.1.length bc) _ from by unfold OwnI; rw [hbn]; exact h')) (by omega) (by omega)
        rwa [l1, hbn, ← hpb] at h9)
      have HKE := Lib.hid hKE
      have HOR := Lib.hid hor
      have HBO := Lib.hid hB
      have HNO := Lib.hid hNm
      have HRO := Lib.hid hRr
      have HQO := Lib.hid hQ
      have HBL := Lib.hid hBl
      have hDr : Below wo.heap.size wo wo.drew := (Below.refl _ wo).drew
      have hff := field_fam
      have hjI : (j : Int) < (N : Int) := by omega
      have hj0 : (0 : Int) ≤ (j : Int) := by omega
      clear hg' hp hb hbn hpb hB hNm hRr hQ hBl hKE hor
      go_wp2
      go_region_held3 (fun w' => w'.cell? ⟨w.heap.size, 0, none⟩ = some (.int .i64 (m : Int)) ∧ w'.cell? ⟨w.heap.size, 1, none⟩ = some (.slice a n c) ∧ w'.cell? ⟨g', j, none⟩ = some (.slice pa2 m pc2) ∧ Below wo.heap.size wo w')
        (first
          | exact HKE.out _ hDr
          | exact HKE.out _ (hDr.trans hb9)
          | exact HKE.out _ ((hDr.trans hb9).trans (hb10.mono hb9.size)))
        (first
          | (go_at_call 74; refine hL1.mono ?_; rintro e w9 ⟨a9, c9, rfl, hS9, hb9⟩)
          | (go_at_call 84; refine hS9.mono ?_; rintro e w11 ⟨a11, c11, rfl, ho10, hb10⟩))
      rename_i hHeld
      obtain ⟨-, -, -, hbw⟩ := hHeld
      have HLs : Hid (OwnN w11 w.heap.size a11 n c11 (lstP zs p)) := Lib.hid (ho10.base (B' := w.heap.size) (by have := hb9.size; simp at this; omega))
      have hcb := HBF.out w11 _ a11 c11 ho10 (HBO.out.below hbw)
      have HBW := Lib.hid hbw
      have hszw : w.heap.size + 1 ≤ w11.heap.size := by have := hbw.size; omega
      clear hbw hb9 hS9 ho10 hb10 hL1 hDr hff
      go_wp2_with fail
      refine hcb.mono ?_
      rintro e w12 ⟨rfl, hb12⟩
      obtain ⟨-, -, z3, hbw2⟩ := HKE.out w12 (HBW.out.trans (hb12.mono HBW.out.size))
      have HLs2 : Hid (OwnN w12 w.heap.size a11 n c11 (lstP zs p)) := Lib.hid (HLs.out.below hb12)
      have HBO2 : Hid (OwnN w12 w.heap.size ba n bc b.1) := Lib.hid (HBO.out.below hbw2)
      have HNO2 : Hid (OwnN w12 w.heap.size na m nc (nI b.2)) := Lib.hid (HNO.out.below hbw2)
      have HOR2 : Hid (OwnN w12 w.heap.size pa2 m pc2 (nI p)) := Lib.hid (HOR.out.below hbw2)
      have HRO2 : Hid (Rws w12 w.heap.size (.slice (some ⟨g', 0, none⟩) N pc) ((lvlL m m).map nI)) := Lib.hid (HRO.out.below hbw2)
      have HQO2 : Hid (HasBlk w12 w.heap.size #[.int .i64 (m : Int), .slice a n c] 25) := Lib.hid ((hbw2.block _ (by omega)).trans HQO.out)
      have HBL2 : Hid (Below w.heap.size w w12) := Lib.hid (HBL.out.trans (hbw2.mono (by omega)))
      have hsz12 : w.heap.size + 1 ≤ w12.heap.size := by have := hbw2.size; omega
      clear hb12 hbw2 hcb
      cases pb
      · go_wp2
        go_roundw
        case rel => exact ⟨j + 1, ba, bc, na, nc, by omega, by omega, by go_num, rfl, rfl, by rw [HNX.out]; exact HBO2.out, by rw [HNX.out]; exact HNO2.out, HRO2.out, HQO2.out, HBL2.out, hsz12⟩
        case measure => simp [intOf]; omega
      · go_wp2
        go_roundw
        case rel => exact ⟨j + 1, a11, c11, pa2, pc2, by omega, by omega, by go_num, rfl, rfl, by rw [HNX.out]; exact HLs2.out, by rw [HNX.out]; exact HOR2.out, HRO2.out, HQO2.out, HBL2.out, hsz12⟩
        case measure => simp [intOf]; omega
    · obtain rfl : j = N := by omega
      have HFI : Hid (RetBest w n m (bestG zs (lvlL m m) ((lvlL m m).length - 1)) (.returned (.tuple #[.slice ba n bc, .slice na m nc])) wo) := Lib.hid ⟨ba, bc, na, nc, rfl, by rw [← HNN.out]; exact hB, by rw [← HNN.out]; exact hNm, hBl⟩
      clear hB hNm hRr hQ hBl
      go_wp2
      go_ret2
      exact HFI.out

end Go.Proofs.YtjclfpcnfmpjdaaDoor

/- It is proved what cmp.Compare and slices.Compare return for ints; conditions: those of each statement. -/
namespace Go.Proofs.YtjclfpcnfmpjdaaDoor
open Go.RowKit Go.Shelf

def cmpI (x y : Int) : Int := if x < y then -1 else if y < x then 1 else 0
def cmpZ (xs ys : List Int) : Int := if lexB xs ys then -1 else if lexB ys xs then 1 else 0
theorem cmpZ_ne {i : Nat} {xs ys : List Int} (h1 : i < xs.length) (h2 : i < ys.length) (h : ∀ j, j < i → xs[j]?.getD 0 = ys[j]?.getD 0) (hn : xs[i]?.getD 0 ≠ ys[i]?.getD 0) : cmpZ xs ys = cmpI (xs[i]?.getD 0) (ys[i]?.getD 0) := by
  unfold cmpZ cmpI
  rw [lex_ne h1 h2 h hn, lex_ne h2 h1 (fun j hj => (h j hj).symm) (fun e => hn e.symm)]
  simp

theorem lexB_self : ∀ xs : List Int, lexB xs xs = false
  | [] => rfl
  | x :: xs => by rw [lexB, if_pos rfl]; exact lexB_self xs

theorem cmpZ_self (xs : List Int) : cmpZ xs xs = 0 := by simp [cmpZ, lexB_self]
set_option maxRecDepth 100000 in
theorem isNaN_any (x : Int) (w : World) : Calls Tryd.prog 112 #[.int .i64 x] w fun e w' => e = .returned (.bool false) ∧ w = w' := by
  have hx : (x != x) = false := by simp
  go_enter Tryd.func112, Tryd.ntmps112
  go_wp2
  go_ret
  exact ⟨by simp, rfl⟩

set_option maxRecDepth 100000 in
theorem cmpInt_any (x y : Int) (w : World) : Calls Tryd.prog 108 #[.int .i64 x, .int .i64 y] w fun e w' => e = .returned (.int .i64 (cmpI x y)) ∧ w = w' := by
  have h1 := isNaN_any x w
  have h2 := isNaN_any y w
  rcases Int.lt_trichotomy x y with h | h | h
  · go_enter Tryd.func108, Tryd.ntmps108
    go_wp2_with (go_at_call 112; first | (refine h1.mono ?_; rintro e w' ⟨rfl, rfl⟩) | (refine h2.mono ?_; rintro e w' ⟨rfl, rfl⟩))
    go_ret
    exact ⟨by unfold cmpI; rw [if_pos h]; rfl, rfl⟩
  · subst h
    go_enter Tryd.func108, Tryd.ntmps108
    go_wp2_with (go_at_call 112; refine h1.mono ?_; rintro e w' ⟨rfl, rfl⟩)
    go_ret
    exact ⟨by unfold cmpI; rw [if_neg (by omega), if_neg (by omega)]; rfl, rfl⟩
  · have hn : ¬ x < y := by omega
    go_enter Tryd.func108, Tryd.ntmps108
    go_wp2_with (go_at_call 112; first | (refine h1.mono ?_; rintro e w' ⟨rfl, rfl⟩) | (refine h2.mono ?_; rintro e w' ⟨rfl, rfl⟩))
    go_ret
    exact ⟨by unfold cmpI; rw [if_neg (by omega), if_pos h]; rfl, rfl⟩

set_option maxRecDepth 100000 in
set_option maxHeartbeats 4000000 in
theorem compareS_any (a b : Option Addr) (c d n : Nat) (xs ys : List Int) (w : World) (hx : xs.length = n) (hy : ys.length = n) (hn : n ≤ 1048576) (ha : Ints w w.heap.size a xs) (hb : Ints w w.heap.size b ys) :
    Calls Tryd.prog 98 #[.slice a n c, .slice b n d] w fun e w' => e = .returned (.int .i64 (cmpZ xs ys)) ∧ w = w' := by
  have HX := Lib.hid hx
  have HY := Lib.hid hy
  have HA := Lib.hid ha
  have HB := Lib.hid hb
  clear hx hy ha hb
  go_enter Tryd.func98, Tryd.ntmps98
  go_wp2
  go_loop [11] (fun i => ∃ k : Nat, k ≤ n ∧ i = .int .i64 (k : Int) ∧ (∀ j, j < k → xs[j]?.getD 0 = ys[j]?.getD 0)) (fun i => n - (intOf i).toNat)
  case atStart => exact ⟨0, Nat.zero_le _, rfl, fun j h => by omega⟩
  case round =>
    obtain ⟨k, hk, rfl, he⟩ := hrel
    by_cases hlt : k < n
    · obtain ⟨b1, o1, rfl, -, c1⟩ := HA.out.at_ (k := k) (by rw [HX.out]; exact hlt)
      obtain ⟨b2, o2, rfl, -, c2⟩ := HB.out.at_ (k := k) (by rw [HY.out]; exact hlt)
      obtain ⟨x, hxe⟩ : ∃ x, x = xs[k]?.getD 0 := ⟨_, rfl⟩
      obtain ⟨y, hye⟩ : ∃ y, y = ys[k]?.getD 0 := ⟨_, rfl⟩
      rw [← hxe] at c1
      rw [← hye] at c2
      have hk0 : (0 : Int) ≤ (k : Int) := by omega
      have hki : (k : Int) < (n : Int) := by omega
      have hkg : ¬ ((n : Int) ≤ (k : Int)) := by omega
      obtain ⟨z, hz⟩ : ∃ z, z = cmpI x y := ⟨_, rfl⟩
      have hcc := cmpInt_any x y w
      rw [← hz] at hcc
      by_cases hxy : x = y
      · have HE : Hid (∀ j, j < k + 1 → xs[j]?.getD 0 = ys[j]?.getD 0) := Lib.hid (fun j hj => by
          rcases Nat.lt_succ_iff_lt_or_eq.1 hj with h | rfl
          · exact he j h
          · rw [← hxe, ← hye]; exact hxy)
        have hz0 : z = 0 := by rw [hz, hxy]; unfold cmpI; rw [if_neg (by omega), if_neg (by omega)]
        clear he hxe hye hz hxy
        subst hz0
        go_wp2_with (go_at_call 108; refine hcc.mono ?_; rintro e w' ⟨rfl, rfl⟩)
        go_round
        case rel => exact ⟨k + 1, by omega, by go_num, HE.out⟩
        case measure => simp [intOf]; omega
      · have HF : Hid (cmpZ xs ys = z) := Lib.hid (by rw [hz, hxe, hye]; exact cmpZ_ne (by rw [HX.out]; exact hlt) (by rw [HY.out]; exact hlt) he (by rw [← hxe, ← hye]; exact hxy))
        have hz0 : (z != 0) = true := by
          rw [bne_iff_ne, hz]; unfold cmpI
          split
          · decide
          · rw [if_pos (by omega)]; decide
        clear he hxe hye hz hxy
        go_wp2_with (go_at_call 108; refine hcc.mono ?_; rintro e w' ⟨rfl, rfl⟩)
        go_ret
        exact ⟨by rw [HF.out]; rfl, rfl⟩
    · obtain rfl : k = n := by omega
      have HF : Hid (cmpZ xs ys = 0) := Lib.hid (by
        have : xs = ys := List.ext_getElem (by rw [HX.out, HY.out]) (fun j h1 h2 => by
          have := he j (by rw [← HX.out]; exact h1)
          rwa [List.getElem?_eq_getElem h1, List.getElem?_eq_getElem h2] at this)
        rw [this]; exact cmpZ_self ys)
      clear he
      go_wp2
      go_ret
      exact ⟨by rw [HF.out]; rfl, rfl⟩

end Go.Proofs.YtjclfpcnfmpjdaaDoor

/- It is proved what compare of clubList returns; conditions: those of each statement. -/
namespace Go.Proofs.YtjclfpcnfmpjdaaDoor
open Go.RowKit Go.Shelf

theorem eight {xs : List Int} (h : xs.length = 8) : ∃ x0 x1 x2 x3 x4 x5 x6 x7 : Int, xs = [x0, x1, x2, x3, x4, x5, x6, x7] := by
  match xs, h with
  | [x0, x1, x2, x3, x4, x5, x6, x7], _ => exact ⟨_, _, _, _, _, _, _, _, rfl⟩

theorem ints_blk {W : World} {b : Nat} {t : TypeId} {xs : List Int} (h : HasBlk W b (iv xs) t) (B : Nat) (hb : b < B) : Ints W B (some ⟨b, 0, none⟩) xs :=
  .inr ⟨b, 0, rfl, hb, fun j hj => by rw [Nat.zero_add]; exact (blk_cell h j).trans (iv_at xs j hj)⟩

set_option maxRecDepth 100000 in
set_option maxHeartbeats 2000000 in
theorem cmpList_any (xs ys : List Int) (hx : xs.length = 8) (hy : ys.length = 8) (w : World) :
    Calls Tryd.prog 80 #[.agg (iv xs), .agg (iv ys)] w fun e w' => e = .returned (.int .i64 (cmpZ xs ys)) ∧ Below w.heap.size w w' := by
  have hb1 := below2 w (.cells (iv xs) 57) (.cells (iv ys) 57)
  have q0 := alloc2_0 w (.cells (iv xs) 57) (.cells (iv ys) 57)
  have q1 := alloc2_1 w (.cells (iv xs) 57) (.cells (iv ys) 57)
  have hs1 : ((w.alloc (.cells (iv xs) 57)).alloc (.cells (iv ys) 57)).heap.size = w.heap.size + 1 + 1 := by simp
  obtain ⟨w1, hw1⟩ : ∃ w1, (w.alloc (.cells (iv xs) 57)).alloc (.cells (iv ys) 57) = w1 := ⟨_, rfl⟩
  rw [hw1] at hb1 q0 q1 hs1
  have hd : HasBlk w1.drew w.heap.size (iv xs) 57 := q0
  have hd1 : HasBlk w1.drew (w.heap.size + 1) (iv ys) 57 := q1
  have hc := compareS_any (some ⟨w.heap.size, 0, none⟩) (some ⟨w.heap.size + 1, 0, none⟩) 8 8 8 xs ys w1.drew hx hy (by decide) (ints_blk hd _ (show w.heap.size < w1.heap.size by omega)) (ints_blk hd1 _ (show w.heap.size + 1 < w1.heap.size by omega))
  have HB1 := Lib.hid hb1
  obtain ⟨z, hz⟩ : ∃ z, z = cmpZ xs ys := ⟨_, rfl⟩
  rw [← hz] at hc ⊢
  obtain ⟨x0, x1, x2, x3, x4, x5, x6, x7, rfl⟩ := eight hx
  obtain ⟨y0, y1, y2, y3, y4, y5, y6, y7, rfl⟩ := eight hy
  rw [show iv [x0, x1, x2, x3, x4, x5, x6, x7] = #[.int .i64 x0, .int .i64 x1, .int .i64 x2, .int .i64 x3, .int .i64 x4, .int .i64 x5, .int .i64 x6, .int .i64 x7] from rfl, show iv [y0, y1, y2, y3, y4, y5, y6, y7] = #[.int .i64 y0, .int .i64 y1, .int .i64 y2, .int .i64 y3, .int .i64 y4, .int .i64 y5, .int .i64 y6, .int .i64 y7] from rfl] at hw1 ⊢
  clear hb1 q0 q1 hd hd1 hx hy hz
  go_enter Tryd.func80, Tryd.ntmps80
  go_wp2
  go_region_held3 (fun w' => w' = w1.drew) (exact rfl) (first
    | (go_at_call 98; refine hc.mono ?_; rintro e w2 ⟨rfl, rfl⟩))
  rename_i hHeld
  clear hHeld
  go_wp2
  go_ret
  exact ⟨rfl, HB1.out.drew⟩

end Go.Proofs.YtjclfpcnfmpjdaaDoor

/- It is proved what slices.MinFunc returns for lists of clubs by their compare; conditions: those of each statement. -/
namespace Go.Proofs.YtjclfpcnfmpjdaaDoor
open Go.RowKit Go.Shelf

/-- Arrays of eight ints, one behind the other. -/
def Arr8 (W : World) (g : Nat) (L : List (List Int)) : Prop := ∀ i, i < L.length → (L[i]?.getD []).length = 8 ∧ ∀ j, j < 8 → W.cell? ⟨g, i * 8 + j, none⟩ = some (.int .i64 ((L[i]?.getD [])[j]?.getD 0))

theorem Arr8.below {W W' : World} {B g : Nat} {L : List (List Int)} (h : Arr8 W g L) (hb : Below B W W') (hg : g < B) : Arr8 W' g L := fun i hi => ⟨(h i hi).1, fun j hj => (hb.cell (p := ⟨g, i * 8 + j, none⟩) hg).trans ((h i hi).2 j hj)⟩
theorem Arr8.at8 {W : World} {g : Nat} {L : List (List Int)} (h : Arr8 W g L) {i : Nat} (hi : i < L.length) : ∃ y0 y1 y2 y3 y4 y5 y6 y7 : Int, L[i]?.getD [] = [y0, y1, y2, y3, y4, y5, y6, y7] ∧ W.cell? ⟨g, i * 8, none⟩ = some (.int .i64 y0) ∧ W.cell? ⟨g, i * 8 + 1, none⟩ = some (.int .i64 y1) ∧ W.cell? ⟨g, i * 8 + 2, none⟩ = some (.int .i64 y2) ∧ W.cell? ⟨g, i * 8 + 3, none⟩ = some (.int .i64 y3) ∧ W.cell? ⟨g, i * 8 + 4, none⟩ = some (.int .i64 y4) ∧ W.cell? ⟨g, i * 8 + 5, none⟩ = some (.int .i64 y5) ∧ W.cell? ⟨g, i * 8 + 6, none⟩ = some (.int .i64 y6) ∧ W.cell? ⟨g, i * 8 + 7, none⟩ = some (.int .i64 y7) := by
  obtain ⟨h8, hc⟩ := h i hi
  obtain ⟨y0, y1, y2, y3, y4, y5, y6, y7, hy⟩ := eight h8
  rw [hy] at hc
  exact ⟨y0, y1, y2, y3, y4, y5, y6, y7, hy, hc 0 (by decide), hc 1 (by decide), hc 2 (by decide), hc 3 (by decide), hc 4 (by decide), hc 5 (by decide), hc 6 (by decide), hc 7 (by decide)⟩

theorem store8u {W : World} {R t : Nat} {K : List Int} (hk : K.length = 8) (h : Nums W R t K) (u0 u1 u2 u3 u4 u5 u6 u7 : Int) : ∃ W', ((((((((W.setCell ⟨R, 0, none⟩ (.int .i64 u0)).setCell ⟨R, 1, none⟩ (.int .i64 u1)).setCell ⟨R, 2, none⟩ (.int .i64 u2)).setCell ⟨R, 3, none⟩ (.int .i64 u3)).setCell ⟨R, 4, none⟩ (.int .i64 u4)).setCell ⟨R, 5, none⟩ (.int .i64 u5)).setCell ⟨R, 6, none⟩ (.int .i64 u6)).setCell ⟨R, 7, none⟩ (.int .i64 u7)) = W' ∧ Nums W' R t [u0, u1, u2, u3, u4, u5, u6, u7] ∧ ∀ (B : Nat), B ≤ R → Below B W W' := by
  refine ⟨_, rfl, ?_, fun B hB => ?_⟩
  · obtain ⟨x0, x1, x2, x3, x4, x5, x6, x7, rfl⟩ := eight hk
    exact (((((((h.set 0 u0).set 1 u1).set 2 u2).set 3 u3).set 4 u4).set 5 u5).set 6 u6).set 7 u7
  · exact (((((((((Below.refl B W).setCell (p := ⟨R, 0, none⟩) hB _).setCell (p := ⟨R, 1, none⟩) hB _).setCell (p := ⟨R, 2, none⟩) hB _).setCell (p := ⟨R, 3, none⟩) hB _).setCell (p := ⟨R, 4, none⟩) hB _).setCell (p := ⟨R, 5, none⟩) hB _).setCell (p := ⟨R, 6, none⟩) hB _).setCell (p := ⟨R, 7, none⟩) hB _)

/-- The least of the first lists, the first of equals. -/
def minG (L : List (List Int)) : Nat → List Int
  | 0 => L[0]?.getD []
  | i + 1 => if lexB (L[i + 1]?.getD []) (minG L i) then L[i + 1]?.getD [] else minG L i

theorem minG_len {L : List (List Int)} (h : ∀ i, i < L.length → (L[i]?.getD []).length = 8) : ∀ i, i < L.length → (minG L i).length = 8
  | 0, hi => h 0 hi
  | i + 1, hi => by
    rw [minG]; split
    · exact h _ hi
    · exact minG_len h i (by omega)

set_option maxRecDepth 100000 in
set_option maxHeartbeats 4000000 in
theorem minFunc_any (g c n : Nat) (L : List (List Int)) (w : World) (hL : L.length = n) (hn : 0 < n) (hn2 : n ≤ 100000) (hg : g < w.heap.size) (hA : Arr8 w g L) :
    Calls Tryd.prog 77 #[.slice (some ⟨g, 0, none⟩) n c, .func (.func 80) #[] #[]] w fun e w' => e = .returned (.agg (iv (minG L (n - 1)))) ∧ Below w.heap.size w w' := by
  have hnI : (0 : Int) < (n : Int) := by omega
  have hn1 : ¬ ((n : Int) < 1) := by omega
  have hb1 := below1 w (.cells (iv z8) 57)
  have hA1 := hA.below hb1 hg
  have hs1 : (w.alloc (.cells (iv z8) 57)).heap.size = w.heap.size + 1 := by simp
  have q1 := alloc_new w (.cells (iv z8) 57)
  obtain ⟨w1, hw1⟩ : ∃ w1, w.alloc (.cells (iv z8) 57) = w1 := ⟨_, rfl⟩
  rw [hw1] at hb1 hA1 hs1 q1
  obtain ⟨y0, y1, y2, y3, y4, y5, y6, y7, hy, c0, c1, c2, c3, c4, c5, c6, c7⟩ := hA1.at8 (i := 0) (by rw [hL]; exact hn)
  simp only [Nat.zero_mul, Nat.zero_add] at c0 c1 c2 c3 c4 c5 c6 c7
  have hb2 : Below w.heap.size w (w1.alloc (.cells (iv (minG L 0)) 57)) := hb1.alloc (by omega) _
  have hA2 : Arr8 (w1.alloc (.cells (iv (minG L 0)) 57)) g L := hA.below hb2 hg
  have q2 : HasBlk (w1.alloc (.cells (iv (minG L 0)) 57)) (w.heap.size + 1) (iv (minG L 0)) 57 := by rw [← hs1]; exact alloc_new w1 _
  have hs2 : (w1.alloc (.cells (iv (minG L 0)) 57)).heap.size = w.heap.size + 1 + 1 := by simp; omega
  have q12 : HasBlk (w1.alloc (.cells (iv (minG L 0)) 57)) w.heap.size (iv z8) 57 := HasBlk.alloc q1 _
  obtain ⟨w2, hw2⟩ : ∃ w2, w1.alloc (.cells (iv (minG L 0)) 57) = w2 := ⟨_, rfl⟩
  rw [hw2] at hb2 hA2 q2 hs2 q12
  rw [show iv z8 = #[.int .i64 0, .int .i64 0, .int .i64 0, .int .i64 0, .int .i64 0, .int .i64 0, .int .i64 0, .int .i64 0] from rfl] at hw1
  rw [minG, hy, show iv [y0, y1, y2, y3, y4, y5, y6, y7] = #[.int .i64 y0, .int .i64 y1, .int .i64 y2, .int .i64 y3, .int .i64 y4, .int .i64 y5, .int .i64 y6, .int .i64 y7] from rfl] at hw2
  have HB2 := Lib.hid hb2
  have HA2 := Lib.hid hA2
  have HQ2 := Lib.hid q2
  have HQ12 := Lib.hid q12
  have HS2 := Lib.hid hs2
  have HLN := Lib.hid hL
  have HA := Lib.hid hA
  clear hb1 hA1 q1 hb2 hA2 q2 q12 hs2 hy hA hL
  go_enter Tryd.func77, Tryd.ntmps77
  go_wp2
  go_loopw [6] (fun i wr => ∃ (j : Nat), 1 ≤ j ∧ j ≤ n ∧ i = .int .i64 (j : Int) ∧ HasBlk wr (w.heap.size + 1) (iv (minG L (j - 1))) 57 ∧ HasBlk wr w.heap.size (iv z8) 57 ∧ Below w.heap.size w wr ∧ w.heap.size + 1 + 1 ≤ wr.heap.size) (fun i _ => n - (intOf i).toNat)
  case atStart => exact ⟨1, Nat.le_refl _, hn, rfl, HQ2.out, HQ12.out, HB2.out, by have := HS2.out; omega⟩
  case round =>
    obtain ⟨j, hj1, hj, rfl, hq, hqr, hB, hsz⟩ := hrel
    by_cases hlt : j < n
    · obtain ⟨wo, hwo⟩ : ∃ wo, wo = wr := ⟨wr, rfl⟩
      subst hwo
      have hjl : j < L.length := by rw [HLN.out]; exact hlt
      have h8 : ∀ i, i < L.length → (L[i]?.getD []).length = 8 := fun i hi => (HA.out i hi).1
      have hmlen : (minG L (j - 1)).length = 8 := minG_len h8 _ (by omega)
      obtain ⟨x, hx⟩ : ∃ x, x = L[j]?.getD [] := ⟨_, rfl⟩
      obtain ⟨mm, hm⟩ : ∃ mm, mm = minG L (j - 1) := ⟨_, rfl⟩
      have hxl : x.length = 8 := by rw [hx]; exact h8 j hjl
      rw [← hm] at hmlen hq
      obtain ⟨pb, hpb⟩ : ∃ pb, pb = lexB x mm := ⟨_, rfl⟩
      have HNX : Hid (minG L (j + 1 - 1) = if pb then x else mm) := Lib.hid (by
        rw [show j + 1 - 1 = (j - 1) + 1 from by omega, minG, show j - 1 + 1 = j from by omega, ← hx, ← hm, ← hpb])
      have hc := cmpList_any x mm hxl hmlen wo.drew
      obtain ⟨z, hz⟩ : ∃ z, z = cmpZ x mm := ⟨_, rfl⟩
      rw [← hz] at hc
      have hzp : decide (z < 0) = pb := by
        rw [hz, hpb]; unfold cmpZ
        cases lexB x mm
        · rw [if_neg (by decide)]; split <;> decide
        · rw [if_pos rfl]; decide
      have HAo := HA.out.below hB hg
      obtain ⟨u0, u1, u2, u3, u4, u5, u6, u7, hu, d0, d1, d2, d3, d4, d5, d6, d7⟩ := HAo.at8 (i := j) hjl
      rw [← hx] at hu
      obtain ⟨v0, v1, v2, v3, v4, v5, v6, v7, hv⟩ := eight hmlen
      have HU := Lib.hid hu
      have HV := Lib.hid hv
      rw [hu, hv, show iv [u0, u1, u2, u3, u4, u5, u6, u7] = #[.int .i64 u0, .int .i64 u1, .int .i64 u2, .int .i64 u3, .int .i64 u4, .int .i64 u5, .int .i64 u6, .int .i64 u7] from rfl, show iv [v0, v1, v2, v3, v4, v5, v6, v7] = #[.int .i64 v0, .int .i64 v1, .int .i64 v2, .int .i64 v3, .int .i64 v4, .int .i64 v5, .int .i64 v6, .int .i64 v7] from rfl] at hc
      rw [hv] at hq
      have e0 := blk_cell hq 0
      have e1 := blk_cell hq 1
      have e2 := blk_cell hq 2
      have e3 := blk_cell hq 3
      have e4 := blk_cell hq 4
      have e5 := blk_cell hq 5
      have e6 := blk_cell hq 6
      have e7 := blk_cell hq 7
      rw [show iv [v0, v1, v2, v3, v4, v5, v6, v7] = #[.int .i64 v0, .int .i64 v1, .int .i64 v2, .int .i64 v3, .int .i64 v4, .int .i64 v5, .int .i64 v6, .int .i64 v7] from rfl] at e0 e1 e2 e3 e4 e5 e6 e7
      have hgl : g < wo.heap.size := by omega
      have HKE : Hid (∀ w', Below wo.heap.size wo w' → w'.cell? ⟨g, j * 8, none⟩ = some (.int .i64 u0) ∧ w'.cell? ⟨g, j * 8 + 1, none⟩ = some (.int .i64 u1) ∧ w'.cell? ⟨g, j * 8 + 2, none⟩ = some (.int .i64 u2) ∧ w'.cell? ⟨g, j * 8 + 3, none⟩ = some (.int .i64 u3) ∧ w'.cell? ⟨g, j * 8 + 4, none⟩ = some (.int .i64 u4) ∧ w'.cell? ⟨g, j * 8 + 5, none⟩ = some (.int .i64 u5) ∧ w'.cell? ⟨g, j * 8 + 6, none⟩ = some (.int .i64 u6) ∧ w'.cell? ⟨g, j * 8 + 7, none⟩ = some (.int .i64 u7) ∧ w'.cell? ⟨w.heap.size + 1, 0, none⟩ = some (.int .i64 v0) ∧ w'.cell? ⟨w.heap.size + 1, 1, none⟩ = some (.int .i64 v1) ∧ w'.cell? ⟨w.heap.size + 1, 2, none⟩ = some (.int .i64 v2) ∧ w'.cell? ⟨w.heap.size + 1, 3, none⟩ = some (.int .i64 v3) ∧ w'.cell? ⟨w.heap.size + 1, 4, none⟩ = some (.int .i64 v4) ∧ w'.cell? ⟨w.heap.size + 1, 5, none⟩ = some (.int .i64 v5) ∧ w'.cell? ⟨w.heap.size + 1, 6, none⟩ = some (.int .i64 v6) ∧ w'.cell? ⟨w.heap.size + 1, 7, none⟩ = some (.int .i64 v7) ∧ Below wo.heap.size wo w') := Lib.hid (fun w' h => ⟨(h.cell (p := ⟨g, j * 8, none⟩) hgl).trans d0, (h.cell (p := ⟨g, j * 8 + 1, none⟩) hgl).trans d1, (h.cell (p := ⟨g, j * 8 + 2, none⟩) hgl).trans d2, (h.cell (p := ⟨g, j * 8 + 3, none⟩) hgl).trans d3, (h.cell (p := ⟨g, j * 8 + 4, none⟩) hgl).trans d4, (h.cell (p := ⟨g, j * 8 + 5, none⟩) hgl).trans d5, (h.cell (p := ⟨g, j * 8 + 6, none⟩) hgl).trans d6, (h.cell (p := ⟨g, j * 8 + 7, none⟩) hgl).trans d7, (h.cell (p := ⟨w.heap.size + 1, 0, none⟩) (show w.heap.size + 1 < wo.heap.size by omega)).trans e0, (h.cell (p := ⟨w.heap.size + 1, 1, none⟩) (show w.heap.size + 1 < wo.heap.size by omega)).trans e1, (h.cell (p := ⟨w.heap.size + 1, 2, none⟩) (show w.heap.size + 1 < wo.heap.size by omega)).trans e2, (h.cell (p := ⟨w.heap.size + 1, 3, none⟩) (show w.heap.size + 1 < wo.heap.size by omega)).trans e3, (h.cell (p := ⟨w.heap.size + 1, 4, none⟩) (show w.heap.size + 1 < wo.heap.size by omega)).trans e4, (h.cell (p := ⟨w.heap.size + 1, 5, none⟩) (show w.heap.size + 1 < wo.heap.size by omega)).trans e5, (h.cell (p := ⟨w.heap.size + 1, 6, none⟩) (show w.heap.size + 1 < wo.heap.size by omega)).trans e6, (h.cell (p := ⟨w.heap.size + 1, 7, none⟩) (show w.heap.size + 1 < wo.heap.size by omega)).trans e7, h⟩)
      have HQO := Lib.hid hq
      have HQR := Lib.hid hqr
      have HBO := Lib.hid hB
      have hDr : Below wo.heap.size wo wo.drew := (Below.refl _ wo).drew
      have hjI : (j : Int) < (n : Int) := by omega
      have hj0 : (0 : Int) ≤ (j : Int) := by omega
      clear hx hm hxl hmlen hpb hz h8 hu hv hq hqr hB HAo d0 d1 d2 d3 d4 d5 d6 d7 e0 e1 e2 e3 e4 e5 e6 e7
      go_wp2
      go_region_held3 (fun w' => w'.cell? ⟨g, j * 8, none⟩ = some (.int .i64 u0) ∧ w'.cell? ⟨g, j * 8 + 1, none⟩ = some (.int .i64 u1) ∧ w'.cell? ⟨g, j * 8 + 2, none⟩ = some (.int .i64 u2) ∧ w'.cell? ⟨g, j * 8 + 3, none⟩ = some (.int .i64 u3) ∧ w'.cell? ⟨g, j * 8 + 4, none⟩ = some (.int .i64 u4) ∧ w'.cell? ⟨g, j * 8 + 5, none⟩ = some (.int .i64 u5) ∧ w'.cell? ⟨g, j * 8 + 6, none⟩ = some (.int .i64 u6) ∧ w'.cell? ⟨g, j * 8 + 7, none⟩ = some (.int .i64 u7) ∧ w'.cell? ⟨w.heap.size + 1, 0, none⟩ = some (.int .i64 v0) ∧ w'.cell? ⟨w.heap.size + 1, 1, none⟩ = some (.int .i64 v1) ∧ w'.cell? ⟨w.heap.size + 1, 2, none⟩ = some (.int .i64 v2) ∧ w'.cell? ⟨w.heap.size + 1, 3, none⟩ = some (.int .i64 v3) ∧ w'.cell? ⟨w.heap.size + 1, 4, none⟩ = some (.int .i64 v4) ∧ w'.cell? ⟨w.heap.size + 1, 5, none⟩ = some (.int .i64 v5) ∧ w'.cell? ⟨w.heap.size + 1, 6, none⟩ = some (.int .i64 v6) ∧ w'.cell? ⟨w.heap.size + 1, 7, none⟩ = some (.int .i64 v7) ∧ Below wo.heap.size wo w')
        (first
          | exact HKE.out _ hDr
          | exact HKE.out _ (hDr.trans hb9))
        (first
          | (go_at_call 80; refine hc.mono ?_; rintro e w9 ⟨rfl, hb9⟩))
      rename_i hHeld
      obtain ⟨f0, f1, f2, f3, f4, f5, f6, f7, -, -, -, -, -, -, -, -, hbw⟩ := hHeld
      have HQ9 : Hid (HasBlk w9 (w.heap.size + 1) (iv mm) 57) := Lib.hid ((hbw.block _ (by omega)).trans (by rw [HV.out]; exact HQO.out))
      have HQR9 : Hid (HasBlk w9 w.heap.size (iv z8) 57) := Lib.hid ((hbw.block _ (by omega)).trans HQR.out)
      have HB9 : Hid (Below w.heap.size w w9) := Lib.hid (HBO.out.trans (hbw.mono (by omega)))
      have hsz9 : w.heap.size + 1 + 1 ≤ w9.heap.size := by have := hbw.size; omega
      clear hbw hb9 hc hDr hzp
      cases pb
      · go_wp2
        go_roundw
        case rel => exact ⟨j + 1, by omega, by omega, by go_num, by rw [HNX.out]; exact HQ9.out, HQR9.out, HB9.out, hsz9⟩
        case measure => simp [intOf]; omega
      · have q9 := HQ9.out
        rw [HV.out, show iv [v0, v1, v2, v3, v4, v5, v6, v7] = #[.int .i64 v0, .int .i64 v1, .int .i64 v2, .int .i64 v3, .int .i64 v4, .int .i64 v5, .int .i64 v6, .int .i64 v7] from rfl] at q9
        have g0 := blk_cell q9 0
        have g1 := blk_cell q9 1
        have g2 := blk_cell q9 2
        have g3 := blk_cell q9 3
        have g4 := blk_cell q9 4
        have g5 := blk_cell q9 5
        have g6 := blk_cell q9 6
        have g7 := blk_cell q9 7
        have z0 := blk_frozen q9 0
        have z1 := blk_frozen q9 1
        have z2 := blk_frozen q9 2
        have z3 := blk_frozen q9 3
        have z4 := blk_frozen q9 4
        have z5 := blk_frozen q9 5
        have z6 := blk_frozen q9 6
        have z7 := blk_frozen q9 7
        obtain ⟨Wf, hWf, hF, hBf⟩ := store8u (K := mm) (by rw [HV.out]; rfl) HQ9.out u0 u1 u2 u3 u4 u5 u6 u7
        have HWF := Lib.hid hWf
        have HNF : Hid (HasBlk Wf (w.heap.size + 1) (iv x) 57) := Lib.hid (by rw [HU.out]; exact hF)
        have hbf := hBf (w.heap.size + 1) (Nat.le_refl _)
        have HQRF : Hid (HasBlk Wf w.heap.size (iv z8) 57) := Lib.hid ((hbf.block _ (by omega)).trans HQR9.out)
        have HBF : Hid (Below w.heap.size w Wf) := Lib.hid (HB9.out.trans (hbf.mono (by omega)))
        have hszf : w.heap.size + 1 + 1 ≤ Wf.heap.size := Nat.le_trans hsz9 hbf.size
        clear q9 hWf hF hBf hbf
        go_wp2
        rw [HWF.out]
        go_roundw
        case rel => exact ⟨j + 1, by omega, by omega, by go_num, by rw [HNX.out]; exact HNF.out, HQRF.out, HBF.out, hszf⟩
        case measure => simp [intOf]; omega
    · obtain rfl : j = n := by omega
      have h8 : (minG L (j - 1)).length = 8 := minG_len (fun i hi => (HA.out i hi).1) _ (by have := HLN.out; omega)
      obtain ⟨v0, v1, v2, v3, v4, v5, v6, v7, hv⟩ := eight h8
      rw [hv, show iv [v0, v1, v2, v3, v4, v5, v6, v7] = #[.int .i64 v0, .int .i64 v1, .int .i64 v2, .int .i64 v3, .int .i64 v4, .int .i64 v5, .int .i64 v6, .int .i64 v7] from rfl] at hq
      have HV : Hid (minG L (j - 1) = [v0, v1, v2, v3, v4, v5, v6, v7]) := Lib.hid hv
      have e0 := blk_cell hq 0
      have e1 := blk_cell hq 1
      have e2 := blk_cell hq 2
      have e3 := blk_cell hq 3
      have e4 := blk_cell hq 4
      have e5 := blk_cell hq 5
      have e6 := blk_cell hq 6
      have e7 := blk_cell hq 7
      have hqr' := hqr
      rw [show iv z8 = #[.int .i64 0, .int .i64 0, .int .i64 0, .int .i64 0, .int .i64 0, .int .i64 0, .int .i64 0, .int .i64 0] from rfl] at hqr'
      have g0 := blk_cell hqr' 0
      have g1 := blk_cell hqr' 1
      have g2 := blk_cell hqr' 2
      have g3 := blk_cell hqr' 3
      have g4 := blk_cell hqr' 4
      have g5 := blk_cell hqr' 5
      have g6 := blk_cell hqr' 6
      have g7 := blk_cell hqr' 7
      have z0 := blk_frozen hqr 0
      have z1 := blk_frozen hqr 1
      have z2 := blk_frozen hqr 2
      have z3 := blk_frozen hqr 3
      have z4 := blk_frozen hqr 4
      have z5 := blk_frozen hqr 5
      have z6 := blk_frozen hqr 6
      have z7 := blk_frozen hqr 7
      obtain ⟨Wf, hWf, hF, hBf⟩ := store8u (K := z8) rfl hqr v0 v1 v2 v3 v4 v5 v6 v7
      have HWF := Lib.hid hWf
      have HFB : Hid (Below w.heap.size w Wf) := Lib.hid (hB.trans (hBf _ (Nat.le_refl _)))
      have r0 : Wf.cell? ⟨w.heap.size, 0, none⟩ = some (.int .i64 v0) := by have := hF.cell 0 (by simp); simpa using this
      have r1 : Wf.cell? ⟨w.heap.size, 1, none⟩ = some (.int .i64 v1) := by have := hF.cell 1 (by simp); simpa using this
      have r2 : Wf.cell? ⟨w.heap.size, 2, none⟩ = some (.int .i64 v2) := by have := hF.cell 2 (by simp); simpa using this
      have r3 : Wf.cell? ⟨w.heap.size, 3, none⟩ = some (.int .i64 v3) := by have := hF.cell 3 (by simp); simpa using this
      have r4 : Wf.cell? ⟨w.heap.size, 4, none⟩ = some (.int .i64 v4) := by have := hF.cell 4 (by simp); simpa using this
      have r5 : Wf.cell? ⟨w.heap.size, 5, none⟩ = some (.int .i64 v5) := by have := hF.cell 5 (by simp); simpa using this
      have r6 : Wf.cell? ⟨w.heap.size, 6, none⟩ = some (.int .i64 v6) := by have := hF.cell 6 (by simp); simpa using this
      have r7 : Wf.cell? ⟨w.heap.size, 7, none⟩ = some (.int .i64 v7) := by have := hF.cell 7 (by simp); simpa using this
      clear hq hqr hqr' hB hWf hF hBf hv h8
      go_wp2
      rw [HWF.out]
      refine bodyPost_ret (v := .agg #[.int .i64 v0, .int .i64 v1, .int .i64 v2, .int .i64 v3, .int .i64 v4, .int .i64 v5, .int .i64 v6, .int .i64 v7]) (by simp [results, Tryd.results77, go_sem, r0, r1, r2, r3, r4, r5, r6, r7]) rfl ⟨by rw [HV.out]; rfl, HFB.out⟩

end Go.Proofs.YtjclfpcnfmpjdaaDoor
