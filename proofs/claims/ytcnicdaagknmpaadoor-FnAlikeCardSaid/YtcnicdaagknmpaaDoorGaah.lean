/- It is proved what a map holds to which all names have been told, list by list; conditions: those of each statement. -/
import Derived.RowKit
import Derived.Laws.CopyRow
import Derived.Lib.SlBuf
import Derived.RangeFuncNested
import Derived.RangeFuncBound
import Derived.RangeFuncCalls
import Derived.RangeFuncLeaves
import Derived.RangeFuncBox
import Derived.RangeFuncWrites
import Derived.Maps.OwnIn
import Derived.Maps.Ext
import Derived.DeepKeys4
import Derived.MapKept
import Derived.Test.YtcnicdaagknmpaaDoorRows
import Derived.WalkKit
import Derived.WalkSpells
import Derived.ProofKit
import Derived.OpenShut
import Derived.ShutString
import Derived.ChangeOld
import Derived.Below
import Derived.Deep.RegionHeld3
import Derived.Deep.QuietTactic
import Derived.BigQuiet
import Derived.Lib.Hide
import Derived.Lib.SmallJoins
import Derived.Outline
import Derived.Laws.MakeOwn
import Derived.Laws.OwnMore
import Derived.IntWalk
import Derived.Lib.AppendZeros
import Derived.Maps.AppendAt
import Derived.Deep.AppendLies
import Derived.OwnWalk
import Derived.Lib.SlicesCompact
import Derived.Lib.OwnBridge
import Derived.Shelf.Sort.Plain
import Derived.Shelf.Slices.In.SortNone
import Derived.Shelf.Slices.CompactI
import Derived.Ground.Names2Prog
import Derived.Shelf.Abstract
import Derived.Shelf.RegionOpen
import Derived.OwnWalkIn
import Derived.TacticsInMore
import Derived.LoopNIn
import Derived.LoopIn
import Derived.StillTail
import Derived.StillTactics
import Derived.OrdersIn
import Derived.TacticsIn
import Derived.Shelf.Spec.TrailingZeros
import Derived.StillTailTactics
import Derived.Test.YtcnicdaagknmpaaDoorGaad
import Derived.Test.YtcnicdaagknmpaaDoorGaae
import Derived.Test.YtcnicdaagknmpaaDoorGaag
import Derived.Test.YtcnicdaagknmpaaDoorGaac
import Derived.Test.YtcnicdaagknmpaaDoorGaaa
import Derived.Test.YtcnicdaagknmpaaDoorGaaf
import Derived.Test.YtcnicdaagknmpaaDoorGaab
namespace Go.Proofs.YtcnicdaagknmpaaDoor
open Go.RowKit Go.Shelf Go.Maps

theorem wfI_small {x : Int} (h0 : 0 ≤ x) (h1 : x ≤ 1000000) : wfI x := WalkArith.wf_i64 (by omega)
/-- A list that may be a key. -/
def WfK (L : List Int) : Prop := L.length = 8 ∧ ∀ x ∈ L, wfI x

noncomputable def keyLit (L : List Int) : Lit := open Classical in if h : ∃ l, keyOf Tryd.prog 47 (.agg (iv L)) = some l then h.choose else .bool true
theorem keyLit_key {L : List Int} (h : WfK L) : keyOf Tryd.prog 47 (.agg (iv L)) = some (keyLit L) := by
  have hl := key_some h.1 h.2
  unfold keyLit
  rw [dif_pos hl]
  exact hl.choose_spec

theorem keyLit_inj {L M : List Int} (hL : WfK L) (hM : WfK M) (h : keyLit L = keyLit M) : L = M := by
  have e := keyLaw.inj (keyLit_key hL) (by rw [h]; exact keyLit_key hM)
  injection e with e
  exact iv_inj e

theorem keyLit_lit {L : List Int} (h : WfK L) : WideAt.IsKeyLit (keyLit L) := keyLaw.key (keyLit_key h)
def zero13 : List Int := List.replicate 13 0
/-- What is known of the names in L that make the list c. -/
def nmL (zs : List Int) (L : List (List Nat)) (c : List Int) : List Int := (L.filter fun p => keyL zs (nI p) == c).foldl (fun x p => andL x (nI p)) zero13

theorem nmL_same (zs : List Int) (L : List (List Nat)) (p : List Nat) : nmL zs (L ++ [p]) (keyL zs (nI p)) = andL (nmL zs L (keyL zs (nI p))) (nI p) := by
  simp [nmL, List.filter_append]

theorem nmL_other (zs : List Int) (L : List (List Nat)) (p : List Nat) (c : List Int) (h : keyL zs (nI p) ≠ c) : nmL zs (L ++ [p]) c = nmL zs L c := by
  simp [nmL, List.filter_append, h]

/-- What the map reads as. -/
structure TabD (zs : List Int) (D : DataW Unit) (L : List (List Nat)) : Prop where
  at_ : ∀ c, WfK c → D.atKey (keyLit c) (intsD zero13) = intsD (nmL zs L c)
  has_ : ∀ l, Maps.has D l = true ↔ ∃ p ∈ L, l = keyLit (keyL zs (nI p))

theorem tab_nil (zs : List Int) : TabD zs (.map []) [] := ⟨fun c _ => rfl, fun l => by simp [Maps.has]⟩
theorem tab_put {zs : List Int} {D : DataW Unit} {L : List (List Nat)} (h : TabD zs D L) (hm : IsMap D) (hall : ∀ p ∈ L, WfK (keyL zs (nI p))) (p : List Nat) (hp : WfK (keyL zs (nI p))) :
    TabD zs (D.put (keyLit (keyL zs (nI p))) (intsD (andL (nmL zs L (keyL zs (nI p))) (nI p)))) (L ++ [p]) := by
  refine ⟨fun c hc => ?_, fun l => ?_⟩
  · by_cases e : keyL zs (nI p) = c
    · subst e
      rw [atKey_put_same hm (keyLit_lit hp), nmL_same]
    · rw [atKey_put_other (fun h' => e (keyLit_inj hp hc h'.symm)), nmL_other _ _ _ _ e]
      exact h.at_ c hc
  · by_cases e : l = keyLit (keyL zs (nI p))
    · subst e
      rw [has_put_same hm (keyLit_lit hp)]
      exact ⟨fun _ => ⟨p, by simp, rfl⟩, fun _ => rfl⟩
    · rw [has_put_other e, h.has_ l]
      constructor
      · rintro ⟨q, hq, rfl⟩
        exact ⟨q, by simp [hq], rfl⟩
      · rintro ⟨q, hq, rfl⟩
        rcases List.mem_append.1 hq with hq | hq
        · exact ⟨q, hq, rfl⟩
        · simp at hq; subst hq; exact absurd rfl e

/-- A naming's cells, with so many names in it at most. -/
structure NmOk (x : List Int) (n : Nat) : Prop where
  len : x.length = 13
  lo : (0 : Int) ≤ x[6]?.getD 0
  hi : x[6]?.getD 0 ≤ (n : Int)
  cal : ∀ i, 7 ≤ i → i < 13 → ∃ q : Nat, q < 64 ∧ x[i]?.getD 0 = (q : Int)

theorem NmOk.mono {x : List Int} {n k : Nat} (h : NmOk x n) (hk : n ≤ k) : NmOk x k := ⟨h.len, h.lo, by have := h.hi; omega, h.cal⟩
theorem nmOk_zero : NmOk zero13 0 := ⟨rfl, by simp [zero13], by simp [zero13], fun i h1 h2 => ⟨0, by decide, by unfold zero13; rw [List.getElem?_replicate, if_pos h2]; rfl⟩⟩
/-- Names that may be told. -/
def NamesOk (ps : List Int) : Prop := ps.length ≤ 6 ∧ 1 ≤ ps.length ∧ ∀ v, v < ps.length → ∃ q : Nat, q < 6 ∧ ps[v]?.getD 0 = (q : Int)

theorem andC_cal {g ps : List Int} (hg : g.length = 13) (hp : ps.length ≤ 6) (hpv : ∀ v, v < ps.length → ∃ q : Nat, q < 6 ∧ ps[v]?.getD 0 = (q : Int)) (hc : ∀ i, 7 ≤ i → i < 13 → ∃ q : Nat, q < 64 ∧ g[i]?.getD 0 = (q : Int)) :
    ∀ k, k ≤ ps.length → ∀ i, 7 ≤ i → i < 13 → ∃ q : Nat, q < 64 ∧ (andC g ps k)[i]?.getD 0 = (q : Int)
  | 0, _, i, h1, h2 => hc i h1 h2
  | k + 1, hk, i, h1, h2 => by
    rw [andC]
    by_cases e : 7 + k = i
    · subst e
      rw [List.getElem?_set_self (by rw [andC_len, hg]; omega), Option.getD_some]
      obtain ⟨x, hx, hxe⟩ := andC_cal hg hp hpv hc k (by omega) (7 + k) h1 h2
      obtain ⟨q, hq, hqe⟩ := hpv k (by omega)
      rw [hxe, hqe]
      exact ⟨x ||| 2 ^ q, Nat.or_lt_two_pow (n := 6) hx (Nat.pow_lt_pow_right (by decide) hq), by simp [orI]⟩
    · rw [List.getElem?_set_ne e]
      exact andC_cal hg hp hpv hc k (by omega) i h1 h2

theorem andL_six {xs ps : List Int} (hl : xs.length = 13) (hp : ps.length ≤ 6) : (andL xs ps)[6]?.getD 0 = xs[6]?.getD 0 + 1 := by
  rw [andL, andC_far _ _ 6 _ (.inl (by omega)), andM, List.getElem?_set_self (by rw [andF_len (by omega)]; omega)]
  rfl

theorem nmOk_and {x ps : List Int} {n : Nat} (h : NmOk x n) (hp : NamesOk ps) : NmOk (andL x ps) (n + 1) := by
  have hl := h.len
  have h1 := h.lo
  have h2 := h.hi
  have h6 := andL_six hl hp.1
  refine ⟨by rw [andL, andC_len, andM_len (by have := hp.1; omega), hl], by omega, by omega, fun i hi1 hi2 => ?_⟩
  exact andC_cal (by rw [andM_len (by have := hp.1; omega), hl]) hp.1 hp.2.2 (fun i h1 h2 => by rw [andM_far hp.1 i h1]; exact h.cal i h1 h2) _ (Nat.le_refl _) i hi1 hi2

theorem nmOk_fold : ∀ (L : List (List Nat)) (x : List Int) (n : Nat), NmOk x n → (∀ p ∈ L, NamesOk (nI p)) → NmOk (L.foldl (fun x p => andL x (nI p)) x) (n + L.length)
  | [], x, n, h, _ => h
  | p :: L, x, n, h, hp => by
    rw [List.foldl_cons, List.length_cons, show n + (L.length + 1) = (n + 1) + L.length from by omega]
    exact nmOk_fold L _ _ (nmOk_and h (hp p (by simp))) (fun q hq => hp q (by simp [hq]))

theorem nmOk_all (zs : List Int) (L : List (List Nat)) (c : List Int) (h : ∀ p ∈ L, NamesOk (nI p)) : NmOk (nmL zs L c) L.length := by
  have := nmOk_fold (L.filter fun p => keyL zs (nI p) == c) zero13 0 nmOk_zero (fun p hp => h p (List.mem_filter.1 hp).1)
  exact this.mono (by rw [Nat.zero_add]; exact List.length_filter_le _ _)

theorem namesOk_nI {m : Nat} (hm0 : 1 ≤ m) (hm : m ≤ 6) {p : List Nat} (hl : p.length = m) (hv : ∀ v ∈ p, v < m) : NamesOk (nI p) := by
  refine ⟨by rw [nI_len]; omega, by rw [nI_len]; omega, fun v h => ?_⟩
  rw [nI_len] at h
  exact ⟨p[v], by have := hv p[v] (List.getElem_mem h); omega, by simp [nI, h]⟩

theorem okp_nI {m : Nat} (hm : m ≤ 6) {p : List Nat} (hl : p.length = m) (hv : ∀ v ∈ p, v < m) : Okp m (nI p) := by
  refine ⟨by rw [nI_len]; exact hl, fun v h => ?_⟩
  have hv' : v < p.length := by omega
  have := hv p[v] (List.getElem_mem hv')
  simp only [nI, List.getElem?_map, List.getElem?_eq_getElem hv', Option.map_some, Option.getD_some]
  omega

theorem wfK_key {m : Nat} (hm : m ≤ 6) {zs : List Int} (h8 : zs.length ≤ 8) (hz : ∀ z ∈ zs, z.toNat < 2 ^ m) {ps : List Int} (hp : Okp m ps) : WfK (keyL zs ps) := by
  refine ⟨keyL_len _ _ h8, fun x hx => ?_⟩
  unfold keyL at hx
  rcases List.mem_append.1 hx with h | h
  · rw [List.mem_mergeSort, List.mem_map] at h
    obtain ⟨z, hz', rfl⟩ := h
    have : called ps z.toNat < 64 := nm_lt _ _ (fun v hv => by
      have := mem_lt m hm z.toNat (hz z hz') v hv
      have := hp.rng v this
      omega)
    exact wfI_small (by unfold callZ; omega) (by unfold callZ; omega)
  · rw [List.mem_replicate] at h
    rw [h.2]; exact wfI_small (by decide) (by decide)

end Go.Proofs.YtcnicdaagknmpaaDoor

/- It is proved what the FamilyDrop of the model returns; conditions: those of each statement. -/
namespace Go.Proofs.YtcnicdaagknmpaaDoor
open Go.RowKit

theorem app_run_n {w : World} {B n k : Nat} {v : Value} {xs : List Value} (h : w.ownsRow B 3 1 v n xs) (hB : B ≤ w.heap.size) (a : Option Addr) (c : Nat) (zs : List Int) (hk : zs.length = k) (hz : Ints w w.heap.size a zs) (hn : n ≤ 1048576) (hzn : k ≤ 1048576) :
    ∃ a' c' w', (Builtin.append_ #[23, 23] 23 #[v, .slice a k c]).run Tryd.prog w = .ok (.slice a' (n + k) c') w' ∧
      w'.ownsRow B 3 1 (.slice a' (n + k) c') (n + k) (xs ++ zs.map (Value.int .i64)) ∧ w.grownBy w' v.ownBlock := by
  subst hk
  exact app_run h hB a c zs hz hn hzn

/-- An append whose run is known, as a step of a region that draws. -/
theorem step_run {P : Program} {w : World} {ops : Array Oper} {o : Oper} {a : Act} {K : Act → World → Prop} {Q : Exit → Act → World → Prop} {E : Prop} (hgd : o.guard = none) (s x : Operand) (t tn : TypeId)
    (ho : o.op = .call { callee := .builtin .append, args := #[s, x], argTypes := #[t, tn] }) (vs vx : Value) (hs : a.eval s = vs) (hx : a.eval x = vx)
    (v' : Value) (w' : World) (hr : (Builtin.append_ #[t, tn] o.type #[vs, vx]).run P w = .ok v' w') (h : K (a.put o.dst v') w') :
    if Region.wanted o (yielded ops a.tmps) = true then Oper.wp P o a w K Q else E := by
  rw [if_pos (by simp [Region.wanted, hgd])]
  exact Lib.wp_append_run w s x t tn ho vs vx hs hx v' w' hr h

theorem step_run2 {P : Program} {w : World} {ops : Array Oper} {o : Oper} {a : Act} {K : Act → World → Prop} {Q : Exit → Act → World → Prop} {E : Prop} (hgd : o.guard = none) (s x : Operand) (t tn : TypeId)
    (ho : o.op = .call { callee := .builtin .append, args := #[s, x], argTypes := #[t, tn] }) (vs vx : Value) (hs : a.eval s = vs) (hx : a.eval x = vx)
    (h : ∃ v' w', (Builtin.append_ #[t, tn] o.type #[vs, vx]).run P w = .ok v' w' ∧ K (a.put o.dst v') w') :
    if Region.wanted o (yielded ops a.tmps) = true then Oper.wp P o a w K Q else E := by
  obtain ⟨v', w', hr, hk⟩ := h
  exact step_run hgd s x t tn ho vs vx hs hx v' w' hr hk

end Go.Proofs.YtcnicdaagknmpaaDoor

/- It is proved what the FamilyPut of the model returns; conditions: those of each statement. -/
namespace Go.Proofs.YtcnicdaagknmpaaDoor
open Go.RowKit

theorem step_run3 {P : Program} {w : World} {ops : Array Oper} {o : Oper} {a : Act} {K : Act → World → Prop} {Q : Exit → Act → World → Prop} {E : Prop} (s x : Operand) (t tn : TypeId) (vs vx : Value) (hgd : o.guard = none)
    (ho : o.op = .call { callee := .builtin .append, args := #[s, x], argTypes := #[t, tn] }) (hs : a.eval s = vs) (hx : a.eval x = vx)
    (h : ∃ v' w', (Builtin.append_ #[t, tn] o.type #[vs, vx]).run P w = .ok v' w' ∧ K (a.put o.dst v') w') :
    if Region.wanted o (yielded ops a.tmps) = true then Oper.wp P o a w K Q else E := step_run2 hgd s x t tn ho vs vx hs hx h

theorem app_run0 {w : World} {B : Nat} {v : Value} (h : OwnI w B v []) (hB : B ≤ w.heap.size) (a : Option Addr) (c : Nat) (zs : List Int) (hz : Ints w w.heap.size a zs) (_hn : 0 ≤ 1048576) (hzn : zs.length ≤ 1048576) :
    ∃ a' c' w', (Builtin.append_ #[23, 23] 23 #[v, .slice a zs.length c]).run Tryd.prog w = .ok (.slice a' zs.length c') w' ∧
      w'.ownsRow B 3 1 (.slice a' zs.length c') zs.length (zs.map (Value.int .i64)) ∧ w.grownBy w' v.ownBlock := by
  have := app_run (n := 0) (xs := []) h hB a c zs hz (by omega) hzn
  simpa using this

theorem one_blk {w : World} {x : Int} {b : Nat} (h : w.heap[b]? = some (.cells #[.int .i64 x] 3 (0, 0))) : Ints w w.heap.size (some ⟨b, 0, none⟩) [x] := by
  refine .inr ⟨b, 0, rfl, lt_of_some h, fun j hj => ?_⟩
  obtain rfl : j = 0 := by simpa using hj
  exact blk_cell h 0

theorem one_ints0 (w : World) (x : Int) : Ints (w.alloc (.cells #[.int .i64 x] 3)) (w.alloc (.cells #[.int .i64 x] 3)).heap.size (some ⟨w.heap.size, 0, none⟩) [x] := one_blk (alloc_new w _)
end Go.Proofs.YtcnicdaagknmpaaDoor

/- It is proved what l1Put returns; conditions: the bounds in each statement. -/
namespace Go.Proofs.YtcnicdaagknmpaaDoor
open Go.RowKit

theorem app_run0n {w : World} {B k : Nat} {v : Value} (h : OwnI w B v []) (hB : B ≤ w.heap.size) (a : Option Addr) (c : Nat) (zs : List Int) (hk : zs.length = k) (hz : Ints w w.heap.size a zs) (hzn : k ≤ 1048576) :
    ∃ a' c' w', (Builtin.append_ #[23, 23] 23 #[v, .slice a k c]).run Tryd.prog w = .ok (.slice a' k c') w' ∧
      w'.ownsRow B 3 1 (.slice a' k c') k (zs.map (Value.int .i64)) ∧ w.grownBy w' v.ownBlock := by
  subst hk
  exact app_run0 h hB a c zs hz (by omega) hzn

theorem app_run_t {w : World} {B n k t : Nat} {v : Value} {xs : List Value} (h : w.ownsRow B 3 1 v n xs) (hB : B ≤ w.heap.size) (a : Option Addr) (c : Nat) (zs : List Int) (hk : zs.length = k) (hz : Ints w w.heap.size a zs) (ht : n + k = t) (hn : n ≤ 1048576) (hzn : k ≤ 1048576) :
    ∃ a' c' w', (Builtin.append_ #[23, 23] 23 #[v, .slice a k c]).run Tryd.prog w = .ok (.slice a' t c') w' ∧
      w'.ownsRow B 3 1 (.slice a' t c') t (xs ++ zs.map (Value.int .i64)) ∧ w.grownBy w' v.ownBlock := by
  subst ht
  exact app_run_n h hB a c zs hk hz hn hzn

end Go.Proofs.YtcnicdaagknmpaaDoor

/- It is proved how rows of ints of the call's own are read and kept; conditions: those of each statement. -/
namespace Go.Proofs.YtcnicdaagknmpaaDoor
open Go.RowKit Go.Shelf

theorem ownsRow_below {w w' : World} {B n : Nat} {v : Value} {xs : List Value} (h : w.ownsRow B 3 1 v n xs) (hb : Below w.heap.size w w') : w'.ownsRow B 3 1 v n xs :=
  World.ownsRow.kept h (only_of_below hb none) (by cases v.ownBlock <;> simp)

theorem OwnN.cap_le {w : World} {B : Nat} {a : Option Addr} {n cap : Nat} {zs : List Int} (h : OwnN w B a n cap zs) : n ≤ cap := by
  rcases h.2 with ⟨e, hn⟩ | ⟨g, c, cur, e, hb, hg, hc, _⟩
  · omega
  · injection e with e1 e2 e3
    omega

theorem OwnN.len {w : World} {B : Nat} {a : Option Addr} {n cap : Nat} {zs : List Int} (h : OwnN w B a n cap zs) : zs.length = n := by
  have := h.1; simpa using this

theorem OwnN.ints {w : World} {B : Nat} {a : Option Addr} {n cap : Nat} {zs : List Int} (h : OwnN w B a n cap zs) : Ints w w.heap.size a zs := by
  have hl := h.len
  subst hl
  exact own_ints (n := zs.length) (cap := cap) (B := B) h

theorem OwnN.base {w : World} {B B' : Nat} {a : Option Addr} {n cap : Nat} {zs : List Int} (h : OwnN w B a n cap zs) (hB : B' ≤ B) : OwnN w B' a n cap zs := ownsRow_base h hB
theorem OwnN.below {w w' : World} {B : Nat} {a : Option Addr} {n cap : Nat} {zs : List Int} (h : OwnN w B a n cap zs) (hb : Below w.heap.size w w') : OwnN w' B a n cap zs := ownsRow_below h hb
theorem OwnN.ne {w : World} {B : Nat} {a : Option Addr} {n cap : Nat} {zs : List Int} (h : OwnN w B a n cap zs) {b : Nat} (hb : b < B ∨ w.heap.size ≤ b) : (Value.slice a n cap).ownBlock ≠ some b := by
  intro e
  have := World.ownsRow.lt h b e
  omega

theorem OwnN.cell {w : World} {B g n cap : Nat} {ys : List Int} (h : OwnN w B (some ⟨g, 0, none⟩) n cap ys) {j : Nat} (hj : j < n) : w.cell? ⟨g, j, none⟩ = some (.int .i64 (ys[j]?.getD 0)) := by
  have hl := h.len
  have := World.ownsRow.cellAt h j (by omega)
  rw [this]; simp [show j < ys.length by omega]

theorem OwnN.cellz {w : World} {B g n cap : Nat} {ys : List Int} (h : OwnN w B (some ⟨g, 0, none⟩) n cap ys) {j : Nat} (hj : j < n) : w.cell? ⟨g, j, none⟩ = some (.int .i64 (ys[j]?.getD 0)) := h.cell hj
end Go.Proofs.YtcnicdaagknmpaaDoor

/- It is proved what rows of the call's own rows are, and what appending one leaves; conditions: those of each statement. -/
namespace Go.Proofs.YtcnicdaagknmpaaDoor
open Go.RowKit Go.Shelf

theorem wp_append_eq {P : Program} (w : World) {o : Oper} {a : Act} {K : Act → World → Prop} {Q : Exit → Act → World → Prop} (s x : Operand) (t t' : TypeId)
    (ho : o.op = .call { callee := .builtin .append, args := #[s, x], argTypes := #[t, t'] }) (v u : Value) (hs : a.eval s = v) (hx : a.eval x = u) {v' : Value} {w' : World}
    (hr : (Builtin.append_ #[t, t'] o.type #[v, u]).run P w = .ok v' w') (h : K (a.put o.dst v') w') : o.wp P a w K Q := by
  unfold Oper.wp execOp
  simp only [ho, resolve, invoke, builtin, Sem.run_bind, Sem.run_pure, Result.andThen_ok, List.map_toArray, List.map_cons, List.map_nil, hs, hx, hr]
  exact h

theorem wpList_append_eq {P : Program} (w : World) {ops : Array Oper} {rest : List Oper} {o : Oper} {a : Act} {Q : Exit → Act → World → Prop} (hg : o.guard = none) (s x : Operand) (t t' : TypeId)
    (ho : o.op = .call { callee := .builtin .append, args := #[s, x], argTypes := #[t, t'] }) (v u : Value) (hs : a.eval s = v) (hx : a.eval x = u) {v' : Value} {w' : World}
    (hr : (Builtin.append_ #[t, t'] o.type #[v, u]).run P w = .ok v' w') (h : wpList P ops Q rest (a.put o.dst v') w') : wpList P ops Q (o :: rest) a w :=
  wpList_plain hg fun _ hK => wp_append_eq w s x t t' ho v u hs hx hr (hK _ _ h)

theorem Tryd.infoRow : (Tryd.prog.info? 23).map (fun i => (i.zero, i.size, i.bytes)) = some (some (.slice none 0 0), 1, 24) := by kernel_rfl
/-- A list of the call's own. -/
def Inner (W : World) (B : Nat) (v : Value) (zs : List Int) : Prop := ∃ a c, v = .slice a zs.length c ∧ OwnN W B a zs.length c zs

/-- A list of lists, all of the call's own. -/
def Rws (W : World) (B : Nat) (v : Value) (L : List (List Int)) : Prop :=
  ∃ vals : List Value, W.ownsRow B 23 1 v L.length vals ∧ ∀ i, i < L.length → Inner W B (vals[i]?.getD undef) (L[i]?.getD [])

theorem type_ne {W : World} {B B' k k' : Nat} {e e' : TypeId} {v v' : Value} {xs xs' : List Value} (h : W.ownsRow B e 1 v k xs) (h' : W.ownsRow B' e' 1 v' k' xs') (he : e ≠ e') : v.ownBlock = none ∨ v.ownBlock ≠ v'.ownBlock := by
  rcases h.2 with ⟨rfl, _⟩ | ⟨g, cap, cur, rfl, _, hg, _⟩
  · exact .inl rfl
  · right
    rcases h'.2 with ⟨rfl, _⟩ | ⟨g', cap', cur', rfl, _, hg', _⟩
    · simp [Value.ownBlock]
    · simp only [Value.ownBlock]
      intro e2
      injection e2 with e2
      subst e2
      rw [hg] at hg'
      injection hg' with hg'
      injection hg' with _ h3 _
      exact he h3

theorem Inner.kept {W W' : World} {B : Nat} {v : Value} {zs : List Int} {row : Option Nat} (h : Inner W B v zs) (hg : W.grownBy W' row) (hr : v.ownBlock = none ∨ v.ownBlock ≠ row) : Inner W' B v zs := by
  obtain ⟨a, c, rfl, ho⟩ := h
  exact ⟨a, c, rfl, ho.kept hg hr⟩

theorem Rws.alloc {W : World} {B : Nat} {v : Value} {L : List (List Int)} (h : Rws W B v L) (o : Obj) : Rws (W.alloc o) B v L := by
  obtain ⟨vals, h1, h2⟩ := h
  exact ⟨vals, h1.alloc o, fun i hi => (h2 i hi).kept (World.grownBy_alloc W o none) (by cases (vals[i]?.getD undef).ownBlock <;> simp)⟩

theorem Rws.below {W W' : World} {B : Nat} {v : Value} {L : List (List Int)} (h : Rws W B v L) (hb : Below W.heap.size W W') : Rws W' B v L := by
  obtain ⟨vals, h1, h2⟩ := h
  have hg : W.grownBy W' none := only_of_below hb none
  exact ⟨vals, h1.kept hg (by cases v.ownBlock <;> simp), fun i hi => (h2 i hi).kept hg (by cases (vals[i]?.getD undef).ownBlock <;> simp)⟩

theorem Rws.base {W : World} {B B' : Nat} {v : Value} {L : List (List Int)} (h : Rws W B v L) (hB : B' ≤ B) : Rws W B' v L := by
  obtain ⟨vals, h1, h2⟩ := h
  exact ⟨vals, ownsRow_base h1 hB, fun i hi => by obtain ⟨a, c, e, ho⟩ := h2 i hi; exact ⟨a, c, e, ho.base hB⟩⟩

theorem Rws.form {W : World} {B : Nat} {v : Value} {L : List (List Int)} (h : Rws W B v L) : ∃ a c, v = .slice a L.length c := by
  obtain ⟨vals, h1, h2⟩ := h
  rcases h1.2 with ⟨rfl, e⟩ | ⟨g, cap, cur, rfl, _⟩
  · exact ⟨none, 0, by rw [e]⟩
  · exact ⟨_, _, rfl⟩

/-- One of the lists. -/
theorem Rws.at_ {W : World} {B : Nat} {a : Option Addr} {n c : Nat} {L : List (List Int)} (h : Rws W B (.slice a n c) L) {i : Nat} (hi : i < L.length) :
    ∃ g a' c', a = some ⟨g, 0, none⟩ ∧ W.cell? ⟨g, i, none⟩ = some (.slice a' (L[i]?.getD []).length c') ∧ OwnN W B a' (L[i]?.getD []).length c' (L[i]?.getD []) := by
  obtain ⟨vals, h1, h2⟩ := h
  obtain ⟨a', c', e, ho⟩ := h2 i hi
  have hl : i < vals.length := by have := h1.1; omega
  rcases h1.2 with ⟨_, e0⟩ | ⟨g, cap, cur, e1, hb, hg, hnc, _, hs, ht⟩
  · omega
  · injection e1 with e1 e2 e3
    refine ⟨g, a', c', e1, ?_, ho⟩
    rw [blk_cell hg i, ← e]
    have : cur.toList[i]? = vals[i]? := by rw [← ht, List.getElem?_take, if_pos (by omega)]
    rw [← Array.getElem?_toList, this, List.getElem?_eq_getElem hl]
    rfl

theorem rws_nil (W : World) (B : Nat) {g : Nat} (hg : W.heap[g]? = some (.cells #[] 23 (0, 0))) (hB : B ≤ g) : Rws W B (.slice (some ⟨g, 0, none⟩) 0 0) [] :=
  ⟨[], ⟨by simp, .inr ⟨g, 0, #[], rfl, hB, hg, Nat.le_refl _, by simp [maxLen], by simp, by simp⟩⟩, fun i hi => by simp at hi⟩

/-- A list, and a number behind it, put behind a list of lists. -/
theorem ext_row {W : World} {B : Nat} {v : Value} {L : List (List Int)} (hR : Rws W B v L) (hBW : B ≤ W.heap.size) (hL : L.length ≤ 100000) (a1 : Option Addr) (c1 k : Nat) (l : List Int) (hl : l.length = k) (hk : k ≤ 100) (h1 : Ints W W.heap.size a1 l) (x : Int) :
    ∃ a3 c3 w3 a4 c4 w4 a5 c5 w5, ((Builtin.append_ #[23, 23] 23 #[.slice (some ⟨W.heap.size, 0, none⟩) 0 0, .slice a1 k c1]).run Tryd.prog (W.alloc (.cells #[] 3)) = .ok (.slice a3 k c3) w3) ∧
      ((Builtin.append_ #[23, 23] 23 #[.slice a3 k c3, .slice (some ⟨w3.heap.size, 0, none⟩) 1 1]).run Tryd.prog (w3.alloc (.cells #[.int .i64 x] 3)) = .ok (.slice a4 (k + 1) c4) w4) ∧
      ((Builtin.append_ #[81, 81] 81 #[v, .slice (some ⟨w4.heap.size, 0, none⟩) 1 1]).run Tryd.prog (w4.alloc (.cells #[.slice a4 (k + 1) c4] 23)) = .ok (.slice a5 (L.length + 1) c5) w5) ∧
      Rws w5 B (.slice a5 (L.length + 1) c5) (L ++ [l ++ [x]]) ∧ Below B W w5 := by
  obtain ⟨i0, hi0, hz0, hz1, hz2⟩ := info_parts Tryd.infoRow
  have hE : OwnI (W.alloc (.cells #[] 3)) W.heap.size (.slice (some ⟨W.heap.size, 0, none⟩) 0 0) [] := own_empty (alloc_new W _) (Nat.le_refl _)
  have hB0 : Below W.heap.size W (W.alloc (.cells #[] 3)) := below1 W (.cells #[] 3)
  obtain ⟨a3, c3, w3, hr3, ho3, hg3⟩ := app_run0n (k := k) hE hB0.size a1 c1 l hl ((h1.below hB0).mono hB0.size) (by omega)
  have hb3 : Below W.heap.size W w3 := hB0.grown hg3 hB0.size (fun g e => (World.ownsRow.lt hE g e).1)
  have hX : Ints (w3.alloc (.cells #[.int .i64 x] 3)) (w3.alloc (.cells #[.int .i64 x] 3)).heap.size (some ⟨w3.heap.size, 0, none⟩) [x] := one_ints0 w3 x
  have ho3' := ho3.alloc (.cells #[.int .i64 x] 3)
  have hb3' : Below W.heap.size W (w3.alloc (.cells #[.int .i64 x] 3)) := hb3.alloc hb3.size _
  obtain ⟨a4, c4, w4, hr4, ho4, hg4⟩ := app_run_t (t := k + 1) (k := 1) ho3' hb3'.size (some ⟨w3.heap.size, 0, none⟩) 1 [x] rfl hX (by omega) (by omega) (by omega)
  have hb4 : Below W.heap.size W w4 := hb3'.grown hg4 hb3'.size (fun g e => (World.ownsRow.lt ho3' g e).1)
  have hb5 : Below W.heap.size W (w4.alloc (.cells #[.slice a4 (k + 1) c4] 23)) := hb4.alloc hb4.size _
  obtain ⟨vals, hv1, hv2⟩ := hR.below hb5
  have ho5 := ho4.alloc (.cells #[.slice a4 (k + 1) c4] 23)
  have hnb := alloc_new w4 (.cells #[.slice a4 (k + 1) c4] 23)
  obtain ⟨v', w5, hr5, h2, h3, _⟩ := run_append_own (P := Tryd.prog) (w4.alloc (.cells #[.slice a4 (k + 1) c4] 23)) B 81 81 23 i0 (.slice none 0 0) 1 24 Tryd.underlying81 hi0 hz0 hz1 hz2 rfl (by decide) v L.length vals hv1 ⟨w4.heap.size, 0, none⟩ 1 1 [.slice a4 (k + 1) c4] (by simp)
    (fun j u hu => by
      have hj : j = 0 := by have := (List.getElem?_eq_some_iff.1 hu).1; simpa using this
      subst hj
      simp at hu
      subst hu
      exact blk_cell hnb 0) (by simp [Value.oneCell']) (by simp only [maxLen]; omega) (by omega) (Nat.le_trans hBW hb5.size)
  obtain ⟨a5, c5, rfl⟩ : ∃ a5 c5, v' = .slice a5 (L.length + 1) c5 := by
    rcases h2.2 with ⟨rfl, e⟩ | ⟨g, cap, cur, rfl, _⟩
    · omega
    · exact ⟨_, _, rfl⟩
  refine ⟨a3, c3, w3, a4, c4, w4, a5, c5, w5, hr3, hr4, hr5, ⟨vals ++ [.slice a4 (k + 1) c4], by rw [List.length_append]; exact h2, fun i hi => ?_⟩, ?_⟩
  · have hvl : vals.length = L.length := by have := hv1.1; omega
    rw [List.length_append] at hi
    by_cases hil : i < L.length
    · rw [List.getElem?_append_left (by omega), List.getElem?_append_left hil]
      obtain ⟨a', c', e, ho⟩ := hv2 i hil
      exact ⟨a', c', e, ho.kept h3 (type_ne ho hv1 (by decide))⟩
    · have hie : i = L.length := by simp at hi; omega
      subst hie
      rw [List.getElem?_append_right (by omega), List.getElem?_append_right (by omega), hvl, Nat.sub_self]
      refine ⟨a4, c4, by simp [hl], ?_⟩
      have h6 := ho5.kept h3 (type_ne ho5 hv1 (by decide))
      simp only [List.getElem?_cons_zero, Option.getD_some, List.length_append, hl, List.length_singleton]
      have h7 : OwnN w5 W.heap.size a4 (k + 1) c4 (l ++ [x]) := by unfold OwnN; rw [List.map_append]; exact h6
      exact h7.base hBW
  · exact (hb5.mono hBW).grown h3 (Nat.le_trans hBW hb5.size) (fun g e => (World.ownsRow.lt hv1 g e).1)

end Go.Proofs.YtcnicdaagknmpaaDoor
