/- It is proved what a map holds to which all names have been told, list by list; conditions: those of each statement. -/
import Derived.RowKit
import Derived.Laws.CopyRow
import Derived.Lib.SlBuf
import Derived.RangeFuncNested
import Derived.RangeFuncBound
import Derived.RangeFuncCalls
import Derived.RangeFuncLeaves
import Derived.RangeFuncBox
import Derived.RangeFuncWrites
import Derived.Maps.OwnIn
import Derived.Maps.Ext
import Derived.DeepKeys4
import Derived.MapKept
import Derived.Test.YtijhpfecbpkpdaaDoorRows
import Derived.WalkKit
import Derived.WalkSpells
import Derived.ProofKit
import Derived.OpenShut
import Derived.ShutString
import Derived.ChangeOld
import Derived.Below
import Derived.Deep.RegionHeld3
import Derived.Deep.QuietTactic
import Derived.BigQuiet
import Derived.Lib.Hide
import Derived.Lib.SmallJoins
import Derived.Outline
import Derived.Laws.MakeOwn
import Derived.Laws.OwnMore
import Derived.IntWalk
import Derived.Lib.AppendZeros
import Derived.Maps.AppendAt
import Derived.Deep.AppendLies
import Derived.OwnWalk
import Derived.Lib.SlicesCompact
import Derived.Lib.OwnBridge
import Derived.Shelf.Sort.Plain
import Derived.Shelf.Slices.In.SortNone
import Derived.Shelf.Slices.CompactI
import Derived.Ground.Names2Prog
import Derived.Shelf.Abstract
import Derived.Shelf.RegionOpen
import Derived.OwnWalkIn
import Derived.TacticsInMore
import Derived.LoopNIn
import Derived.LoopIn
import Derived.StillTail
import Derived.StillTactics
import Derived.OrdersIn
import Derived.TacticsIn
import Derived.Shelf.Spec.TrailingZeros
import Derived.StillTailTactics
import Derived.Test.YtijhpfecbpkpdaaDoorMj
import Derived.Test.YtijhpfecbpkpdaaDoorAf
import Derived.Test.YtijhpfecbpkpdaaDoorAn
import Derived.Test.YtijhpfecbpkpdaaDoorNd
import Derived.Test.YtijhpfecbpkpdaaDoorNe
namespace Go.Proofs.YtijhpfecbpkpdaaDoor
open Go.RowKit Go.Shelf Go.Maps

theorem wfI_small {x : Int} (h0 : 0 ≤ x) (h1 : x ≤ 1000000) : wfI x := WalkArith.wf_i64 (by omega)
/-- A list that may be a key. -/
def WfK (L : List Int) : Prop := L.length = 8 ∧ ∀ x ∈ L, wfI x

noncomputable def keyLit (L : List Int) : Lit := open Classical in if h : ∃ l, keyOf Tryd.prog 81 (.agg (iv L)) = some l then h.choose else .bool true
theorem keyLit_key {L : List Int} (h : WfK L) : keyOf Tryd.prog 81 (.agg (iv L)) = some (keyLit L) := by
  have hl := key_some h.1 h.2
  unfold keyLit
  rw [dif_pos hl]
  exact hl.choose_spec

theorem keyLit_inj {L M : List Int} (hL : WfK L) (hM : WfK M) (h : keyLit L = keyLit M) : L = M := by
  have e := keyLaw.inj (keyLit_key hL) (by rw [h]; exact keyLit_key hM)
  injection e with e
  exact iv_inj e

theorem keyLit_lit {L : List Int} (h : WfK L) : WideAt.IsKeyLit (keyLit L) := keyLaw.key (keyLit_key h)
def zero13 : List Int := List.replicate 13 0
/-- What is known of the names in L that make the list c. -/
def nmL (zs : List Int) (L : List (List Nat)) (c : List Int) : List Int := (L.filter fun p => keyL zs (nI p) == c).foldl (fun x p => andL x (nI p)) zero13

theorem nmL_same (zs : List Int) (L : List (List Nat)) (p : List Nat) : nmL zs (L ++ [p]) (keyL zs (nI p)) = andL (nmL zs L (keyL zs (nI p))) (nI p) := by
  simp [nmL, List.filter_append]

theorem nmL_other (zs : List Int) (L : List (List Nat)) (p : List Nat) (c : List Int) (h : keyL zs (nI p) ≠ c) : nmL zs (L ++ [p]) c = nmL zs L c := by
  simp [nmL, List.filter_append, h]

/-- What the map reads as. -/
structure TabD (zs : List Int) (D : DataW Unit) (L : List (List Nat)) : Prop where
  at_ : ∀ c, WfK c → D.atKey (keyLit c) (intsD zero13) = intsD (nmL zs L c)
  has_ : ∀ l, Maps.has D l = true ↔ ∃ p ∈ L, l = keyLit (keyL zs (nI p))

theorem tab_nil (zs : List Int) : TabD zs (.map []) [] := ⟨fun c _ => rfl, fun l => by simp [Maps.has]⟩
theorem tab_put {zs : List Int} {D : DataW Unit} {L : List (List Nat)} (h : TabD zs D L) (hm : IsMap D) (hall : ∀ p ∈ L, WfK (keyL zs (nI p))) (p : List Nat) (hp : WfK (keyL zs (nI p))) :
    TabD zs (D.put (keyLit (keyL zs (nI p))) (intsD (andL (nmL zs L (keyL zs (nI p))) (nI p)))) (L ++ [p]) := by
  refine ⟨fun c hc => ?_, fun l => ?_⟩
  · by_cases e : keyL zs (nI p) = c
    · subst e
      rw [atKey_put_same hm (keyLit_lit hp), nmL_same]
    · rw [atKey_put_other (fun h' => e (keyLit_inj hp hc h'.symm)), nmL_other _ _ _ _ e]
      exact h.at_ c hc
  · by_cases e : l = keyLit (keyL zs (nI p))
    · subst e
      rw [has_put_same hm (keyLit_lit hp)]
      exact ⟨fun _ => ⟨p, by simp, rfl⟩, fun _ => rfl⟩
    · rw [has_put_other e, h.has_ l]
      constructor
      · rintro ⟨q, hq, rfl⟩
        exact ⟨q, by simp [hq], rfl⟩
      · rintro ⟨q, hq, rfl⟩
        rcases List.mem_append.1 hq with hq | hq
        · exact ⟨q, hq, rfl⟩
        · simp at hq; subst hq; exact absurd rfl e

/-- A naming's cells, with so many names in it at most. -/
structure NmOk (x : List Int) (n : Nat) : Prop where
  len : x.length = 13
  lo : (0 : Int) ≤ x[6]?.getD 0
  hi : x[6]?.getD 0 ≤ (n : Int)
  cal : ∀ i, 7 ≤ i → i < 13 → ∃ q : Nat, q < 64 ∧ x[i]?.getD 0 = (q : Int)

theorem NmOk.mono {x : List Int} {n k : Nat} (h : NmOk x n) (hk : n ≤ k) : NmOk x k := ⟨h.len, h.lo, by have := h.hi; omega, h.cal⟩
theorem nmOk_zero : NmOk zero13 0 := ⟨rfl, by simp [zero13], by simp [zero13], fun i h1 h2 => ⟨0, by decide, by unfold zero13; rw [List.getElem?_replicate, if_pos h2]; rfl⟩⟩
/-- Names that may be told. -/
def NamesOk (ps : List Int) : Prop := ps.length ≤ 6 ∧ 1 ≤ ps.length ∧ ∀ v, v < ps.length → ∃ q : Nat, q < 6 ∧ ps[v]?.getD 0 = (q : Int)

theorem andC_cal {g ps : List Int} (hg : g.length = 13) (hp : ps.length ≤ 6) (hpv : ∀ v, v < ps.length → ∃ q : Nat, q < 6 ∧ ps[v]?.getD 0 = (q : Int)) (hc : ∀ i, 7 ≤ i → i < 13 → ∃ q : Nat, q < 64 ∧ g[i]?.getD 0 = (q : Int)) :
    ∀ k, k ≤ ps.length → ∀ i, 7 ≤ i → i < 13 → ∃ q : Nat, q < 64 ∧ (andC g ps k)[i]?.getD 0 = (q : Int)
  | 0, _, i, h1, h2 => hc i h1 h2
  | k + 1, hk, i, h1, h2 => by
    rw [andC]
    by_cases e : 7 + k = i
    · subst e
      rw [List.getElem?_set_self (by rw [andC_len, hg]; omega), Option.getD_some]
      obtain ⟨x, hx, hxe⟩ := andC_cal hg hp hpv hc k (by omega) (7 + k) h1 h2
      obtain ⟨q, hq, hqe⟩ := hpv k (by omega)
      rw [hxe, hqe]
      exact ⟨x ||| 2 ^ q, Nat.or_lt_two_pow (n := 6) hx (Nat.pow_lt_pow_right (by decide) hq), by simp [orI]⟩
    · rw [List.getElem?_set_ne e]
      exact andC_cal hg hp hpv hc k (by omega) i h1 h2

theorem andL_six {xs ps : List Int} (hl : xs.length = 13) (hp : ps.length ≤ 6) : (andL xs ps)[6]?.getD 0 = xs[6]?.getD 0 + 1 := by
  rw [andL, andC_far _ _ 6 _ (.inl (by omega)), andM, List.getElem?_set_self (by rw [andF_len (by omega)]; omega)]
  rfl

theorem nmOk_and {x ps : List Int} {n : Nat} (h : NmOk x n) (hp : NamesOk ps) : NmOk (andL x ps) (n + 1) := by
  have hl := h.len
  have h1 := h.lo
  have h2 := h.hi
  have h6 := andL_six hl hp.1
  refine ⟨by rw [andL, andC_len, andM_len (by have := hp.1; omega), hl], by omega, by omega, fun i hi1 hi2 => ?_⟩
  exact andC_cal (by rw [andM_len (by have := hp.1; omega), hl]) hp.1 hp.2.2 (fun i h1 h2 => by rw [andM_far hp.1 i h1]; exact h.cal i h1 h2) _ (Nat.le_refl _) i hi1 hi2

theorem nmOk_fold : ∀ (L : List (List Nat)) (x : List Int) (n : Nat), NmOk x n → (∀ p ∈ L, NamesOk (nI p)) → NmOk (L.foldl (fun x p => andL x (nI p)) x) (n + L.length)
  | [], x, n, h, _ => h
  | p :: L, x, n, h, hp => by
    rw [List.foldl_cons, List.length_cons, show n + (L.length + 1) = (n + 1) + L.length from by omega]
    exact nmOk_fold L _ _ (nmOk_and h (hp p (by simp))) (fun q hq => hp q (by simp [hq]))

theorem nmOk_all (zs : List Int) (L : List (List Nat)) (c : List Int) (h : ∀ p ∈ L, NamesOk (nI p)) : NmOk (nmL zs L c) L.length := by
  have := nmOk_fold (L.filter fun p => keyL zs (nI p) == c) zero13 0 nmOk_zero (fun p hp => h p (List.mem_filter.1 hp).1)
  exact this.mono (by rw [Nat.zero_add]; exact List.length_filter_le _ _)

theorem namesOk_nI {m : Nat} (hm0 : 1 ≤ m) (hm : m ≤ 6) {p : List Nat} (hl : p.length = m) (hv : ∀ v ∈ p, v < m) : NamesOk (nI p) := by
  refine ⟨by rw [nI_len]; omega, by rw [nI_len]; omega, fun v h => ?_⟩
  rw [nI_len] at h
  exact ⟨p[v], by have := hv p[v] (List.getElem_mem h); omega, by simp [nI, h]⟩

theorem okp_nI {m : Nat} (hm : m ≤ 6) {p : List Nat} (hl : p.length = m) (hv : ∀ v ∈ p, v < m) : Okp m (nI p) := by
  refine ⟨by rw [nI_len]; exact hl, fun v h => ?_⟩
  have hv' : v < p.length := by omega
  have := hv p[v] (List.getElem_mem hv')
  simp only [nI, List.getElem?_map, List.getElem?_eq_getElem hv', Option.map_some, Option.getD_some]
  omega

theorem wfK_key {m : Nat} (hm : m ≤ 6) {zs : List Int} (h8 : zs.length ≤ 8) (hz : ∀ z ∈ zs, z.toNat < 2 ^ m) {ps : List Int} (hp : Okp m ps) : WfK (keyL zs ps) := by
  refine ⟨keyL_len _ _ h8, fun x hx => ?_⟩
  unfold keyL at hx
  rcases List.mem_append.1 hx with h | h
  · rw [List.mem_mergeSort, List.mem_map] at h
    obtain ⟨z, hz', rfl⟩ := h
    have : called ps z.toNat < 64 := nm_lt _ _ (fun v hv => by
      have := mem_lt m hm z.toNat (hz z hz') v hv
      have := hp.rng v this
      omega)
    exact wfI_small (by unfold callZ; omega) (by unfold callZ; omega)
  · rw [List.mem_replicate] at h
    rw [h.2]; exact wfI_small (by decide) (by decide)

end Go.Proofs.YtijhpfecbpkpdaaDoor
