/- It is proved what rows of the call's own rows are, and what appending one leaves; conditions: those of each statement. -/
import Derived.Deep.QuietTactic
import Derived.RowKit
import Derived.RangeFuncNested
import Derived.RangeFuncBound
import Derived.RangeFuncCalls
import Derived.RangeFuncLeaves
import Derived.RangeFuncBox
import Derived.RangeFuncWrites
import Derived.Test.YtgpgocijacgkhaaDoorRows
import Derived.WalkKit
import Derived.WalkSpells
import Derived.ProofKit
import Derived.OpenShut
import Derived.ShutString
import Derived.ChangeOld
import Derived.Below
import Derived.Deep.RegionHeld3
import Derived.BigQuiet
import Derived.Lib.Hide
import Derived.Lib.SmallJoins
import Derived.Outline
import Derived.Laws.MakeOwn
import Derived.Laws.OwnMore
import Derived.IntWalk
import Derived.Deep.RegionLaw
import Derived.Deep.AppendLies
import Derived.Lib.AppendZeros
import Derived.Maps.AppendAt
import Derived.OwnWalk
import Derived.Shelf.Abstract
import Derived.Shelf.RegionOpen
import Derived.OwnWalkIn
import Derived.TacticsInMore
import Derived.LoopNIn
import Derived.LoopIn
import Derived.Shelf.Spec.TrailingZeros
import Derived.Test.YtgpgocijacgkhaaDoorRaaa
import Derived.Test.YtgpgocijacgkhaaDoorRaab
import Derived.Test.YtgpgocijacgkhaaDoorRaah
import Derived.Test.YtgpgocijacgkhaaDoorRabgxFnAlik
import Derived.Test.YtgpgocijacgkhaaDoorRaac
import Derived.Test.YtgpgocijacgkhaaDoorTb
import Derived.Test.YtgpgocijacgkhaaDoorRabdxFnAlik
import Derived.Test.YtgpgocijacgkhaaDoorRabexFnAlik
import Derived.Laws.CopyRow
import Derived.Lib.SlBuf
import Derived.Lib.SlicesCompact
import Derived.Lib.OwnBridge
import Derived.Shelf.Sort.Plain
import Derived.Shelf.Slices.In.SortNone
import Derived.Shelf.Slices.CompactI
import Derived.Ground.Names2Prog
import Derived.StillTail
import Derived.StillTactics
import Derived.OrdersIn
import Derived.TacticsIn
import Derived.StillTailTactics
namespace Go.Proofs.YtgpgocijacgkhaaDoor
open Go.RowKit Go.Shelf

theorem wp_append_eq {P : Program} (w : World) {o : Oper} {a : Act} {K : Act → World → Prop} {Q : Exit → Act → World → Prop} (s x : Operand) (t t' : TypeId)
    (ho : o.op = .call { callee := .builtin .append, args := #[s, x], argTypes := #[t, t'] }) (v u : Value) (hs : a.eval s = v) (hx : a.eval x = u) {v' : Value} {w' : World}
    (hr : (Builtin.append_ #[t, t'] o.type #[v, u]).run P w = .ok v' w') (h : K (a.put o.dst v') w') : o.wp P a w K Q := by
  unfold Oper.wp execOp
  simp only [ho, resolve, invoke, builtin, Sem.run_bind, Sem.run_pure, Result.andThen_ok, List.map_toArray, List.map_cons, List.map_nil, hs, hx, hr]
  exact h

theorem wpList_append_eq {P : Program} (w : World) {ops : Array Oper} {rest : List Oper} {o : Oper} {a : Act} {Q : Exit → Act → World → Prop} (hg : o.guard = none) (s x : Operand) (t t' : TypeId)
    (ho : o.op = .call { callee := .builtin .append, args := #[s, x], argTypes := #[t, t'] }) (v u : Value) (hs : a.eval s = v) (hx : a.eval x = u) {v' : Value} {w' : World}
    (hr : (Builtin.append_ #[t, t'] o.type #[v, u]).run P w = .ok v' w') (h : wpList P ops Q rest (a.put o.dst v') w') : wpList P ops Q (o :: rest) a w :=
  wpList_plain hg fun _ hK => wp_append_eq w s x t t' ho v u hs hx hr (hK _ _ h)

theorem Tryd.infoRow : (Tryd.prog.info? 23).map (fun i => (i.zero, i.size, i.bytes)) = some (some (.slice none 0 0), 1, 24) := by kernel_rfl
/-- A list of the call's own. -/
def Inner (W : World) (B : Nat) (v : Value) (zs : List Int) : Prop := ∃ a c, v = .slice a zs.length c ∧ OwnN W B a zs.length c zs

/-- A list of lists, all of the call's own. -/
def Rws (W : World) (B : Nat) (v : Value) (L : List (List Int)) : Prop :=
  ∃ vals : List Value, W.ownsRow B 23 1 v L.length vals ∧ ∀ i, i < L.length → Inner W B (vals[i]?.getD undef) (L[i]?.getD [])

theorem type_ne {W : World} {B B' k k' : Nat} {e e' : TypeId} {v v' : Value} {xs xs' : List Value} (h : W.ownsRow B e 1 v k xs) (h' : W.ownsRow B' e' 1 v' k' xs') (he : e ≠ e') : v.ownBlock = none ∨ v.ownBlock ≠ v'.ownBlock := by
  rcases h.2 with ⟨rfl, _⟩ | ⟨g, cap, cur, rfl, _, hg, _⟩
  · exact .inl rfl
  · right
    rcases h'.2 with ⟨rfl, _⟩ | ⟨g', cap', cur', rfl, _, hg', _⟩
    · simp [Value.ownBlock]
    · simp only [Value.ownBlock]
      intro e2
      injection e2 with e2
      subst e2
      rw [hg] at hg'
      injection hg' with hg'
      injection hg' with _ h3 _
      exact he h3

theorem Inner.kept {W W' : World} {B : Nat} {v : Value} {zs : List Int} {row : Option Nat} (h : Inner W B v zs) (hg : W.grownBy W' row) (hr : v.ownBlock = none ∨ v.ownBlock ≠ row) : Inner W' B v zs := by
  obtain ⟨a, c, rfl, ho⟩ := h
  exact ⟨a, c, rfl, ho.kept hg hr⟩

theorem Rws.alloc {W : World} {B : Nat} {v : Value} {L : List (List Int)} (h : Rws W B v L) (o : Obj) : Rws (W.alloc o) B v L := by
  obtain ⟨vals, h1, h2⟩ := h
  exact ⟨vals, h1.alloc o, fun i hi => (h2 i hi).kept (World.grownBy_alloc W o none) (by cases (vals[i]?.getD undef).ownBlock <;> simp)⟩

theorem Rws.below {W W' : World} {B : Nat} {v : Value} {L : List (List Int)} (h : Rws W B v L) (hb : Below W.heap.size W W') : Rws W' B v L := by
  obtain ⟨vals, h1, h2⟩ := h
  have hg : W.grownBy W' none := only_of_below hb none
  exact ⟨vals, h1.kept hg (by cases v.ownBlock <;> simp), fun i hi => (h2 i hi).kept hg (by cases (vals[i]?.getD undef).ownBlock <;> simp)⟩

theorem Rws.base {W : World} {B B' : Nat} {v : Value} {L : List (List Int)} (h : Rws W B v L) (hB : B' ≤ B) : Rws W B' v L := by
  obtain ⟨vals, h1, h2⟩ := h
  exact ⟨vals, ownsRow_base h1 hB, fun i hi => by obtain ⟨a, c, e, ho⟩ := h2 i hi; exact ⟨a, c, e, ho.base hB⟩⟩

theorem Rws.form {W : World} {B : Nat} {v : Value} {L : List (List Int)} (h : Rws W B v L) : ∃ a c, v = .slice a L.length c := by
  obtain ⟨vals, h1, h2⟩ := h
  rcases h1.2 with ⟨rfl, e⟩ | ⟨g, cap, cur, rfl, _⟩
  · exact ⟨none, 0, by rw [e]⟩
  · exact ⟨_, _, rfl⟩

/-- One of the lists. -/
theorem Rws.at_ {W : World} {B : Nat} {a : Option Addr} {n c : Nat} {L : List (List Int)} (h : Rws W B (.slice a n c) L) {i : Nat} (hi : i < L.length) :
    ∃ g a' c', a = some ⟨g, 0, none⟩ ∧ W.cell? ⟨g, i, none⟩ = some (.slice a' (L[i]?.getD []).length c') ∧ OwnN W B a' (L[i]?.getD []).length c' (L[i]?.getD []) := by
  obtain ⟨vals, h1, h2⟩ := h
  obtain ⟨a', c', e, ho⟩ := h2 i hi
  have hl : i < vals.length := by have := h1.1; omega
  rcases h1.2 with ⟨_, e0⟩ | ⟨g, cap, cur, e1, hb, hg, hnc, _, hs, ht⟩
  · omega
  · injection e1 with e1 e2 e3
    refine ⟨g, a', c', e1, ?_, ho⟩
    rw [blk_cell hg i, ← e]
    have : cur.toList[i]? = vals[i]? := by rw [← ht, List.getElem?_take, if_pos (by omega)]
    rw [← Array.getElem?_toList, this, List.getElem?_eq_getElem hl]
    rfl

theorem rws_nil (W : World) (B : Nat) {g : Nat} (hg : W.heap[g]? = some (.cells #[] 23 (0, 0))) (hB : B ≤ g) : Rws W B (.slice (some ⟨g, 0, none⟩) 0 0) [] :=
  ⟨[], ⟨by simp, .inr ⟨g, 0, #[], rfl, hB, hg, Nat.le_refl _, by simp [maxLen], by simp, by simp⟩⟩, fun i hi => by simp at hi⟩

/-- A list, and a number behind it, put behind a list of lists. -/
theorem ext_row {W : World} {B : Nat} {v : Value} {L : List (List Int)} (hR : Rws W B v L) (hBW : B ≤ W.heap.size) (hL : L.length ≤ 100000) (a1 : Option Addr) (c1 k : Nat) (l : List Int) (hl : l.length = k) (hk : k ≤ 100) (h1 : Ints W W.heap.size a1 l) (x : Int) :
    ∃ a3 c3 w3 a4 c4 w4 a5 c5 w5, ((Builtin.append_ #[23, 23] 23 #[.slice (some ⟨W.heap.size, 0, none⟩) 0 0, .slice a1 k c1]).run Tryd.prog (W.alloc (.cells #[] 3)) = .ok (.slice a3 k c3) w3) ∧
      ((Builtin.append_ #[23, 23] 23 #[.slice a3 k c3, .slice (some ⟨w3.heap.size, 0, none⟩) 1 1]).run Tryd.prog (w3.alloc (.cells #[.int .i64 x] 3)) = .ok (.slice a4 (k + 1) c4) w4) ∧
      ((Builtin.append_ #[105, 105] 105 #[v, .slice (some ⟨w4.heap.size, 0, none⟩) 1 1]).run Tryd.prog (w4.alloc (.cells #[.slice a4 (k + 1) c4] 23)) = .ok (.slice a5 (L.length + 1) c5) w5) ∧
      Rws w5 B (.slice a5 (L.length + 1) c5) (L ++ [l ++ [x]]) ∧ Below B W w5 := by
  obtain ⟨i0, hi0, hz0, hz1, hz2⟩ := info_parts Tryd.infoRow
  have hE : OwnI (W.alloc (.cells #[] 3)) W.heap.size (.slice (some ⟨W.heap.size, 0, none⟩) 0 0) [] := own_empty (alloc_new W _) (Nat.le_refl _)
  have hB0 : Below W.heap.size W (W.alloc (.cells #[] 3)) := below1 W (.cells #[] 3)
  obtain ⟨a3, c3, w3, hr3, ho3, hg3⟩ := app_run0n (k := k) hE hB0.size a1 c1 l hl ((h1.below hB0).mono hB0.size) (by omega)
  have hb3 : Below W.heap.size W w3 := hB0.grown hg3 hB0.size (fun g e => (World.ownsRow.lt hE g e).1)
  have hX : Ints (w3.alloc (.cells #[.int .i64 x] 3)) (w3.alloc (.cells #[.int .i64 x] 3)).heap.size (some ⟨w3.heap.size, 0, none⟩) [x] := one_ints0 w3 x
  have ho3' := ho3.alloc (.cells #[.int .i64 x] 3)
  have hb3' : Below W.heap.size W (w3.alloc (.cells #[.int .i64 x] 3)) := hb3.alloc hb3.size _
  obtain ⟨a4, c4, w4, hr4, ho4, hg4⟩ := app_run_t (t := k + 1) (k := 1) ho3' hb3'.size (some ⟨w3.heap.size, 0, none⟩) 1 [x] rfl hX (by omega) (by omega) (by omega)
  have hb4 : Below W.heap.size W w4 := hb3'.grown hg4 hb3'.size (fun g e => (World.ownsRow.lt ho3' g e).1)
  have hb5 : Below W.heap.size W (w4.alloc (.cells #[.slice a4 (k + 1) c4] 23)) := hb4.alloc hb4.size _
  obtain ⟨vals, hv1, hv2⟩ := hR.below hb5
  have ho5 := ho4.alloc (.cells #[.slice a4 (k + 1) c4] 23)
  have hnb := alloc_new w4 (.cells #[.slice a4 (k + 1) c4] 23)
  obtain ⟨v', w5, hr5, h2, h3, _⟩ := run_append_own (P := Tryd.prog) (w4.alloc (.cells #[.slice a4 (k + 1) c4] 23)) B 105 105 23 i0 (.slice none 0 0) 1 24 Tryd.underlying105 hi0 hz0 hz1 hz2 rfl (by decide) v L.length vals hv1 ⟨w4.heap.size, 0, none⟩ 1 1 [.slice a4 (k + 1) c4] (by simp)
    (fun j u hu => by
      have hj : j = 0 := by have := (List.getElem?_eq_some_iff.1 hu).1; simpa using this
      subst hj
      simp at hu
      subst hu
      exact blk_cell hnb 0) (by simp [Value.oneCell']) (by simp only [maxLen]; omega) (by omega) (Nat.le_trans hBW hb5.size)
  obtain ⟨a5, c5, rfl⟩ : ∃ a5 c5, v' = .slice a5 (L.length + 1) c5 := by
    rcases h2.2 with ⟨rfl, e⟩ | ⟨g, cap, cur, rfl, _⟩
    · omega
    · exact ⟨_, _, rfl⟩
  refine ⟨a3, c3, w3, a4, c4, w4, a5, c5, w5, hr3, hr4, hr5, ⟨vals ++ [.slice a4 (k + 1) c4], by rw [List.length_append]; exact h2, fun i hi => ?_⟩, ?_⟩
  · have hvl : vals.length = L.length := by have := hv1.1; omega
    rw [List.length_append] at hi
    by_cases hil : i < L.length
    · rw [List.getElem?_append_left (by omega), List.getElem?_append_left hil]
      obtain ⟨a', c', e, ho⟩ := hv2 i hil
      exact ⟨a', c', e, ho.kept h3 (type_ne ho hv1 (by decide))⟩
    · have hie : i = L.length := by simp at hi; omega
      subst hie
      rw [List.getElem?_append_right (by omega), List.getElem?_append_right (by omega), hvl, Nat.sub_self]
      refine ⟨a4, c4, by simp [hl], ?_⟩
      have h6 := ho5.kept h3 (type_ne ho5 hv1 (by decide))
      simp only [List.getElem?_cons_zero, Option.getD_some, List.length_append, hl, List.length_singleton]
      have h7 : OwnN w5 W.heap.size a4 (k + 1) c4 (l ++ [x]) := by unfold OwnN; rw [List.map_append]; exact h6
      exact h7.base hBW
  · exact (hb5.mono hBW).grown h3 (Nat.le_trans hBW hb5.size) (fun g e => (World.ownsRow.lt hv1 g e).1)

end Go.Proofs.YtgpgocijacgkhaaDoor

/- It is proved that l2Perms lists all names in order; conditions: those of each statement. -/
namespace Go.Proofs.YtgpgocijacgkhaaDoor
open Go.RowKit Go.Shelf

def stepL (n : Nat) (l : List Nat) (v : Nat) : List (List Nat) := ((List.range v).filter fun u => !l.contains u).map fun u => l ++ [u]
theorem stepL_all (n : Nat) (L : List (List Nat)) : L.flatMap (fun l => stepL n l n) = nextL n L := rfl
theorem stepL_len (n : Nat) (l : List Nat) (v : Nat) : (stepL n l v).length ≤ v := by
  unfold stepL; rw [List.length_map]; exact Nat.le_trans (List.length_filter_le _ _) (by simp)

theorem stepL_in {n : Nat} {l : List Nat} {v : Nat} (h : l.contains v = true) : stepL n l (v + 1) = stepL n l v := by
  simp [stepL, List.range_succ, List.filter_append, h]
  simpa using h

theorem stepL_out {n : Nat} {l : List Nat} {v : Nat} (h : l.contains v = false) : stepL n l (v + 1) = stepL n l v ++ [l ++ [v]] := by
  have h' : v ∉ l := by simpa using h
  simp [stepL, List.range_succ, List.filter_append, h']

set_option maxRecDepth 100000 in
set_option maxHeartbeats 8000000 in
theorem perms_any (n : Nat) (hn : n ≤ 6) (w : World) :
    Calls Tryd.prog 88 #[.int .i64 (n : Int)] w fun e w' => ∃ v, e = .returned v ∧ Rws w' w.heap.size v ((lvlL n n).map nI) ∧ Below w.heap.size w w' := by
  have hb2 := below2 w (.cells #[] 3) (.cells #[.slice (some ⟨w.heap.size, 0, none⟩) 0 0] 23)
  have q0 := alloc2_0 w (.cells #[] 3) (.cells #[.slice (some ⟨w.heap.size, 0, none⟩) 0 0] 23)
  have q1 := alloc2_1 w (.cells #[] 3) (.cells #[.slice (some ⟨w.heap.size, 0, none⟩) 0 0] 23)
  have hR0 : Rws ((w.alloc (.cells #[] 3)).alloc (.cells #[.slice (some ⟨w.heap.size, 0, none⟩) 0 0] 23)) w.heap.size (.slice (some ⟨w.heap.size + 1, 0, none⟩) 1 1) ((lvlL n 0).map nI) :=
    ⟨[.slice (some ⟨w.heap.size, 0, none⟩) 0 0], ⟨by simp [lvlL], .inr ⟨w.heap.size + 1, 1, _, rfl, by omega, q1, Nat.le_refl _, by simp [maxLen], by simp, by simp [lvlL]⟩⟩, fun i hi => by
      have hi0 : i = 0 := by simpa [lvlL] using hi
      subst hi0
      exact ⟨some ⟨w.heap.size, 0, none⟩, 0, rfl, own_empty q0 (Nat.le_refl _)⟩⟩
  have HR0 := Lib.hid hR0
  have HB0 := Lib.hid hb2
  clear hb2 q0 q1 hR0
  go_enter Tryd.func88, Tryd.ntmps88
  go_wp2
  go_loopw [3, 4] (fun o i wr => ∃ (k : Nat) (v : Value), k ≤ n ∧ i = .int .i64 (k : Int) ∧ o = v ∧ Rws wr w.heap.size v ((lvlL n k).map nI) ∧ Below w.heap.size w wr) (fun _ i _ => n - (intOf i).toNat)
  case atStart => exact ⟨0, _, Nat.zero_le _, rfl, rfl, HR0.out, HB0.out⟩
  case round =>
    obtain ⟨i, ov, hi, rfl, rfl, hR, hB⟩ := hrel
    by_cases hlt : i < n
    · obtain ⟨wo, hwo⟩ : ∃ wo, wo = wr := ⟨wr, rfl⟩
      subst hwo
      obtain ⟨oa, oc, rfl⟩ := hR.form
      obtain ⟨N, hN⟩ : ∃ N, N = (lvlL n i).length := ⟨_, rfl⟩
      have hNs : N ≤ 7776 := by
        rw [hN]
        exact Nat.le_trans (lvlL_len n i) (Nat.le_trans (Nat.pow_le_pow_left hn i) (Nat.le_trans (Nat.pow_le_pow_right (by decide) (by omega : i ≤ 5)) (by decide)))
      have HN := Lib.hid hN
      have HR := Lib.hid hR
      have HB := Lib.hid hB
      have HN0 : Hid (Rws (wo.alloc (.cells #[] 23)) wo.heap.size (.slice (some ⟨wo.heap.size, 0, none⟩) 0 0) ((((lvlL n i).take 0).flatMap fun l => stepL n l n).map nI)) := Lib.hid (rws_nil _ _ (alloc_new wo _) (Nat.le_refl _))
      have HNB := Lib.hid (below1 wo (.cells #[] 23))
      rw [List.length_map, ← hN]
      clear hN hR hB
      go_wp2
      go_loopw [5, 6] (fun nx kk wr => ∃ (k : Nat) (nv : Value), k ≤ N ∧ kk = .int .i64 (k : Int) ∧ nv = nx ∧ Rws wr wo.heap.size nv ((((lvlL n i).take k).flatMap fun l => stepL n l n).map nI) ∧ Below wo.heap.size wo wr) (fun _ kk _ => N - (intOf kk).toNat)
      case atStart => exact ⟨0, _, Nat.zero_le _, rfl, rfl, HN0.out, HNB.out⟩
      case round =>
        obtain ⟨k, nv, hk, rfl, rfl, hNx, hB2⟩ := hrel
        by_cases hkl : k < N
        · obtain ⟨w2, hw2⟩ : ∃ w2, w2 = wr := ⟨wr, rfl⟩
          subst hw2
          have hkl' : k < (lvlL n i).length := by have := HN.out; omega
          obtain ⟨l, hl⟩ : ∃ l, l = (lvlL n i)[k] := ⟨_, rfl⟩
          have hll : l.length = i := lvlL_in (by rw [hl]; exact List.getElem_mem hkl')
          have HTK : Hid ((lvlL n i).take (k + 1) = (lvlL n i).take k ++ [l]) := Lib.hid (by rw [hl]; exact List.take_succ_eq_append_getElem hkl')
          have HPL : Hid ((((lvlL n i).take k).flatMap fun l => stepL n l n).length ≤ k * 6) := Lib.hid (by
            refine Nat.le_trans (flat_len _ 6 _ (fun l _ => Nat.le_trans (stepL_len n l n) hn)) (Nat.mul_le_mul_right _ ?_)
            rw [List.length_take]; omega)
          have HNX : Hid (Rws w2 wo.heap.size nv (((((lvlL n i).take k).flatMap fun l => stepL n l n) ++ stepL n l 0).map nI)) := Lib.hid (by simpa [stepL] using hNx)
          have HB2 := Lib.hid hB2
          have HRW : Hid (∀ wz, Below wo.heap.size wo wz → ∃ g a' c', oa = some ⟨g, 0, none⟩ ∧ wz.cell? ⟨g, k, none⟩ = some (.slice a' i c') ∧ OwnN wz w.heap.size a' i c' (nI l)) := Lib.hid (fun wz hz => by
            obtain ⟨g, a', c', e, hc, ho⟩ := (HR.out.below hz).at_ (i := k) (by rw [List.length_map]; exact hkl')
            have e2 : ((lvlL n i).map nI)[k]?.getD [] = nI l := by rw [List.getElem?_map, List.getElem?_eq_getElem hkl', ← hl]; rfl
            rw [e2, nI_len, hll] at hc ho
            exact ⟨g, a', c', e, hc, ho⟩)
          have hkN : (k : Int) < (N : Int) := by omega
          have HLL := Lib.hid hll
          clear hl hll hNx hB2 hkl'
          go_wp2
          go_loopw [5, 7] (fun nx vv wr => ∃ (v : Nat) (nv : Value), v ≤ n ∧ vv = .int .i64 (v : Int) ∧ nv = nx ∧ Rws wr wo.heap.size nv (((((lvlL n i).take k).flatMap fun l => stepL n l n) ++ stepL n l v).map nI) ∧ Below wo.heap.size wo wr) (fun _ vv _ => n - (intOf vv).toNat)
          case atStart => exact ⟨0, nv, Nat.zero_le _, rfl, rfl, HNX.out, HB2.out⟩
          case round =>
            obtain ⟨v, nv, hv, rfl, rfl, hNx, hB3⟩ := hrel
            by_cases hvn : v < n
            · obtain ⟨w3, hw3⟩ : ∃ w3, w3 = wr := ⟨wr, rfl⟩
              subst hw3
              obtain ⟨g, a', c', rfl, hcr, hor⟩ := HRW.out w3 hB3
              have HNX := Lib.hid hNx
              have HB3 := Lib.hid hB3
              have HOR := Lib.hid hor
              have hk0 : (0 : Int) ≤ (k : Int) := by omega
              clear hNx hB3 hor
              go_wp2
              go_loop [8, 9] (fun b j => ∃ jj : Nat, jj ≤ i ∧ j = .int .i64 (jj : Int) ∧ b = .bool ((l.take jj).contains v)) (fun _ j => i - (intOf j).toNat)
              case atStart => exact ⟨0, Nat.zero_le _, rfl, by simp⟩
              case round =>
                obtain ⟨j, hj, rfl, rfl⟩ := hrel
                by_cases hji : j < i
                · obtain ⟨b1, rfl, -, -⟩ := HOR.out.addr (by omega)
                  have hjl : j < l.length := by have := HLL.out; omega
                  have c1 := HOR.out.cell (j := j) hji
                  obtain ⟨u, hu⟩ : ∃ u, u = l[j] := ⟨_, rfl⟩
                  rw [show (nI l)[j]?.getD 0 = (u : Int) from by simp [nI, hjl, hu]] at c1
                  have HT : Hid ((l.take (j + 1)).contains v = ((l.take j).contains v || decide (u = v))) := Lib.hid (by
                    rw [List.take_succ_eq_append_getElem hjl, ← hu, Bool.eq_iff_iff, Bool.or_eq_true, decide_eq_true_eq, List.contains_iff_mem, List.contains_iff_mem, List.mem_append, List.mem_singleton]
                    exact or_congr Iff.rfl eq_comm)
                  have hjI : (j : Int) < (i : Int) := by omega
                  have hj0 : (0 : Int) ≤ (j : Int) := by omega
                  obtain ⟨cb, hcb⟩ : ∃ cb, cb = (l.take j).contains v := ⟨_, rfl⟩
                  rw [← hcb]
                  rw [← hcb] at HT
                  clear hcb hu
                  cases cb
                  · by_cases huv : u = v
                    · subst huv
                      go_wp2
                      go_round
                      case rel => exact ⟨j + 1, by omega, by go_num, by rw [HT.out]; simp⟩
                      case measure => simp [intOf]; omega
                    · have hne : ((u : Int) == (v : Int)) = false := by simp; omega
                      go_wp2
                      go_round
                      case rel => exact ⟨j + 1, by omega, by go_num, by rw [HT.out]; simp [huv]⟩
                      case measure => simp [intOf]; omega
                  · go_wp2
                    go_round
                    case rel => exact ⟨j + 1, by omega, by go_num, by rw [HT.out]; rfl⟩
                    case measure => simp [intOf]; omega
                · obtain rfl : j = i := by omega
                  rw [List.take_of_length_le (by rw [HLL.out]; exact Nat.le_refl _)]
                  obtain ⟨cb, hcb⟩ : ∃ cb, cb = l.contains v := ⟨_, rfl⟩
                  rw [← hcb]
                  have HCB := Lib.hid hcb
                  clear hcb
                  cases cb
                  · have hPl : (((((lvlL n j).take k).flatMap fun l => stepL n l n) ++ stepL n l v).map nI).length ≤ 100000 := by
                      rw [List.length_map, List.length_append]
                      have h1 := HPL.out
                      have h2 := stepL_len n l v
                      omega
                    obtain ⟨a3, c3, w3a, a4, c4, w4, a5, c5, w5, hr3, hr4, hr5, hRf, hBf⟩ := ext_row HNX.out HB3.out.size hPl a' c' j (nI l) (by rw [nI_len, HLL.out]) (by omega) (show Ints w3 w3.heap.size a' (nI l) from own_ints (show OwnI w3 w.heap.size (.slice a' (nI l).length c') (nI l) from by rw [nI_len, HLL.out]; unfold OwnI; rw [nI_len, HLL.out]; exact HOR.out)) (v : Int)
                    have HFIN : Hid (Rws w5 wo.heap.size (.slice a5 ((((((lvlL n j).take k).flatMap fun l => stepL n l n) ++ stepL n l v).map nI).length + 1) c5) (((((lvlL n j).take k).flatMap fun l => stepL n l n) ++ stepL n l (v + 1)).map nI)) := Lib.hid (by
                      rw [stepL_out HCB.out.symm, ← List.append_assoc, List.map_append (l₂ := [l ++ [v]]), show [l ++ [v]].map nI = [nI l ++ [(v : Int)]] from by simp [nI_snoc]]
                      exact hRf)
                    have HBF := Lib.hid hBf
                    obtain ⟨T, hT⟩ : ∃ T, T = (((((lvlL n j).take k).flatMap fun l => stepL n l n) ++ stepL n l v).map nI).length + 1 := ⟨_, rfl⟩
                    rw [← hT] at hr5 HFIN
                    have hcr2 := (World.cell?_alloc_lt w3 (.cells #[] 3) ⟨g, k, none⟩ (lt_of_cell hcr)).trans hcr
                    clear hRf hBf hPl hT
                    go_wp2_with (at_builtin; first | refine wpList_append_eq _ rfl _ _ 23 23 rfl _ _ rfl rfl hr3 ?_ | refine wpList_append_eq _ rfl _ _ 23 23 rfl _ _ rfl rfl hr4 ?_ | refine wpList_append_eq _ rfl _ _ 105 105 rfl _ _ rfl rfl hr5 ?_)
                    go_roundw
                    case rel => exact ⟨v + 1, _, by omega, by go_num, rfl, HFIN.out, HB3.out.trans HBF.out⟩
                    case measure => simp [intOf]; omega
                  · go_wp2
                    go_roundw
                    case rel => exact ⟨v + 1, nv, by omega, by go_num, rfl, by rw [stepL_in HCB.out.symm]; exact HNX.out, HB3.out⟩
                    case measure => simp [intOf]; omega
            · obtain rfl : v = n := by omega
              go_wp2
              go_roundw
              case rel => exact ⟨k + 1, nv, by omega, by go_num, rfl, by rw [HTK.out, List.flatMap_append]; simpa using hNx, hB3⟩
              case measure => simp [intOf]; omega
        · obtain rfl : k = N := by omega
          rw [List.take_of_length_le (by rw [← HN.out]; exact Nat.le_refl _), stepL_all] at hNx
          go_wp2
          go_roundw
          case rel => exact ⟨i + 1, nv, by omega, by go_num, rfl, hNx.base HB.out.size, HB.out.trans (hB2.mono HB.out.size)⟩
          case measure => simp [intOf]; omega
    · obtain rfl : i = n := by omega
      go_wp2
      go_ret
      exact ⟨_, rfl, hR, hB⟩

end Go.Proofs.YtgpgocijacgkhaaDoor

/- It is proved what l2Sorted returns; conditions: those of each statement. -/
namespace Go.Proofs.YtgpgocijacgkhaaDoor
open Go.RowKit Go.Shelf

/-- A list with y put in at place k. -/
def holeL (R : List Int) (k : Nat) (y : Int) : List Int := R.take k ++ y :: R.drop k

theorem hole_len (R : List Int) (k : Nat) (y : Int) : (holeL R k y).length = R.length + 1 := by simp [holeL]; omega
theorem hole_set (R : List Int) (k : Nat) (y z : Int) (hk : k ≤ R.length) : (holeL R k y).set k z = holeL R k z := by
  unfold holeL
  have hl : (R.take k).length = k := by rw [List.length_take]; omega
  rw [List.set_append_right _ _ (by omega), hl, Nat.sub_self, List.set_cons_zero]

theorem hole_step (R : List Int) (k : Nat) (y : Int) (hk : k + 1 ≤ R.length) : (holeL R (k + 1) y).set (k + 1) (R[k]?.getD 0) = holeL R k (R[k]?.getD 0) := by
  rw [hole_set _ _ _ _ hk]
  unfold holeL
  rw [List.take_succ_eq_append_getElem (by omega), List.append_assoc, List.drop_eq_getElem_cons (i := k) (by omega)]
  simp [show k < R.length by omega]

theorem hole_low (R : List Int) (k : Nat) (y : Int) (j : Nat) (hj : j < k) (hk : k ≤ R.length) : (holeL R k y)[j]?.getD 0 = R[j]?.getD 0 := by
  unfold holeL
  rw [List.getElem?_append_left (by rw [List.length_take]; omega), List.getElem?_take, if_pos hj]

theorem hole_perm (R : List Int) (k : Nat) (y : Int) : (holeL R k y).Perm (y :: R) := by
  unfold holeL
  have h := List.perm_middle (a := y) (l₁ := R.take k) (l₂ := R.drop k)
  rwa [List.take_append_drop] at h

theorem hole_of (Z : List Int) (i : Nat) (hi : i < Z.length) : Z = holeL (Z.take i ++ Z.drop (i + 1)) i (Z[i]?.getD 0) := by
  have hl : (Z.take i).length = i := by rw [List.length_take]; omega
  unfold holeL
  rw [List.take_left' hl, List.drop_left' hl]
  simp only [hi, List.getElem?_eq_getElem, Option.getD_some]
  rw [← List.drop_eq_getElem_cons hi, List.take_append_drop]

def SrtZ (Z : List Int) : Prop := Z.Pairwise (· ≤ ·)
theorem hole_sorted {R : List Int} {x : Int} {i k : Nat} (hk : k ≤ i) (hi : i ≤ R.length) (hS : SrtZ (R.take i)) (h1 : ∀ j, k ≤ j → j < i → x < R[j]?.getD 0) (h2 : k = 0 ∨ R[k - 1]?.getD 0 ≤ x) : SrtZ ((holeL R k x).take (i + 1)) := by
  have e1 : (holeL R k x).take (i + 1) = R.take k ++ x :: (R.drop k).take (i - k) := by
    unfold holeL
    have hl : (R.take k).length = k := by rw [List.length_take]; omega
    rw [List.take_append, hl, List.take_of_length_le (by omega), show i + 1 - k = (i - k) + 1 from by omega, List.take_succ_cons]
  have e2 : R.take i = R.take k ++ (R.drop k).take (i - k) := by
    have h := List.take_append_drop k (R.take i)
    rw [List.take_take, Nat.min_eq_left hk, List.drop_take] at h
    exact h.symm
  unfold SrtZ at hS ⊢
  rw [e1]
  rw [e2] at hS
  obtain ⟨hA, hB, hAB⟩ := List.pairwise_append.1 hS
  have hxB : ∀ b ∈ (R.drop k).take (i - k), x ≤ b := by
    intro b hb
    obtain ⟨j, hj, rfl⟩ := List.getElem_of_mem hb
    rw [List.length_take, List.length_drop] at hj
    have := h1 (k + j) (by omega) (by omega)
    rw [List.getElem_take, List.getElem_drop]
    rw [List.getElem?_eq_getElem (by omega), Option.getD_some] at this
    omega
  have hAx : ∀ a ∈ R.take k, a ≤ x := by
    rcases h2 with rfl | h2
    · simp
    · intro a ha
      obtain ⟨j, hj, rfl⟩ := List.getElem_of_mem ha
      have hjk : j < k := by rw [List.length_take] at hj; omega
      rw [List.getElem?_eq_getElem (by omega), Option.getD_some] at h2
      rw [List.getElem_take]
      rcases Nat.lt_or_ge j (k - 1) with h | h
      · have := (List.pairwise_iff_getElem.1 hA) j (k - 1) hj (by rw [List.length_take]; omega) h
        rw [List.getElem_take, List.getElem_take] at this
        omega
      · have hjj : j = k - 1 := by omega
        subst hjj
        exact h2
  refine List.pairwise_append.2 ⟨hA, List.pairwise_cons.2 ⟨hxB, hB⟩, ?_⟩
  intro a ha b hb
  rcases List.mem_cons.1 hb with rfl | hb
  · exact hAx a ha
  · exact hAB a ha b hb

theorem sorted_eq {Z zs : List Int} (hS : SrtZ Z) (hP : Z.Perm zs) : Z = zs.mergeSort leZ := by
  have h2 : (zs.mergeSort leZ).Pairwise (· ≤ ·) := by
    have := List.pairwise_mergeSort (le := leZ) (by intro a b c h1 h2; simp [leZ] at h1 h2 ⊢; omega) (by intro a b; simp [leZ]; omega) zs
    exact this.imp (by intro a b h; simpa [leZ] using h)
  exact List.Perm.eq_of_pairwise (le := (· ≤ ·)) (fun a b _ _ h h' => Int.le_antisymm h h') hS h2 (hP.trans (List.mergeSort_perm zs leZ).symm)

set_option maxRecDepth 100000 in
set_option maxHeartbeats 4000000 in
theorem l2Sorted_any (a : Option Addr) (c : Nat) (zs : List Int) (w : World) (ha : Ints w w.heap.size a zs) (hx : zs.length ≤ 1048576) :
    Calls Tryd.prog 89 #[.slice a zs.length c] w fun e w' => ∃ a' c', e = .returned (.slice a' zs.length c') ∧ OwnN w' w.heap.size a' zs.length c' (zs.mergeSort leZ) ∧ Below w.heap.size w w' := by
  obtain ⟨n, hn⟩ : ∃ n, n = zs.length := ⟨_, rfl⟩
  have HN := Lib.hid hn
  have hE : OwnI (w.alloc (.cells #[] 3)) w.heap.size (.slice (some ⟨w.heap.size, 0, none⟩) 0 0) [] := own_empty (alloc_new w _) (Nat.le_refl _)
  have hB0 : Below w.heap.size w (w.alloc (.cells #[] 3)) := below1 w (.cells #[] 3)
  obtain ⟨a3, c3, w3, hr3, ho3, hg3⟩ := app_run0n (k := n) hE hB0.size a c zs hn.symm ((ha.below hB0).mono hB0.size) (by omega)
  have hb3 : Below w.heap.size w w3 := hB0.grown hg3 hB0.size (fun g e => (World.ownsRow.lt hE g e).1)
  have HO := Lib.hid (show OwnN w3 w.heap.size a3 n c3 zs from ho3)
  have HB := Lib.hid hb3
  rw [← hn]
  rw [← hn] at hx
  clear ha hE hB0 ho3 hg3 hb3 hn
  go_enter Tryd.func89, Tryd.ntmps89
  go_wp2_with (at_builtin; refine wpList_append_eq _ rfl _ _ 23 23 rfl _ _ rfl rfl hr3 ?_)
  go_loopw [4] (fun i wr => ∃ (k : Nat) (Z : List Int), 1 ≤ k ∧ k ≤ n + 1 ∧ i = .int .i64 (k : Int) ∧ OwnN wr w.heap.size a3 n c3 Z ∧ Z.Perm zs ∧ SrtZ (Z.take k) ∧ Below w.heap.size w wr) (fun i _ => n + 1 - (intOf i).toNat)
  case atStart =>
    refine ⟨1, zs, Nat.le_refl _, by omega, rfl, HO.out, List.Perm.refl _, ?_, HB.out⟩
    cases zs with
    | nil => exact List.Pairwise.nil
    | cons z zs => simp [SrtZ]
  case round =>
    obtain ⟨i, Z, hi1, hi2, rfl, hO, hP, hS, hB⟩ := hrel
    have hZl : Z.length = n := by rw [hP.length_eq, HN.out]
    by_cases hlt : i < n
    · obtain ⟨g, rfl, hgB, hgl⟩ := hO.addr (by omega)
      obtain ⟨x, hxe⟩ : ∃ x, x = Z[i]?.getD 0 := ⟨_, rfl⟩
      obtain ⟨R, hR⟩ : ∃ R, R = Z.take i ++ Z.drop (i + 1) := ⟨_, rfl⟩
      have hZ : Z = holeL R i x := by rw [hR, hxe]; exact hole_of Z i (by omega)
      have hRl : R.length + 1 = n := by rw [← hZl]; conv => rhs; rw [hZ]
                                        rw [hole_len]
      have hRt : R.take i = Z.take i := by rw [hR, List.take_left' (by rw [List.length_take]; omega)]
      have c1 := hO.cell (j := i) hlt
      rw [← hxe] at c1
      have HS := Lib.hid (show SrtZ (R.take i) by rw [hRt]; exact hS)
      have HPR : Hid (∀ k, (holeL R k x).Perm zs) := Lib.hid (fun k => ((hole_perm R k x).trans (hole_perm R i x).symm).trans (by rw [← hZ]; exact hP))
      have HO2 : Hid (OwnN wr w.heap.size (some ⟨g, 0, none⟩) n c3 (holeL R i x)) := Lib.hid (by rw [← hZ]; exact hO)
      have HB2 := Lib.hid hB
      have HRL := Lib.hid hRl
      have hi0 : (0 : Int) ≤ (i : Int) := by omega
      have hin : (i : Int) < (n : Int) := by omega
      clear hO hB hS hP hR hxe hZ hRt hZl
      obtain ⟨wo, hwo⟩ : ∃ wo, wo = wr := ⟨wr, rfl⟩
      subst hwo
      have FIN : ∀ (k : Nat) (y : Int) (W : World), k ≤ i → OwnN W w.heap.size (some ⟨g, 0, none⟩) n c3 (holeL R k y) → OwnN (W.setCell ⟨g, k, none⟩ (.int .i64 x)) w.heap.size (some ⟨g, 0, none⟩) n c3 (holeL R k x) := by
        intro k y W hk h
        have h1 := (World.ownsRow.stored h k (.int .i64 x)).1
        rw [← List.map_set, hole_set _ _ _ _ (by omega)] at h1
        exact h1
      have HFIN := Lib.hid FIN
      clear FIN
      go_wp2
      go_loopw [6] (fun kk wr => ∃ (k : Nat) (y : Int), k ≤ i ∧ kk = .int .i64 (k : Int) ∧ OwnN wr w.heap.size (some ⟨g, 0, none⟩) n c3 (holeL R k y) ∧ (∀ j, k ≤ j → j < i → x < R[j]?.getD 0) ∧ Below w.heap.size w wr) (fun kk _ => (intOf kk).toNat)
      case atStart => exact ⟨i, x, Nat.le_refl _, rfl, HO2.out, fun j h1 h2 => by omega, HB2.out⟩
      case round =>
        obtain ⟨k, y, hk, rfl, hO, hgt, hB⟩ := hrel
        have hrl := HRL.out
        by_cases hk0 : k = 0
        · subst hk0
          have e0 := hO.cell (j := 0) (by omega)
          have f0 := World.ownsRow.frozenAt hO 0
          have hn0 : (0 : Int) < (n : Int) := by omega
          have HN1 := Lib.hid (HFIN.out 0 y wr (Nat.zero_le _) hO)
          have HSD := Lib.hid (hole_sorted (Nat.zero_le _) (by omega) HS.out hgt (.inl rfl))
          have HB := Lib.hid hB
          clear hO hgt hB
          go_wp2
          go_roundw
          case rel => exact ⟨i + 1, holeL R 0 x, by omega, by omega, by go_num, HN1.out, HPR.out 0, HSD.out, HB.out.setCell (p := ⟨g, 0, none⟩) hgB _⟩
          case measure => simp [intOf]; omega
        · obtain ⟨q, rfl⟩ : ∃ q, k = q + 1 := ⟨k - 1, by omega⟩
          obtain ⟨r, hr⟩ : ∃ r, r = R[q]?.getD 0 := ⟨_, rfl⟩
          have e0 := hO.cell (j := q) (by omega)
          rw [hole_low R (q + 1) y q (by omega) (by omega), ← hr] at e0
          have e1 := hO.cell (j := q + 1) (by omega)
          have f1 := World.ownsRow.frozenAt hO (q + 1)
          have hq0 : (0 : Int) ≤ (q : Int) := by omega
          have hq1 : (q : Int) + 1 < (n : Int) := by omega
          have hq2 : (0 : Int) < (q : Int) + 1 := by omega
          have HB := Lib.hid hB
          by_cases hxr : x < r
          · have HST : Hid (OwnN (wr.setCell ⟨g, q + 1, none⟩ (.int .i64 r)) w.heap.size (some ⟨g, 0, none⟩) n c3 (holeL R q r)) := Lib.hid (by
              have h1 := (World.ownsRow.stored hO (q + 1) (.int .i64 r)).1
              rw [← List.map_set, hr, hole_step _ _ _ (by omega), ← hr] at h1
              exact h1)
            have HGT : Hid (∀ j, q ≤ j → j < i → x < R[j]?.getD 0) := Lib.hid (fun j h1 h2 => by
              by_cases e : j = q
              · subst e; rw [← hr]; exact hxr
              · exact hgt j (by omega) h2)
            clear hO hgt hB hr
            go_wp2
            go_roundw
            case rel => exact ⟨q, r, by omega, by go_num, HST.out, HGT.out, HB.out.setCell (p := ⟨g, q + 1, none⟩) hgB _⟩
            case measure => simp [intOf]
          · have HN1 := Lib.hid (HFIN.out (q + 1) y wr hk hO)
            have HSD := Lib.hid (hole_sorted hk (by omega) HS.out hgt (.inr (by rw [Nat.add_sub_cancel, ← hr]; omega)))
            clear hO hgt hB hr
            go_wp2
            go_roundw
            case rel => exact ⟨i + 1, holeL R (q + 1) x, by omega, by omega, by go_num, HN1.out, HPR.out (q + 1), HSD.out, HB.out.setCell (p := ⟨g, q + 1, none⟩) hgB _⟩
            case measure => simp [intOf]; omega
    · rw [List.take_of_length_le (by omega)] at hS
      have HE := Lib.hid (sorted_eq hS hP)
      have HO2 := Lib.hid hO
      have HB2 := Lib.hid hB
      clear hO hP hS hB hZl
      go_wp2
      go_ret
      exact ⟨_, _, rfl, by rw [← HE.out]; exact HO2.out, HB2.out⟩

end Go.Proofs.YtgpgocijacgkhaaDoor
