/- It is proved what the method ask leaves in its map; conditions: those of each statement. -/
import Derived.RowKit
import Derived.Laws.CopyRow
import Derived.Lib.SlBuf
import Derived.Deep.QuietTactic
import Derived.RangeFuncNested
import Derived.RangeFuncBound
import Derived.RangeFuncCalls
import Derived.RangeFuncLeaves
import Derived.RangeFuncBox
import Derived.RangeFuncWrites
import Derived.StillTailTactics
import Derived.Maps.OwnIn
import Derived.Maps.Ext
import Derived.DeepKeys4
import Derived.MapKept
import Derived.Test.YtacglafoahmcnaaDoorRows
import Derived.WalkKit
import Derived.WalkSpells
import Derived.ProofKit
import Derived.OpenShut
import Derived.ShutString
import Derived.ChangeOld
import Derived.Below
import Derived.Deep.RegionHeld3
import Derived.BigQuiet
import Derived.Lib.Hide
import Derived.Lib.SmallJoins
import Derived.Outline
import Derived.Laws.MakeOwn
import Derived.Laws.OwnMore
import Derived.IntWalk
import Derived.Lib.AppendZeros
import Derived.Maps.AppendAt
import Derived.Deep.AppendLies
import Derived.OwnWalk
import Derived.Lib.SlicesCompact
import Derived.Lib.OwnBridge
import Derived.OrdersIn
import Derived.TacticsIn
import Derived.Shelf.Sort.Plain
import Derived.Shelf.Slices.In.SortNone
import Derived.Shelf.Slices.CompactI
import Derived.Ground.Names2Prog
import Derived.Shelf.Abstract
import Derived.Shelf.RegionOpen
import Derived.OwnWalkIn
import Derived.TacticsInMore
import Derived.LoopNIn
import Derived.LoopIn
import Derived.StillTail
import Derived.StillTactics
import Derived.Shelf.Spec.TrailingZeros
import Derived.Test.YtacglafoahmcnaaDoorRaaa
import Derived.Test.YtacglafoahmcnaaDoorRaag
import Derived.Test.YtacglafoahmcnaaDoorRaab
import Derived.Deep.RegionLaw
import Derived.Test.YtacglafoahmcnaaDoorRaac
import Derived.Test.YtacglafoahmcnaaDoorRaai
import Derived.Test.YtacglafoahmcnaaDoorRaad
import Derived.Test.YtacglafoahmcnaaDoorTb
import Derived.Sort.MapsRangeIn
namespace Go.Proofs.YtacglafoahmcnaaDoor
open Go.RowKit Go.Shelf Go.Maps

attribute [local go_sem] Oper.semAt_some

/-- allNames(members): the number is boxed; the function value holds the box. -/
theorem allNames_any (m : Int) (w : World) :
    Calls Tryd.prog 80 #[.int .i64 m] w fun e w' => e = .returned (.func (.func 115) #[] #[.pointer (some ⟨w.heap.size, 0, none⟩)]) ∧ w' = w.alloc (.cells #[.int .i64 m] 3) := by
  have hmf : ∀ (fn : Fn) (first cap : Array Value) (w : World), (Instr.makeFunc fn first cap).run Tryd.prog w = .ok (.func fn first cap) w := fun _ _ _ _ => rfl
  go_enter Tryd.func80, Tryd.ntmps80
  go_wp2
  go_ret
  exact ⟨rfl, rfl⟩

end Go.Proofs.YtacglafoahmcnaaDoor

/- It is proved what the method ask leaves in its map; conditions: those of each statement. -/
namespace Go.Proofs.YtacglafoahmcnaaDoor
open Go.RowKit Go.Shelf Go.Maps

attribute [local go_sem] Oper.semAt_some

theorem arr8 (x : Array Bool) (h : x.size = 8) : ∃ l0 l1 l2 l3 l4 l5 l6 l7 : Bool, x = #[l0, l1, l2, l3, l4, l5, l6, l7] := by
  obtain ⟨l⟩ := x
  match l, h with
  | [l0, l1, l2, l3, l4, l5, l6, l7], _ => exact ⟨_, _, _, _, _, _, _, _, rfl⟩

theorem ints_putObj {A : World} {B l : Nat} {o : Obj} {a : Option Addr} {zs : List Int} (h : Ints A B a zs) (hl : ∃ o', A.heap[l]? = some o' ∧ o'.isCells = false) : Ints (A.putObj l o) B a zs := by
  rcases h with h | ⟨g, off, e, hg, hc⟩
  · exact .inl h
  · by_cases hz : zs = []
    · exact .inl hz
    · refine .inr ⟨g, off, e, hg, fun j hj => ?_⟩
      have hne : g ≠ l := by
        rintro rfl
        obtain ⟨o', ho, hn⟩ := hl
        have := hc 0 (List.length_pos_iff.2 hz)
        cases o' <;> simp [World.cell?, ho] at this
        cases hn
      exact (World.cell?_of_block (a := ⟨g, off + j, none⟩) (World.putObj_heap_other hne)).trans (hc j hj)

end Go.Proofs.YtacglafoahmcnaaDoor

/- It is proved what the FamilyDrop of the model returns; conditions: those of each statement. -/
namespace Go.Proofs.YtacglafoahmcnaaDoor
open Go.RowKit

theorem app_run_n {w : World} {B n k : Nat} {v : Value} {xs : List Value} (h : w.ownsRow B 3 1 v n xs) (hB : B ≤ w.heap.size) (a : Option Addr) (c : Nat) (zs : List Int) (hk : zs.length = k) (hz : Ints w w.heap.size a zs) (hn : n ≤ 1048576) (hzn : k ≤ 1048576) :
    ∃ a' c' w', (Builtin.append_ #[23, 23] 23 #[v, .slice a k c]).run Tryd.prog w = .ok (.slice a' (n + k) c') w' ∧
      w'.ownsRow B 3 1 (.slice a' (n + k) c') (n + k) (xs ++ zs.map (Value.int .i64)) ∧ w.grownBy w' v.ownBlock := by
  subst hk
  exact app_run h hB a c zs hz hn hzn

/-- An append whose run is known, as a step of a region that draws. -/
theorem step_run {P : Program} {w : World} {ops : Array Oper} {o : Oper} {a : Act} {K : Act → World → Prop} {Q : Exit → Act → World → Prop} {E : Prop} (hgd : o.guard = none) (s x : Operand) (t tn : TypeId)
    (ho : o.op = .call { callee := .builtin .append, args := #[s, x], argTypes := #[t, tn] }) (vs vx : Value) (hs : a.eval s = vs) (hx : a.eval x = vx)
    (v' : Value) (w' : World) (hr : (Builtin.append_ #[t, tn] o.type #[vs, vx]).run P w = .ok v' w') (h : K (a.put o.dst v') w') :
    if Region.wanted o (yielded ops a.tmps) = true then Oper.wp P o a w K Q else E := by
  rw [if_pos (by simp [Region.wanted, hgd])]
  exact Lib.wp_append_run w s x t tn ho vs vx hs hx v' w' hr h

theorem step_run2 {P : Program} {w : World} {ops : Array Oper} {o : Oper} {a : Act} {K : Act → World → Prop} {Q : Exit → Act → World → Prop} {E : Prop} (hgd : o.guard = none) (s x : Operand) (t tn : TypeId)
    (ho : o.op = .call { callee := .builtin .append, args := #[s, x], argTypes := #[t, tn] }) (vs vx : Value) (hs : a.eval s = vs) (hx : a.eval x = vx)
    (h : ∃ v' w', (Builtin.append_ #[t, tn] o.type #[vs, vx]).run P w = .ok v' w' ∧ K (a.put o.dst v') w') :
    if Region.wanted o (yielded ops a.tmps) = true then Oper.wp P o a w K Q else E := by
  obtain ⟨v', w', hr, hk⟩ := h
  exact step_run hgd s x t tn ho vs vx hs hx v' w' hr hk

end Go.Proofs.YtacglafoahmcnaaDoor

/- It is proved what the FamilyPut of the model returns; conditions: those of each statement. -/
namespace Go.Proofs.YtacglafoahmcnaaDoor
open Go.RowKit

theorem step_run3 {P : Program} {w : World} {ops : Array Oper} {o : Oper} {a : Act} {K : Act → World → Prop} {Q : Exit → Act → World → Prop} {E : Prop} (s x : Operand) (t tn : TypeId) (vs vx : Value) (hgd : o.guard = none)
    (ho : o.op = .call { callee := .builtin .append, args := #[s, x], argTypes := #[t, tn] }) (hs : a.eval s = vs) (hx : a.eval x = vx)
    (h : ∃ v' w', (Builtin.append_ #[t, tn] o.type #[vs, vx]).run P w = .ok v' w' ∧ K (a.put o.dst v') w') :
    if Region.wanted o (yielded ops a.tmps) = true then Oper.wp P o a w K Q else E := step_run2 hgd s x t tn ho vs vx hs hx h

theorem app_run0 {w : World} {B : Nat} {v : Value} (h : OwnI w B v []) (hB : B ≤ w.heap.size) (a : Option Addr) (c : Nat) (zs : List Int) (hz : Ints w w.heap.size a zs) (_hn : 0 ≤ 1048576) (hzn : zs.length ≤ 1048576) :
    ∃ a' c' w', (Builtin.append_ #[23, 23] 23 #[v, .slice a zs.length c]).run Tryd.prog w = .ok (.slice a' zs.length c') w' ∧
      w'.ownsRow B 3 1 (.slice a' zs.length c') zs.length (zs.map (Value.int .i64)) ∧ w.grownBy w' v.ownBlock := by
  have := app_run (n := 0) (xs := []) h hB a c zs hz (by omega) hzn
  simpa using this

theorem one_blk {w : World} {x : Int} {b : Nat} (h : w.heap[b]? = some (.cells #[.int .i64 x] 3 (0, 0))) : Ints w w.heap.size (some ⟨b, 0, none⟩) [x] := by
  refine .inr ⟨b, 0, rfl, lt_of_some h, fun j hj => ?_⟩
  obtain rfl : j = 0 := by simpa using hj
  exact blk_cell h 0

theorem one_ints0 (w : World) (x : Int) : Ints (w.alloc (.cells #[.int .i64 x] 3)) (w.alloc (.cells #[.int .i64 x] 3)).heap.size (some ⟨w.heap.size, 0, none⟩) [x] := one_blk (alloc_new w _)
end Go.Proofs.YtacglafoahmcnaaDoor

/- It is proved what l1Put returns; conditions: the bounds in each statement. -/
namespace Go.Proofs.YtacglafoahmcnaaDoor
open Go.RowKit

theorem app_run0n {w : World} {B k : Nat} {v : Value} (h : OwnI w B v []) (hB : B ≤ w.heap.size) (a : Option Addr) (c : Nat) (zs : List Int) (hk : zs.length = k) (hz : Ints w w.heap.size a zs) (hzn : k ≤ 1048576) :
    ∃ a' c' w', (Builtin.append_ #[23, 23] 23 #[v, .slice a k c]).run Tryd.prog w = .ok (.slice a' k c') w' ∧
      w'.ownsRow B 3 1 (.slice a' k c') k (zs.map (Value.int .i64)) ∧ w.grownBy w' v.ownBlock := by
  subst hk
  exact app_run0 h hB a c zs hz (by omega) hzn

theorem app_run_t {w : World} {B n k t : Nat} {v : Value} {xs : List Value} (h : w.ownsRow B 3 1 v n xs) (hB : B ≤ w.heap.size) (a : Option Addr) (c : Nat) (zs : List Int) (hk : zs.length = k) (hz : Ints w w.heap.size a zs) (ht : n + k = t) (hn : n ≤ 1048576) (hzn : k ≤ 1048576) :
    ∃ a' c' w', (Builtin.append_ #[23, 23] 23 #[v, .slice a k c]).run Tryd.prog w = .ok (.slice a' t c') w' ∧
      w'.ownsRow B 3 1 (.slice a' t c') t (xs ++ zs.map (Value.int .i64)) ∧ w.grownBy w' v.ownBlock := by
  subst ht
  exact app_run_n h hB a c zs hk hz hn hzn

end Go.Proofs.YtacglafoahmcnaaDoor

/- It is proved what rows of the call's own rows are, and what appending one leaves; conditions: those of each statement. -/
namespace Go.Proofs.YtacglafoahmcnaaDoor
open Go.RowKit Go.Shelf

theorem wp_append_eq {P : Program} (w : World) {o : Oper} {a : Act} {K : Act → World → Prop} {Q : Exit → Act → World → Prop} (s x : Operand) (t t' : TypeId)
    (ho : o.op = .call { callee := .builtin .append, args := #[s, x], argTypes := #[t, t'] }) (v u : Value) (hs : a.eval s = v) (hx : a.eval x = u) {v' : Value} {w' : World}
    (hr : (Builtin.append_ #[t, t'] o.type #[v, u]).run P w = .ok v' w') (h : K (a.put o.dst v') w') : o.wp P a w K Q := by
  unfold Oper.wp execOp
  simp only [ho, resolve, invoke, builtin, Sem.run_bind, Sem.run_pure, Result.andThen_ok, List.map_toArray, List.map_cons, List.map_nil, hs, hx, hr]
  exact h

theorem wpList_append_eq {P : Program} (w : World) {ops : Array Oper} {rest : List Oper} {o : Oper} {a : Act} {Q : Exit → Act → World → Prop} (hg : o.guard = none) (s x : Operand) (t t' : TypeId)
    (ho : o.op = .call { callee := .builtin .append, args := #[s, x], argTypes := #[t, t'] }) (v u : Value) (hs : a.eval s = v) (hx : a.eval x = u) {v' : Value} {w' : World}
    (hr : (Builtin.append_ #[t, t'] o.type #[v, u]).run P w = .ok v' w') (h : wpList P ops Q rest (a.put o.dst v') w') : wpList P ops Q (o :: rest) a w :=
  wpList_plain hg fun _ hK => wp_append_eq w s x t t' ho v u hs hx hr (hK _ _ h)

theorem Tryd.infoRow : (Tryd.prog.info? 23).map (fun i => (i.zero, i.size, i.bytes)) = some (some (.slice none 0 0), 1, 24) := by kernel_rfl
/-- A list of the call's own. -/
def Inner (W : World) (B : Nat) (v : Value) (zs : List Int) : Prop := ∃ a c, v = .slice a zs.length c ∧ OwnN W B a zs.length c zs

/-- A list of lists, all of the call's own. -/
def Rws (W : World) (B : Nat) (v : Value) (L : List (List Int)) : Prop :=
  ∃ vals : List Value, W.ownsRow B 23 1 v L.length vals ∧ ∀ i, i < L.length → Inner W B (vals[i]?.getD undef) (L[i]?.getD [])

theorem type_ne {W : World} {B B' k k' : Nat} {e e' : TypeId} {v v' : Value} {xs xs' : List Value} (h : W.ownsRow B e 1 v k xs) (h' : W.ownsRow B' e' 1 v' k' xs') (he : e ≠ e') : v.ownBlock = none ∨ v.ownBlock ≠ v'.ownBlock := by
  rcases h.2 with ⟨rfl, _⟩ | ⟨g, cap, cur, rfl, _, hg, _⟩
  · exact .inl rfl
  · right
    rcases h'.2 with ⟨rfl, _⟩ | ⟨g', cap', cur', rfl, _, hg', _⟩
    · simp [Value.ownBlock]
    · simp only [Value.ownBlock]
      intro e2
      injection e2 with e2
      subst e2
      rw [hg] at hg'
      injection hg' with hg'
      injection hg' with _ h3 _
      exact he h3

theorem Inner.kept {W W' : World} {B : Nat} {v : Value} {zs : List Int} {row : Option Nat} (h : Inner W B v zs) (hg : W.grownBy W' row) (hr : v.ownBlock = none ∨ v.ownBlock ≠ row) : Inner W' B v zs := by
  obtain ⟨a, c, rfl, ho⟩ := h
  exact ⟨a, c, rfl, ho.kept hg hr⟩

theorem Rws.alloc {W : World} {B : Nat} {v : Value} {L : List (List Int)} (h : Rws W B v L) (o : Obj) : Rws (W.alloc o) B v L := by
  obtain ⟨vals, h1, h2⟩ := h
  exact ⟨vals, h1.alloc o, fun i hi => (h2 i hi).kept (World.grownBy_alloc W o none) (by cases (vals[i]?.getD undef).ownBlock <;> simp)⟩

theorem Rws.below {W W' : World} {B : Nat} {v : Value} {L : List (List Int)} (h : Rws W B v L) (hb : Below W.heap.size W W') : Rws W' B v L := by
  obtain ⟨vals, h1, h2⟩ := h
  have hg : W.grownBy W' none := only_of_below hb none
  exact ⟨vals, h1.kept hg (by cases v.ownBlock <;> simp), fun i hi => (h2 i hi).kept hg (by cases (vals[i]?.getD undef).ownBlock <;> simp)⟩

theorem Rws.base {W : World} {B B' : Nat} {v : Value} {L : List (List Int)} (h : Rws W B v L) (hB : B' ≤ B) : Rws W B' v L := by
  obtain ⟨vals, h1, h2⟩ := h
  exact ⟨vals, ownsRow_base h1 hB, fun i hi => by obtain ⟨a, c, e, ho⟩ := h2 i hi; exact ⟨a, c, e, ho.base hB⟩⟩

theorem Rws.form {W : World} {B : Nat} {v : Value} {L : List (List Int)} (h : Rws W B v L) : ∃ a c, v = .slice a L.length c := by
  obtain ⟨vals, h1, h2⟩ := h
  rcases h1.2 with ⟨rfl, e⟩ | ⟨g, cap, cur, rfl, _⟩
  · exact ⟨none, 0, by rw [e]⟩
  · exact ⟨_, _, rfl⟩

/-- One of the lists. -/
theorem Rws.at_ {W : World} {B : Nat} {a : Option Addr} {n c : Nat} {L : List (List Int)} (h : Rws W B (.slice a n c) L) {i : Nat} (hi : i < L.length) :
    ∃ g a' c', a = some ⟨g, 0, none⟩ ∧ W.cell? ⟨g, i, none⟩ = some (.slice a' (L[i]?.getD []).length c') ∧ OwnN W B a' (L[i]?.getD []).length c' (L[i]?.getD []) := by
  obtain ⟨vals, h1, h2⟩ := h
  obtain ⟨a', c', e, ho⟩ := h2 i hi
  have hl : i < vals.length := by have := h1.1; omega
  rcases h1.2 with ⟨_, e0⟩ | ⟨g, cap, cur, e1, hb, hg, hnc, _, hs, ht⟩
  · omega
  · injection e1 with e1 e2 e3
    refine ⟨g, a', c', e1, ?_, ho⟩
    rw [blk_cell hg i, ← e]
    have : cur.toList[i]? = vals[i]? := by rw [← ht, List.getElem?_take, if_pos (by omega)]
    rw [← Array.getElem?_toList, this, List.getElem?_eq_getElem hl]
    rfl

theorem rws_nil (W : World) (B : Nat) {g : Nat} (hg : W.heap[g]? = some (.cells #[] 23 (0, 0))) (hB : B ≤ g) : Rws W B (.slice (some ⟨g, 0, none⟩) 0 0) [] :=
  ⟨[], ⟨by simp, .inr ⟨g, 0, #[], rfl, hB, hg, Nat.le_refl _, by simp [maxLen], by simp, by simp⟩⟩, fun i hi => by simp at hi⟩

/-- A list, and a number behind it, put behind a list of lists. -/
theorem ext_row {W : World} {B : Nat} {v : Value} {L : List (List Int)} (hR : Rws W B v L) (hBW : B ≤ W.heap.size) (hL : L.length ≤ 100000) (a1 : Option Addr) (c1 k : Nat) (l : List Int) (hl : l.length = k) (hk : k ≤ 100) (h1 : Ints W W.heap.size a1 l) (x : Int) :
    ∃ a3 c3 w3 a4 c4 w4 a5 c5 w5, ((Builtin.append_ #[23, 23] 23 #[.slice (some ⟨W.heap.size, 0, none⟩) 0 0, .slice a1 k c1]).run Tryd.prog (W.alloc (.cells #[] 3)) = .ok (.slice a3 k c3) w3) ∧
      ((Builtin.append_ #[23, 23] 23 #[.slice a3 k c3, .slice (some ⟨w3.heap.size, 0, none⟩) 1 1]).run Tryd.prog (w3.alloc (.cells #[.int .i64 x] 3)) = .ok (.slice a4 (k + 1) c4) w4) ∧
      ((Builtin.append_ #[87, 87] 87 #[v, .slice (some ⟨w4.heap.size, 0, none⟩) 1 1]).run Tryd.prog (w4.alloc (.cells #[.slice a4 (k + 1) c4] 23)) = .ok (.slice a5 (L.length + 1) c5) w5) ∧
      Rws w5 B (.slice a5 (L.length + 1) c5) (L ++ [l ++ [x]]) ∧ Below B W w5 := by
  obtain ⟨i0, hi0, hz0, hz1, hz2⟩ := info_parts Tryd.infoRow
  have hE : OwnI (W.alloc (.cells #[] 3)) W.heap.size (.slice (some ⟨W.heap.size, 0, none⟩) 0 0) [] := own_empty (alloc_new W _) (Nat.le_refl _)
  have hB0 : Below W.heap.size W (W.alloc (.cells #[] 3)) := below1 W (.cells #[] 3)
  obtain ⟨a3, c3, w3, hr3, ho3, hg3⟩ := app_run0n (k := k) hE hB0.size a1 c1 l hl ((h1.below hB0).mono hB0.size) (by omega)
  have hb3 : Below W.heap.size W w3 := hB0.grown hg3 hB0.size (fun g e => (World.ownsRow.lt hE g e).1)
  have hX : Ints (w3.alloc (.cells #[.int .i64 x] 3)) (w3.alloc (.cells #[.int .i64 x] 3)).heap.size (some ⟨w3.heap.size, 0, none⟩) [x] := one_ints0 w3 x
  have ho3' := ho3.alloc (.cells #[.int .i64 x] 3)
  have hb3' : Below W.heap.size W (w3.alloc (.cells #[.int .i64 x] 3)) := hb3.alloc hb3.size _
  obtain ⟨a4, c4, w4, hr4, ho4, hg4⟩ := app_run_t (t := k + 1) (k := 1) ho3' hb3'.size (some ⟨w3.heap.size, 0, none⟩) 1 [x] rfl hX (by omega) (by omega) (by omega)
  have hb4 : Below W.heap.size W w4 := hb3'.grown hg4 hb3'.size (fun g e => (World.ownsRow.lt ho3' g e).1)
  have hb5 : Below W.heap.size W (w4.alloc (.cells #[.slice a4 (k + 1) c4] 23)) := hb4.alloc hb4.size _
  obtain ⟨vals, hv1, hv2⟩ := hR.below hb5
  have ho5 := ho4.alloc (.cells #[.slice a4 (k + 1) c4] 23)
  have hnb := alloc_new w4 (.cells #[.slice a4 (k + 1) c4] 23)
  obtain ⟨v', w5, hr5, h2, h3, _⟩ := run_append_own (P := Tryd.prog) (w4.alloc (.cells #[.slice a4 (k + 1) c4] 23)) B 87 87 23 i0 (.slice none 0 0) 1 24 Tryd.underlying87 hi0 hz0 hz1 hz2 rfl (by decide) v L.length vals hv1 ⟨w4.heap.size, 0, none⟩ 1 1 [.slice a4 (k + 1) c4] (by simp)
    (fun j u hu => by
      have hj : j = 0 := by have := (List.getElem?_eq_some_iff.1 hu).1; simpa using this
      subst hj
      simp at hu
      subst hu
      exact blk_cell hnb 0) (by simp [Value.oneCell']) (by simp only [maxLen]; omega) (by omega) (Nat.le_trans hBW hb5.size)
  obtain ⟨a5, c5, rfl⟩ : ∃ a5 c5, v' = .slice a5 (L.length + 1) c5 := by
    rcases h2.2 with ⟨rfl, e⟩ | ⟨g, cap, cur, rfl, _⟩
    · omega
    · exact ⟨_, _, rfl⟩
  refine ⟨a3, c3, w3, a4, c4, w4, a5, c5, w5, hr3, hr4, hr5, ⟨vals ++ [.slice a4 (k + 1) c4], by rw [List.length_append]; exact h2, fun i hi => ?_⟩, ?_⟩
  · have hvl : vals.length = L.length := by have := hv1.1; omega
    rw [List.length_append] at hi
    by_cases hil : i < L.length
    · rw [List.getElem?_append_left (by omega), List.getElem?_append_left hil]
      obtain ⟨a', c', e, ho⟩ := hv2 i hil
      exact ⟨a', c', e, ho.kept h3 (type_ne ho hv1 (by decide))⟩
    · have hie : i = L.length := by simp at hi; omega
      subst hie
      rw [List.getElem?_append_right (by omega), List.getElem?_append_right (by omega), hvl, Nat.sub_self]
      refine ⟨a4, c4, by simp [hl], ?_⟩
      have h6 := ho5.kept h3 (type_ne ho5 hv1 (by decide))
      simp only [List.getElem?_cons_zero, Option.getD_some, List.length_append, hl, List.length_singleton]
      have h7 : OwnN w5 W.heap.size a4 (k + 1) c4 (l ++ [x]) := by unfold OwnN; rw [List.map_append]; exact h6
      exact h7.base hBW
  · exact (hb5.mono hBW).grown h3 (Nat.le_trans hBW hb5.size) (fun g e => (World.ownsRow.lt hv1 g e).1)

end Go.Proofs.YtacglafoahmcnaaDoor

/- It is proved what AlikeNames of the program and of the reference model return; conditions: those of each statement. -/
namespace Go.Proofs.YtacglafoahmcnaaDoor
open Go.RowKit Go.Shelf Go.Maps

theorem slice_nil (g o n c : Nat) (w : World) : (binOp BinOp.eql 23 (.slice (some ⟨g, o, none⟩) n c) (.slice none 0 0)).run Tryd.prog w = .ok (.bool false) w := by kernel_rfl
set_option maxRecDepth 100000 in
set_option maxHeartbeats 1000000 in
theorem clone_any (g o c n : Nat) (xs : List Int) (hn : xs.length = n) (hx : n ≤ 1048576) (w : World) (ha : Ints w w.heap.size (some ⟨g, o, none⟩) xs) :
    Calls Tryd.prog 82 #[.slice (some ⟨g, o, none⟩) n c] w fun e w' => ∃ a' c', e = .returned (.slice a' n c') ∧ OwnN w' w.heap.size a' n c' xs ∧ Below w.heap.size w w' := by
  have hE : OwnI (w.alloc (.cells #[] 3)) w.heap.size (.slice (some ⟨w.heap.size, 0, none⟩) 0 0) [] := own_empty (alloc_new w _) (Nat.le_refl _)
  have hB0 : Below w.heap.size w (w.alloc (.cells #[] 3)) := below1 w (.cells #[] 3)
  obtain ⟨a3, c3, w3, hr3, ho3, hg3⟩ := app_run0n (k := n) hE hB0.size (some ⟨g, o, none⟩) c xs hn ((ha.below hB0).mono hB0.size) (by omega)
  have hb3 : Below w.heap.size w w3 := hB0.grown hg3 hB0.size (fun g e => (World.ownsRow.lt hE g e).1)
  have HO := Lib.hid (show OwnN w3 w.heap.size a3 n c3 xs from ho3)
  have HB := Lib.hid hb3
  have hnl := slice_nil g o n c w
  clear ha hE hB0 ho3 hg3 hb3 hn
  go_enter Tryd.func82, Tryd.ntmps82
  go_wp2_with (at_builtin; refine wpList_append_eq _ rfl _ _ 23 23 rfl _ _ rfl rfl hr3 ?_)
  go_ret
  exact ⟨_, _, rfl, HO.out, HB.out⟩

end Go.Proofs.YtacglafoahmcnaaDoor
