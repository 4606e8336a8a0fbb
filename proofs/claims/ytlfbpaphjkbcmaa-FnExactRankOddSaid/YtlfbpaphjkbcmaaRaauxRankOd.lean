/- It is proved how rows of ints of the call's own are read and kept; conditions: those of each statement. -/
import Derived.Test.YtlfbpaphjkbcmaaRows
import Derived.WalkKit
import Derived.WalkSpells
import Derived.ProofKit
import Derived.OpenShut
import Derived.ShutString
import Derived.ChangeOld
import Derived.Below
import Derived.Deep.RegionHeld3
import Derived.Deep.QuietTactic
import Derived.BigQuiet
import Derived.Lib.Hide
import Derived.Lib.SmallJoins
import Derived.Outline
import Derived.Laws.MakeOwn
import Derived.Laws.OwnMore
import Derived.IntWalk
import Derived.RangeFuncNested
import Derived.RangeFuncBound
import Derived.RangeFuncCalls
import Derived.RangeFuncLeaves
import Derived.RangeFuncBox
import Derived.Shelf.Abstract
import Derived.Shelf.RegionOpen
import Derived.OwnWalkIn
import Derived.TacticsInMore
import Derived.LoopNIn
import Derived.LoopIn
import Derived.Maps.AppendAt
import Derived.Deep.AppendLies
import Derived.Test.YtlfbpaphjkbcmaaB
import Derived.Test.YtlfbpaphjkbcmaaE
import Derived.Test.YtlfbpaphjkbcmaaH
import Derived.Test.YtlfbpaphjkbcmaaK
import Derived.Test.YtlfbpaphjkbcmaaSa
import Derived.RowKit
import Derived.RangeFuncWrites
import Derived.Deep.RegionLaw
import Derived.Lib.AppendZeros
import Derived.OwnWalk
import Derived.Shelf.Spec.TrailingZeros
import Derived.Test.YtlfbpaphjkbcmaaC
import Derived.Test.YtlfbpaphjkbcmaaRaasxRankOd
import Derived.Laws.CopyRow
import Derived.Lib.SlBuf
import Derived.StillTailTactics
import Derived.Maps.OwnIn
import Derived.Maps.Ext
import Derived.DeepKeys4
import Derived.MapKept
import Derived.Lib.SlicesCompact
import Derived.Lib.OwnBridge
import Derived.OrdersIn
import Derived.TacticsIn
import Derived.Shelf.Sort.Plain
import Derived.Shelf.Slices.In.SortNone
import Derived.Shelf.Slices.CompactI
import Derived.Ground.Names2Prog
import Derived.Lib.SliceRun
import Derived.StillTail
import Derived.StillTactics
import Derived.Test.YtlfbpaphjkbcmaaF
import Derived.Test.YtlfbpaphjkbcmaaN
import Derived.Test.YtlfbpaphjkbcmaaP
import Derived.Test.YtlfbpaphjkbcmaaRaatxRankOd
import Derived.Test.YtlfbpaphjkbcmaaZa
import Derived.Test.YtlfbpaphjkbcmaaZc
namespace Go.Proofs.Ytlfbpaphjkbcmaa
open Go.RowKit Go.Shelf

theorem ownsRow_below {w w' : World} {B n : Nat} {v : Value} {xs : List Value} (h : w.ownsRow B 3 1 v n xs) (hb : Below w.heap.size w w') : w'.ownsRow B 3 1 v n xs :=
  World.ownsRow.kept h (only_of_below hb none) (by cases v.ownBlock <;> simp)

theorem OwnN.cap_le {w : World} {B : Nat} {a : Option Addr} {n cap : Nat} {zs : List Int} (h : OwnN w B a n cap zs) : n ≤ cap := by
  rcases h.2 with ⟨e, hn⟩ | ⟨g, c, cur, e, hb, hg, hc, _⟩
  · omega
  · injection e with e1 e2 e3
    omega

theorem OwnN.len {w : World} {B : Nat} {a : Option Addr} {n cap : Nat} {zs : List Int} (h : OwnN w B a n cap zs) : zs.length = n := by
  have := h.1; simpa using this

theorem OwnN.ints {w : World} {B : Nat} {a : Option Addr} {n cap : Nat} {zs : List Int} (h : OwnN w B a n cap zs) : Ints w w.heap.size a zs := by
  have hl := h.len
  subst hl
  exact own_ints (n := zs.length) (cap := cap) (B := B) h

theorem OwnN.base {w : World} {B B' : Nat} {a : Option Addr} {n cap : Nat} {zs : List Int} (h : OwnN w B a n cap zs) (hB : B' ≤ B) : OwnN w B' a n cap zs := ownsRow_base h hB
theorem OwnN.below {w w' : World} {B : Nat} {a : Option Addr} {n cap : Nat} {zs : List Int} (h : OwnN w B a n cap zs) (hb : Below w.heap.size w w') : OwnN w' B a n cap zs := ownsRow_below h hb
theorem OwnN.ne {w : World} {B : Nat} {a : Option Addr} {n cap : Nat} {zs : List Int} (h : OwnN w B a n cap zs) {b : Nat} (hb : b < B ∨ w.heap.size ≤ b) : (Value.slice a n cap).ownBlock ≠ some b := by
  intro e
  have := World.ownsRow.lt h b e
  omega

theorem OwnN.cell {w : World} {B g n cap : Nat} {ys : List Int} (h : OwnN w B (some ⟨g, 0, none⟩) n cap ys) {j : Nat} (hj : j < n) : w.cell? ⟨g, j, none⟩ = some (.int .i64 (ys[j]?.getD 0)) := by
  have hl := h.len
  have := World.ownsRow.cellAt h j (by omega)
  rw [this]; simp [show j < ys.length by omega]

theorem OwnN.cellz {w : World} {B g n cap : Nat} {ys : List Int} (h : OwnN w B (some ⟨g, 0, none⟩) n cap ys) {j : Nat} (hj : j < n) : w.cell? ⟨g, j, none⟩ = some (.int .i64 (ys[j]?.getD 0)) := h.cell hj
end Go.Proofs.Ytlfbpaphjkbcmaa

/- It is proved what rows of the call's own rows are, and what appending one leaves; conditions: those of each statement. -/
namespace Go.Proofs.Ytlfbpaphjkbcmaa
open Go.RowKit Go.Shelf

/-- A list of the call's own. -/
def Inner (W : World) (B : Nat) (v : Value) (zs : List Int) : Prop := ∃ a c, v = .slice a zs.length c ∧ OwnN W B a zs.length c zs

/-- A list of lists, all of the call's own. -/
def Rws (W : World) (B : Nat) (v : Value) (L : List (List Int)) : Prop :=
  ∃ vals : List Value, W.ownsRow B 22 1 v L.length vals ∧ ∀ i, i < L.length → Inner W B (vals[i]?.getD undef) (L[i]?.getD [])

theorem type_ne {W : World} {B B' k k' : Nat} {e e' : TypeId} {v v' : Value} {xs xs' : List Value} (h : W.ownsRow B e 1 v k xs) (h' : W.ownsRow B' e' 1 v' k' xs') (he : e ≠ e') : v.ownBlock = none ∨ v.ownBlock ≠ v'.ownBlock := by
  rcases h.2 with ⟨rfl, _⟩ | ⟨g, cap, cur, rfl, _, hg, _⟩
  · exact .inl rfl
  · right
    rcases h'.2 with ⟨rfl, _⟩ | ⟨g', cap', cur', rfl, _, hg', _⟩
    · simp [Value.ownBlock]
    · simp only [Value.ownBlock]
      intro e2
      injection e2 with e2
      subst e2
      rw [hg] at hg'
      injection hg' with hg'
      injection hg' with _ h3 _
      exact he h3

theorem Inner.kept {W W' : World} {B : Nat} {v : Value} {zs : List Int} {row : Option Nat} (h : Inner W B v zs) (hg : W.grownBy W' row) (hr : v.ownBlock = none ∨ v.ownBlock ≠ row) : Inner W' B v zs := by
  obtain ⟨a, c, rfl, ho⟩ := h
  exact ⟨a, c, rfl, ho.kept hg hr⟩

theorem Rws.alloc {W : World} {B : Nat} {v : Value} {L : List (List Int)} (h : Rws W B v L) (o : Obj) : Rws (W.alloc o) B v L := by
  obtain ⟨vals, h1, h2⟩ := h
  exact ⟨vals, h1.alloc o, fun i hi => (h2 i hi).kept (World.grownBy_alloc W o none) (by cases (vals[i]?.getD undef).ownBlock <;> simp)⟩

theorem Rws.below {W W' : World} {B : Nat} {v : Value} {L : List (List Int)} (h : Rws W B v L) (hb : Below W.heap.size W W') : Rws W' B v L := by
  obtain ⟨vals, h1, h2⟩ := h
  have hg : W.grownBy W' none := only_of_below hb none
  exact ⟨vals, h1.kept hg (by cases v.ownBlock <;> simp), fun i hi => (h2 i hi).kept hg (by cases (vals[i]?.getD undef).ownBlock <;> simp)⟩

theorem Rws.base {W : World} {B B' : Nat} {v : Value} {L : List (List Int)} (h : Rws W B v L) (hB : B' ≤ B) : Rws W B' v L := by
  obtain ⟨vals, h1, h2⟩ := h
  exact ⟨vals, ownsRow_base h1 hB, fun i hi => by obtain ⟨a, c, e, ho⟩ := h2 i hi; exact ⟨a, c, e, ho.base hB⟩⟩

theorem Rws.form {W : World} {B : Nat} {v : Value} {L : List (List Int)} (h : Rws W B v L) : ∃ a c, v = .slice a L.length c := by
  obtain ⟨vals, h1, h2⟩ := h
  rcases h1.2 with ⟨rfl, e⟩ | ⟨g, cap, cur, rfl, _⟩
  · exact ⟨none, 0, by rw [e]⟩
  · exact ⟨_, _, rfl⟩

/-- One of the lists. -/
theorem Rws.at_ {W : World} {B : Nat} {a : Option Addr} {n c : Nat} {L : List (List Int)} (h : Rws W B (.slice a n c) L) {i : Nat} (hi : i < L.length) :
    ∃ g a' c', a = some ⟨g, 0, none⟩ ∧ W.cell? ⟨g, i, none⟩ = some (.slice a' (L[i]?.getD []).length c') ∧ OwnN W B a' (L[i]?.getD []).length c' (L[i]?.getD []) := by
  obtain ⟨vals, h1, h2⟩ := h
  obtain ⟨a', c', e, ho⟩ := h2 i hi
  have hl : i < vals.length := by have := h1.1; omega
  rcases h1.2 with ⟨_, e0⟩ | ⟨g, cap, cur, e1, hb, hg, hnc, _, hs, ht⟩
  · omega
  · injection e1 with e1 e2 e3
    refine ⟨g, a', c', e1, ?_, ho⟩
    rw [blk_cell hg i, ← e]
    have : cur.toList[i]? = vals[i]? := by rw [← ht, List.getElem?_take, if_pos (by omega)]
    rw [← Array.getElem?_toList, this, List.getElem?_eq_getElem hl]
    rfl

end Go.Proofs.Ytlfbpaphjkbcmaa

/- It is proved what common returns: for each club the numbers of members it shares with each; conditions: those of each statement. -/
namespace Go.Proofs.Ytlfbpaphjkbcmaa
open Go.RowKit Go.Shelf

attribute [local go_sem] Oper.semAt_some

theorem Try.infoInts : (Try.prog.info? 22).map (fun i => (i.zero, i.size, i.bytes)) = some (some (.slice none 0 0), 1, 24) := by kernel_rfl
/-- The numbers shared, club by club. -/
def comL (zs : List Int) (ls : List Int) : List (List Int) := ls.map fun x => shrZ zs x

theorem shrZ_len (zs : List Int) (x : Int) : (shrZ zs x).length = zs.length := by unfold shrZ; rw [List.length_map, List.length_map]
theorem own_snocE {W : World} {B g n cap : Nat} {te : TypeId} {xs : List Value} (h : W.ownsRow B te 1 (.slice (some ⟨g, 0, none⟩) n cap) n xs) (hn : n < cap) (y : Value) :
    (W.setCell ⟨g, n, none⟩ y).ownsRow B te 1 (.slice (some ⟨g, 0, none⟩) (n + 1) cap) (n + 1) (xs ++ [y]) := by
  rcases h.2 with ⟨e, _⟩ | ⟨g', cap', cur, e, hb, hg, _, hm, hs, ht⟩
  · cases e
  · injection e with e1 e2 e3
    injection e1 with e1
    injection e1 with e1
    subst e1; subst e3
    refine ⟨by have := h.1; simp; omega, .inr ⟨g, cap, cur.setIfInBounds n y, rfl, hb, heap_setCell_same W g n cur te y hg, by omega, hm, by simpa using hs, ?_⟩⟩
    simp only [Nat.mul_one] at ht ⊢
    rw [Array.toList_setIfInBounds, List.take_succ_eq_append_getElem (by simp; omega), List.take_set_of_le (Nat.le_refl _), ht]
    simp

theorem spare_cellE {W : World} {B g n cap : Nat} {te : TypeId} {xs : List Value} (h : W.ownsRow B te 1 (.slice (some ⟨g, 0, none⟩) n cap) n xs) (k : Nat) (hk : k < cap) :
    ∃ u, W.cell? ⟨g, k, none⟩ = some u ∧ W.frozen? ⟨g, k, none⟩ = false := by
  rcases h.2 with ⟨e, _⟩ | ⟨g', cap', cur, e, _, hg, _, _, hs, _⟩
  · cases e
  · injection e with e1 e2 e3
    injection e1 with e1
    injection e1 with e1
    subst e1; subst e3
    exact ⟨cur[k]'(by omega), (blk_cell hg k).trans (Array.getElem?_eq_getElem (by omega)), blk_frozen hg k⟩

/-- Rows in a captured variable, with room for n. -/
def CmBox (M lo G n : Nat) (L : List (List Int)) (W : World) : Prop := Boxed W M 35 (.slice (some ⟨G, 0, none⟩) L.length n) ∧ Rws W lo (.slice (some ⟨G, 0, none⟩) L.length n) L

theorem CmBox.own {β : Type} (M lo G n : Nat) (f : β → List (List Int)) : Own (fun s W => CmBox M lo G n (f s) W) := by
  rintro s X Y row ⟨hv, vals, h1, h2⟩ hg hrow
  have key : ∀ {t : TypeId} {v : Value} {k : Nat} {xs : List Value}, X.ownsRow lo t 1 v k xs → v.ownBlock = none ∨ v.ownBlock ≠ row := fun {t v k xs} hr => by
    rcases hr.2 with ⟨rfl, _⟩ | ⟨g, cap, cur, rfl, _, hgb, _⟩
    · exact .inl rfl
    · refine .inr fun e' => ?_
      obtain ⟨o, ho, hc⟩ := hrow g (by simpa [Value.ownBlock] using e'.symm)
      rw [hgb] at ho; cases ho; cases hc
  refine ⟨HasBlk.kept hv hg (fun e' => ?_), vals, h1.kept hg (key h1), fun i hi => ?_⟩
  · obtain ⟨o, ho, hc⟩ := hrow M e'
    rw [show X.heap[M]? = _ from hv] at ho; cases ho; cases hc
  · obtain ⟨a, c, e, ho⟩ := h2 i hi
    exact ⟨a, c, e, ho.kept hg (key ho)⟩

theorem com_ne : (35 : TypeId) ≠ 22 := by decide
theorem com_ne3 : (35 : TypeId) ≠ 3 := by decide
/-- One round of common: what it leaves. -/
theorem common_end {w W V : World} {n M G b0 t0 : Nat} {c0 : Array Value} {L : List (List Int)} {row : List Int} {a1 : Option Addr} {c1 : Nat} (hWs : w.heap.size ≤ W.heap.size) (hGM : G < M) (hG : w.heap.size ≤ G) (hlt : L.length < n)
    (hb2 : Below W.drew.heap.size W.drew V) (hbox : CmBox M w.heap.size G n L W) (hin : OwnN V w.heap.size a1 n c1 row) (hrl : row.length = n) (hB : Below w.heap.size w W)
    (q0 : HasBlk W b0 c0 t0) (h0 : b0 < G) :
    (∀ B, KeepsFrom B W (((V.setCell ⟨G, L.length, none⟩ (.slice a1 n c1)).setCell ⟨M, 0, none⟩ (.slice (some ⟨G, 0, none⟩) (L.length + 1) n)).alloc (.cells #[.slice a1 n c1] 22))) ∧
    Below w.heap.size W (((V.setCell ⟨G, L.length, none⟩ (.slice a1 n c1)).setCell ⟨M, 0, none⟩ (.slice (some ⟨G, 0, none⟩) (L.length + 1) n)).alloc (.cells #[.slice a1 n c1] 22)) ∧
    (CmBox M w.heap.size G n (L ++ [row]) (((V.setCell ⟨G, L.length, none⟩ (.slice a1 n c1)).setCell ⟨M, 0, none⟩ (.slice (some ⟨G, 0, none⟩) (L.length + 1) n)).alloc (.cells #[.slice a1 n c1] 22)) ∧
      HasBlk (((V.setCell ⟨G, L.length, none⟩ (.slice a1 n c1)).setCell ⟨M, 0, none⟩ (.slice (some ⟨G, 0, none⟩) (L.length + 1) n)).alloc (.cells #[.slice a1 n c1] 22)) b0 c0 t0) ∧
    Below w.heap.size w (((V.setCell ⟨G, L.length, none⟩ (.slice a1 n c1)).setCell ⟨M, 0, none⟩ (.slice (some ⟨G, 0, none⟩) (L.length + 1) n)).alloc (.cells #[.slice a1 n c1] 22)) := by
  obtain ⟨hv, vals, h1, h2⟩ := hbox
  have hbW : Below W.heap.size W V := ⟨hb2.os, hb2.tape, hb2.output, hb2.size, hb2.block⟩
  have k2 : KeepsOthers W V := ⟨hbW.size, fun k o hk _ => (hbW.block k (lt_of_some hk)).trans hk⟩
  have hb : Below w.heap.size W (((V.setCell ⟨G, L.length, none⟩ (.slice a1 n c1)).setCell ⟨M, 0, none⟩ (.slice (some ⟨G, 0, none⟩) (L.length + 1) n)).alloc (.cells #[.slice a1 n c1] 22)) :=
    (((hbW.mono hWs).setCell (p := ⟨G, L.length, none⟩) hG _).setCell (p := ⟨M, 0, none⟩) (show w.heap.size ≤ M by omega) _).alloc (by have := hbW.size; simp; omega) _
  have hv2 : Boxed V M 35 (.slice (some ⟨G, 0, none⟩) L.length n) := (hbW.block M hv.lt).trans hv
  have hv3 : Boxed (V.setCell ⟨G, L.length, none⟩ (.slice a1 n c1)) M 35 (.slice (some ⟨G, 0, none⟩) L.length n) := HasBlk.far hv2 (show M ≠ G by omega) _
  have keepB : ∀ {b : Nat} {c : Array Value} {t : Nat}, HasBlk W b c t → b < G → HasBlk (((V.setCell ⟨G, L.length, none⟩ (.slice a1 n c1)).setCell ⟨M, 0, none⟩ (.slice (some ⟨G, 0, none⟩) (L.length + 1) n)).alloc (.cells #[.slice a1 n c1] 22)) b c t :=
    fun {b c t} q h => HasBlk.alloc (HasBlk.far (HasBlk.far ((hbW.block b (lt_of_some q)).trans q : HasBlk V b c t) (show b ≠ G by omega) _) (show b ≠ M by omega) _) _
  have hr2 := own_after h1 hb2
  have hr3 := own_snocE hr2 hlt (.slice a1 n c1)
  have hr4 := (ownsRow_setCell_ne hr3 (p := ⟨M, 0, none⟩) (by simp [Value.ownBlock]; omega) (.slice (some ⟨G, 0, none⟩) (L.length + 1) n)).alloc (.cells #[.slice a1 n c1] 22)
  have inner : ∀ {a : Option Addr} {m c : Nat} {l : List Int}, OwnN V w.heap.size a m c l → OwnN (((V.setCell ⟨G, L.length, none⟩ (.slice a1 n c1)).setCell ⟨M, 0, none⟩ (.slice (some ⟨G, 0, none⟩) (L.length + 1) n)).alloc (.cells #[.slice a1 n c1] 22)) w.heap.size a m c l := fun {a m c l} ho => by
    have n1 : (Value.slice a m c).ownBlock ≠ some G := by
      rcases type_ne ho hr2 (by decide) with h | h
      · rw [h]; simp
      · simpa [Value.ownBlock] using h
    have n2 : (Value.slice a m c).ownBlock ≠ some M := (hasBlk_not_row hv2 com_ne3 ho).symm
    exact (ownsRow_setCell_ne (ownsRow_setCell_ne ho (p := ⟨G, L.length, none⟩) n1 _) (p := ⟨M, 0, none⟩) n2 _).alloc _
  have hvl : vals.length = L.length := by have := h1.1; omega
  refine ⟨fun _ => (((k2.trans (KeepsOthers.setCell _ _ _)).trans (KeepsOthers.setCell _ _ _)).trans (KeepsOthers.alloc _ _)).from _, hb, ⟨⟨?_, vals ++ [.slice a1 n c1], ?_, fun i hi => ?_⟩, keepB q0 h0⟩, hB.trans hb⟩
  · have := (hv3.set (.slice (some ⟨G, 0, none⟩) (L.length + 1) n)).alloc (.cells #[.slice a1 n c1] 22)
    rw [List.length_append]
    exact this
  · rw [List.length_append]
    exact hr4
  · rw [List.length_append] at hi
    by_cases hil : i < L.length
    · rw [List.getElem?_append_left (by omega), List.getElem?_append_left hil]
      obtain ⟨a', c', e, ho⟩ := h2 i hil
      exact ⟨a', c', e, inner (own_after ho hb2)⟩
    · have hie : i = L.length := by simp at hi; omega
      subst hie
      rw [List.getElem?_append_right (by omega), List.getElem?_append_right (by omega), hvl, Nat.sub_self]
      refine ⟨a1, c1, by simp [hrl], ?_⟩
      simp only [List.getElem?_cons_zero, Option.getD_some, hrl]
      exact inner hin

def RetRws (w : World) (L : List (List Int)) (e : Ending) (w' : World) : Prop := ∃ a c, e = .returned (.slice a L.length c) ∧ Rws w' w.heap.size (.slice a L.length c) L ∧ Below w.heap.size w w'
theorem Rws.putObj {W : World} {B E : Nat} {v : Value} {L : List (List Int)} {o : Obj} (h : Rws W B v L) (o' : Obj) (hK : W.heap[E]? = some o) (hc : o.isCells = false) : Rws (W.putObj E o') B v L := by
  obtain ⟨vals, h1, h2⟩ := h
  exact ⟨vals, ownsRow_putObj h1 o' hK hc, fun i hi => by obtain ⟨a, c, e, ho⟩ := h2 i hi; exact ⟨a, c, e, ownsRow_putObj ho o' hK hc⟩⟩

set_option maxRecDepth 100000 in
set_option maxHeartbeats 4000000 in
theorem common_any (m : Int) (a : Option Addr) (c : Nat) (zs : List Int) (w : World) (ha : Ints w w.heap.size a zs) (hx : zs.length ≤ 1048576) (hz : ∀ z ∈ zs, 0 ≤ z ∧ z.toNat < 64) :
    Calls Try.prog 34 #[.agg #[.int .i64 m, .slice a zs.length c]] w (RetRws w (comL zs zs)) := by
  obtain ⟨i0, hi0, hz0, hz1, hz2⟩ := info_parts Try.infoInts
  have HZ := Lib.hid hz
  obtain ⟨w0, hw0, p0, hse, hb0⟩ : ∃ w0, w.alloc (.cells #[.int .i64 m, .slice a zs.length c] 28) = w0 ∧ HasBlk w0 w.heap.size #[.int .i64 m, .slice a zs.length c] 28 ∧ w0.heap.size = w.heap.size + 1 ∧ Below w.heap.size w w0 := ⟨_, rfl, alloc_new w _, by simp, below1 w _⟩
  have HIN := Lib.hid ha
  have x1 := blk_cell p0 1
  simp only [cell2_1] at x1
  have hs0 : w.heap.size + 1 ≤ w0.heap.size := by omega
  clear hse
  have HB1 := Lib.hid hb0
  have P0 := Lib.hid p0
  have HW0 := Lib.hid hw0
  clear ha hz hb0 p0
  rw [← hw0] at x1
  clear hw0
  refine (callsIn_wide (n := 6)).1 ?_
  refine callsIn_of_wp_marks Try.func34 rfl trivial ?_ rfl
  simp only [Try.ntmps34, List.size_toArray, List.length_cons, List.length_nil, Nat.reduceAdd, Nat.reduceSub, Array.replicate_succ, Array.replicate_zero, List.push_toArray, List.append_toArray, List.nil_append, List.cons_append]
  gi_wp2_with (gi_at_make; refine mark_make ?_)
  rw [HW0.out]
  refine unmark_make ?_
  refine wpListIn_make_own _ rfl _ _ 35 rfl w0.heap.size 22 i0 (.slice none 0 0) 1 Try.underlying35 hi0 hz0 hz1 .i64 .i64 _ zs.length rfl rfl rfl (by rw [hz2]; omega) (by simp only [maxLen]; omega) (Nat.le_refl _) ?_
  intro w1 hown hg
  have q0 := made1_0 hg P0.out
  have y0 := blk_cell (w := w1.alloc (.cells #[.slice (some ⟨w0.heap.size, 0, none⟩) 0 zs.length] 35)) ((alloc_old _ _ _ (lt_of_some q0)).trans q0) 0
  have y1 := blk_cell (w := w1.alloc (.cells #[.slice (some ⟨w0.heap.size, 0, none⟩) 0 zs.length] 35)) ((alloc_old _ _ _ (lt_of_some q0)).trans q0) 1
  have hGl : w0.heap.size < w1.heap.size := (World.ownsRow.lt hown _ rfl).2
  have HQ0 := Lib.hid q0
  have HO := Lib.hid hown
  have HG := Lib.hid (HB1.out.trans (((Below.refl w0.heap.size w0).grown hg (Nat.le_refl _) (by simp)).mono (by omega)))
  clear q0 hown hg x1
  simp only [cell2_0, cell2_1] at y0 y1
  gi_wp2_with (refine ⟨trivial, ?_⟩; gi_at_call 45; refine (callsIn_wide.2 (clubs_any _ _ _ _ _)).mono ?_; rintro e w' ⟨rfl, rfl⟩)
  have hle : w.heap.size ≤ w1.heap.size := by omega
  have h16 : 1 ≤ 6 := by omega
  have hmx : Try.prog.follows .mixedOrders = true := by kernel_rfl
  have bA := Boxed.new w1 35 (.slice (some ⟨w0.heap.size, 0, none⟩) 0 zs.length)
  have HBB : Hid (Below w.heap.size w ((w1.alloc (.cells #[.slice (some ⟨w0.heap.size, 0, none⟩) 0 zs.length] 35)).alloc (.cells #[.int .i64 m, .slice a zs.length c] 28))) := Lib.hid (HG.out.trans ((below2 w1 _ _).mono (by omega)))
  have hst := clubsP_stops (IsSet 6) (6 - 1) (by omega) (w1.heap.size + 1) w.heap.size a c zs hx (show Sets 6 zs from HZ.out).at_ ((w1.alloc (.cells #[.slice (some ⟨w0.heap.size, 0, none⟩) 0 zs.length] 35)).alloc (.cells #[.int .i64 m, .slice a zs.length c] 28)) (by simp) (by simp; omega)
    (by have := blk_cell (alloc_new (w1.alloc (.cells #[.slice (some ⟨w0.heap.size, 0, none⟩) 0 zs.length] 35)) (.cells #[.int .i64 m, .slice a zs.length c] 28)) 1; simp) (HIN.out.below HBB.out)
  refine wpIn_rangeFunc_ownG rfl h16 (gf := 55) (lb := #[.pointer (some ⟨w1.heap.size + 1, 0, none⟩)]) rfl trivial (enters_of Try.func55 (by kernel_rfl) rfl)
    hst belowK_t (belowK_b (by simp; omega)) (Below.refl _ _) (fun _ => rfl)
    (fun pre W => (CmBox w1.heap.size w.heap.size w0.heap.size zs.length (comL zs (sndL pre)) W ∧ HasBlk W w.heap.size #[.int .i64 m, .slice a zs.length c] 28) ∧ Below w.heap.size w W)
    (fun _ _ _ => False)
    (OwnFrom.and (OwnFrom.and (Own.from (CmBox.own _ _ _ _ (fun pre : List { p // IsSet 6 p } => comL zs (sndL pre))) _) (Own.from (hasBlk_own _ _ _) _)) (ownFrom_below (Nat.le_refl _) (by simp; omega)))
    (fun _ _ _ _ _ hs _ _ => hs)
    ⟨⟨⟨bA.alloc _, [], by have := ownsRow_base HO.out (B := w.heap.size) (by omega); simpa [comL, sndL] using (this.alloc _).alloc _, fun i hi => by simp [comL, sndL] at hi⟩, (HasBlk.alloc HQ0.out _).alloc _⟩, HBB.out⟩
    (fun x => { tmps := #[.agg #[.int .i64 m, .slice a zs.length c], .pointer (some ⟨w.heap.size, 0, none⟩), .slice none 0 0, .pointer (some ⟨w1.heap.size, 0, none⟩), undef, .int .i64 x.1.2, .pointer (some ⟨w.heap.size, 1, none⟩), .slice a zs.length c, .int .i64 zs.length, .slice (some ⟨w0.heap.size, 0, none⟩) 0 zs.length, .agg #[.int .i64 m, .slice a zs.length c], .func (.func 55) #[] #[.pointer (some ⟨w1.heap.size + 1, 0, none⟩)], .int .i64 (x.1.1 : Int), .int .i64 x.1.2, undef, undef, undef, undef, undef, undef, undef, undef], defers := [] }) ?assign ?body ?done ?stop
  case assign =>
    intro l x W K hK
    gi_wp2
    exact hK
  case body =>
    rintro l pre ⟨⟨xi, xz⟩, hx0, hx1⟩ W ⟨⟨hbox, q0⟩, hB⟩ hlt
    dsimp only at hx0 hx1
    obtain ⟨z, rfl⟩ : ∃ z : Nat, xz = (z : Int) := ⟨xz.toNat, by omega⟩
    have hz2 : z < 64 := by rw [Int.toNat_natCast] at hx1; exact hx1
    obtain ⟨x, hxx⟩ : ∃ x : { p // IsSet 6 p }, x = ⟨(xi, (z : Int)), hx0, hx1⟩ := ⟨_, rfl⟩
    have hxz : x.1.2 = (z : Int) := by rw [hxx]
    have HLS : Hid (comL zs (sndL (pre ++ [x])) = comL zs (sndL pre) ++ [shrZ zs (z : Int)]) := Lib.hid (by rw [sndL_snoc, hxz]; unfold comL; rw [List.map_append]; rfl)
    have hLl : (comL zs (sndL pre)).length = pre.length := by unfold comL sndL; rw [List.length_map, List.length_map]
    have hlt' : (comL zs (sndL pre)).length < zs.length := by rw [hLl]; exact hlt
    obtain ⟨L, hL⟩ : ∃ L, L = comL zs (sndL pre) := ⟨_, rfl⟩
    rw [← hL] at HLS hlt' hbox
    have hc := hbox.1.cell
    have HV := Lib.hid hbox
    have hWs : w.heap.size ≤ W.heap.size := hB.size
    have HI : Hid (Ints W.drew W.drew.heap.size a zs) := Lib.hid (show Ints W W.heap.size a zs from (HIN.out.below hB).mono hWs)
    have HB := Lib.hid hB
    have HQ0' := Lib.hid q0
    have x0 : W.drew.cell? ⟨w.heap.size, 0, none⟩ = some (.int .i64 m) := (blk_cell q0 0).trans (cell2_0 _ _)
    have x1 : W.drew.cell? ⟨w.heap.size, 1, none⟩ = some (.slice a zs.length c) := (blk_cell q0 1).trans (cell2_1 _ _)
    have hXB : w.heap.size < W.drew.heap.size := lt_of_some q0
    dsimp only
    rw [← hxx]
    clear hbox hB q0 hLl hL hxx
    have hGlt : w0.heap.size < w1.heap.size := hGl
    have hMB : w1.heap.size < W.drew.heap.size := HV.out.1.lt
    have h63 := and_63 HZ.out hz2
    obtain ⟨ys, hys⟩ : ∃ ys, ys = zs.map fun y => bits .and .i64 y (z : Int) := ⟨_, rfl⟩
    have HYL : Hid (ys.length = zs.length) := Lib.hid (by rw [hys, List.length_map])
    have HON := Lib.hid (only_any m (z : Int) a c zs W.drew HI.out hx)
    have HSH : Hid (shrZ zs (z : Int) = ys.map pop) := Lib.hid (by unfold shrZ; rw [hys])
    rw [← hys] at HON h63
    have HSZ := Lib.hid (fun (b : Option Addr) (d : Nat) (V : World) (hb : Ints V V.heap.size b ys) => sizes_any m b d ys V hb (by rw [HYL.out]; exact hx) h63)
    clear hys h63
    gi_wp2
    gi_region_with_o (first
      | (refine ⟨trivial, ?_⟩; gi_at_call 47; refine (CallsIn.inRound l (callsIn_wide.2 HON.out)).mono ?_; rintro e w2 ⟨a2, c2, rfl, ho2, hb2⟩; have hc2' := (hb2.cell (p := ⟨w1.heap.size, 0, none⟩) hMB).trans hc; have hf2' := (hb2.frozen (p := ⟨w1.heap.size, 0, none⟩) hMB).trans HV.out.1.frozen)
      | (refine ⟨trivial, ?_⟩; gi_at_call 33; refine (CallsIn.inRound l (callsIn_wide.2 (HSZ.out a2 c2 w2 (own_ints ho2)))).mono ?_; rintro e w3 ⟨a3, c3, rfl, ho3, hb3⟩; have hb23 : Below W.drew.heap.size W.drew w3 := hb2.trans (hb3.mono hb2.size); obtain ⟨u, hcu, hfu⟩ := spare_cellE (own_after (HV.out.2.choose_spec.1) hb23) L.length hlt'; have hlt2 := lt_of_cell hcu; have hcu' := (World.cell?_alloc_lt w3 (.cells #[.slice a3 zs.length c3] 22) _ hlt2).trans hcu; have hc2 := (hb23.cell (p := ⟨w1.heap.size, 0, none⟩) hMB).trans hc; have hf2 := (hb23.frozen (p := ⟨w1.heap.size, 0, none⟩) hMB).trans HV.out.1.frozen; have hMB2 := lt_of_cell hc2; have hc3 := after_spare (y := .slice a3 zs.length c3) (k := L.length) (o := .cells #[.slice a3 zs.length c3] 22) hGlt hMB2 hc2; have hf3 := after_spare_f (y := .slice a3 zs.length c3) (k := L.length) (o := .cells #[.slice a3 zs.length c3] 22) hGlt hMB2 hf2))
    all_goals
      have h := common_end hWs hGlt (by omega) hlt' hb23 HV.out (row := ys.map pop) (by have h := own_mono ho3 (show w.heap.size ≤ w2.heap.size by have := hb2.size; exact Nat.le_trans hWs this); unfold OwnI at h; rw [List.length_map, HYL.out] at h; exact h) (by rw [List.length_map, HYL.out]) HB.out HQ0'.out (by omega)
      rw [← HSH.out, ← HLS.out] at h
      rw [HYL.out]
      exact ⟨h.1 _, h.2⟩
  case done =>
    rintro D ys W hD hys ⟨⟨hbox, q0⟩, hB⟩ hK
    rw [sndL_all hys] at hbox
    have hlc : (comL zs zs).length = zs.length := by unfold comL; rw [List.length_map]
    have hc := hbox.1.cell
    have HR := Lib.hid hbox.2
    have HB := Lib.hid hB
    have HLC := Lib.hid hlc
    rw [hlc] at hc
    clear hbox hB q0 hlc hys
    gi_wp2
    refine ⟨by simp, .inl ⟨_, _, rfl, run_takeDeferred hK, ?_⟩⟩
    refine ⟨.slice (some ⟨w0.heap.size, 0, none⟩) zs.length zs.length, by simp [results, Try.results34, go_sem], some ⟨w0.heap.size, 0, none⟩, zs.length, by rw [HLC.out], ?_, ?_⟩
    · exact Rws.putObj HR.out _ hK rfl
    · exact HB.out.trans (belowK_b (w := w) (Nat.le_refl _) W D _ _ (by simp at hD; omega) hK rfl rfl)
  case stop =>
    rintro D c pre W _ _ h _
    exact h.elim

end Go.Proofs.Ytlfbpaphjkbcmaa
