/- It is proved what has, namesIn, l1Names and l1Called return; conditions: those of each statement. -/
import Derived.Deep.QuietTactic
import Derived.BigQuiet
import Derived.Test.YtnpfdgbbcapnkaaDoorRows
import Derived.WalkKit
import Derived.WalkSpells
import Derived.ProofKit
import Derived.OpenShut
import Derived.ShutString
import Derived.ChangeOld
import Derived.Below
import Derived.Deep.RegionHeld3
import Derived.Lib.Hide
import Derived.Lib.SmallJoins
import Derived.Outline
import Derived.Laws.MakeOwn
import Derived.Laws.OwnMore
import Derived.IntWalk
import Derived.RangeFuncNested
import Derived.RangeFuncBound
import Derived.RangeFuncCalls
import Derived.RangeFuncLeaves
import Derived.RangeFuncBox
import Derived.Shelf.Abstract
import Derived.Shelf.RegionOpen
import Derived.OwnWalkIn
import Derived.TacticsInMore
import Derived.LoopNIn
import Derived.LoopIn
import Derived.Maps.AppendAt
import Derived.Deep.AppendLies
import Derived.OwnWalk
import Derived.StillTail
import Derived.StillTactics
import Derived.OrdersIn
import Derived.TacticsIn
import Derived.Shelf.Spec.TrailingZeros
import Derived.StillTailTactics
import Derived.Test.YtnpfdgbbcapnkaaDoorRbal
import Derived.Test.YtnpfdgbbcapnkaaDoorRbab
import Derived.RowKit
import Derived.Laws.CopyRow
import Derived.Lib.SlBuf
import Derived.RangeFuncWrites
import Derived.Maps.OwnIn
import Derived.Maps.Ext
import Derived.DeepKeys4
import Derived.MapKept
import Derived.Lib.AppendZeros
import Derived.Lib.SlicesCompact
import Derived.Lib.OwnBridge
import Derived.Shelf.Sort.Plain
import Derived.Shelf.Slices.In.SortNone
import Derived.Shelf.Slices.CompactI
import Derived.Ground.Names2Prog
import Derived.Lib.SliceRun
import Derived.Test.YtnpfdgbbcapnkaaDoorRbaa
import Derived.Deep.RegionLaw
namespace Go.Proofs.YtnpfdgbbcapnkaaDoor
open Go.RowKit

set_option maxRecDepth 100000 in
theorem has_fin : ∀ x : Fin 64, ∀ p : Fin 6, (bits BinOp.and IntKind.i64 ((x.val : Int) / 2 ^ p.val) 1 == 1) = x.val.testBit p.val := by decide +kernel

theorem has_any (x p : Nat) (hx : x < 64) (hp : p < 6) (w : World) :
    Calls Tryd.prog 110 #[.int .i64 (x : Int), .int .i64 (p : Int)] w fun e w' => e = .returned (.bool (x.testBit p)) ∧ w = w' := by
  have HH := Lib.hid (has_fin ⟨x, hx⟩ ⟨p, hp⟩)
  simp only at HH
  go_enter Tryd.func110, Tryd.ntmps110
  go_wp2
  go_ret
  exact ⟨by rw [← HH.out]; rfl, rfl⟩

theorem seen_full (m d : Nat) : (((d : Nat) : Int) == 2 ^ m - 1) = decide (d = 2 ^ m - 1) := by
  have h : (1 : Nat) ≤ 2 ^ m := Nat.one_le_two_pow
  have h2 : ((2 : Int) ^ m) = ((2 ^ m : Nat) : Int) := by simp
  rw [h2]
  by_cases hd : d = 2 ^ m - 1
  · rw [decide_eq_true hd, beq_iff_eq]; omega
  · rw [decide_eq_false hd, beq_eq_false_iff_ne]; omega

/-- What is called after v members. -/
def cal (ps : List Int) (s v : Nat) : Nat := (List.range v).foldl (fun t u => t ||| (((s >>> u) &&& 1) * 2 ^ (ps[u]?.getD 0).toNat)) 0

theorem cal_succ (ps : List Int) (s v : Nat) : cal ps s (v + 1) = cal ps s v ||| (((s >>> v) &&& 1) * 2 ^ (ps[v]?.getD 0).toNat) := by simp [cal, List.range_succ]
set_option maxRecDepth 100000 in
theorem mem_range : ∀ m, m ≤ 6 → ∀ s, s < 2 ^ m → mem s = (List.range m).filter fun i => s.testBit i := by decide +kernel

set_option maxRecDepth 100000 in
theorem bit_if : ∀ s, s < 64 → ∀ u, u < 6 → ((s >>> u) &&& 1) = if s.testBit u then 1 else 0 := by decide +kernel

theorem cal_called (m : Nat) (hm : m ≤ 6) (ps : List Int) (s : Nat) (hs : s < 2 ^ m) : cal ps s m = called ps s := by
  have hs64 : s < 64 := Nat.lt_of_lt_of_le hs (Nat.pow_le_pow_right (by decide) hm : 2 ^ m ≤ 2 ^ 6)
  have key : ∀ v, v ≤ m → cal ps s v = nm ps ((List.range v).filter fun i => s.testBit i) := by
    intro v
    induction v with
    | zero => intro _; rfl
    | succ v ih =>
      intro hv
      rw [cal_succ, ih (by omega), List.range_succ, List.filter_append, bit_if s hs64 v (by omega)]
      cases hb : s.testBit v
      · simp [hb]
      · simp only [List.filter_cons, hb, if_true, List.filter_nil, nm_snoc, Nat.one_mul]
  rw [key m (Nat.le_refl _), called, mem_range m hm s hs]

end Go.Proofs.YtnpfdgbbcapnkaaDoor

/- It is proved what CoverSmall of the program and of the reference model returns; conditions: those of each statement. -/
namespace Go.Proofs.YtnpfdgbbcapnkaaDoor
open Go.RowKit

theorem at_in {xs : List Int} {k : Nat} (h : k < xs.length) : xs[k]?.getD 0 ∈ xs := by
  rw [List.getElem?_eq_getElem h]; exact List.getElem_mem _

end Go.Proofs.YtnpfdgbbcapnkaaDoor

/- It is proved what the FamilyDrop of the model returns; conditions: those of each statement. -/
namespace Go.Proofs.YtnpfdgbbcapnkaaDoor
open Go.RowKit

theorem app_run_n {w : World} {B n k : Nat} {v : Value} {xs : List Value} (h : w.ownsRow B 3 1 v n xs) (hB : B ≤ w.heap.size) (a : Option Addr) (c : Nat) (zs : List Int) (hk : zs.length = k) (hz : Ints w w.heap.size a zs) (hn : n ≤ 1048576) (hzn : k ≤ 1048576) :
    ∃ a' c' w', (Builtin.append_ #[23, 23] 23 #[v, .slice a k c]).run Tryd.prog w = .ok (.slice a' (n + k) c') w' ∧
      w'.ownsRow B 3 1 (.slice a' (n + k) c') (n + k) (xs ++ zs.map (Value.int .i64)) ∧ w.grownBy w' v.ownBlock := by
  subst hk
  exact app_run h hB a c zs hz hn hzn

/-- An append whose run is known, as a step of a region that draws. -/
theorem step_run {P : Program} {w : World} {ops : Array Oper} {o : Oper} {a : Act} {K : Act → World → Prop} {Q : Exit → Act → World → Prop} {E : Prop} (hgd : o.guard = none) (s x : Operand) (t tn : TypeId)
    (ho : o.op = .call { callee := .builtin .append, args := #[s, x], argTypes := #[t, tn] }) (vs vx : Value) (hs : a.eval s = vs) (hx : a.eval x = vx)
    (v' : Value) (w' : World) (hr : (Builtin.append_ #[t, tn] o.type #[vs, vx]).run P w = .ok v' w') (h : K (a.put o.dst v') w') :
    if Region.wanted o (yielded ops a.tmps) = true then Oper.wp P o a w K Q else E := by
  rw [if_pos (by simp [Region.wanted, hgd])]
  exact Lib.wp_append_run w s x t tn ho vs vx hs hx v' w' hr h

theorem step_run2 {P : Program} {w : World} {ops : Array Oper} {o : Oper} {a : Act} {K : Act → World → Prop} {Q : Exit → Act → World → Prop} {E : Prop} (hgd : o.guard = none) (s x : Operand) (t tn : TypeId)
    (ho : o.op = .call { callee := .builtin .append, args := #[s, x], argTypes := #[t, tn] }) (vs vx : Value) (hs : a.eval s = vs) (hx : a.eval x = vx)
    (h : ∃ v' w', (Builtin.append_ #[t, tn] o.type #[vs, vx]).run P w = .ok v' w' ∧ K (a.put o.dst v') w') :
    if Region.wanted o (yielded ops a.tmps) = true then Oper.wp P o a w K Q else E := by
  obtain ⟨v', w', hr, hk⟩ := h
  exact step_run hgd s x t tn ho vs vx hs hx v' w' hr hk

end Go.Proofs.YtnpfdgbbcapnkaaDoor

/- It is proved what the FamilyPut of the model returns; conditions: those of each statement. -/
namespace Go.Proofs.YtnpfdgbbcapnkaaDoor
open Go.RowKit

theorem app_run0 {w : World} {B : Nat} {v : Value} (h : OwnI w B v []) (hB : B ≤ w.heap.size) (a : Option Addr) (c : Nat) (zs : List Int) (hz : Ints w w.heap.size a zs) (_hn : 0 ≤ 1048576) (hzn : zs.length ≤ 1048576) :
    ∃ a' c' w', (Builtin.append_ #[23, 23] 23 #[v, .slice a zs.length c]).run Tryd.prog w = .ok (.slice a' zs.length c') w' ∧
      w'.ownsRow B 3 1 (.slice a' zs.length c') zs.length (zs.map (Value.int .i64)) ∧ w.grownBy w' v.ownBlock := by
  have := app_run (n := 0) (xs := []) h hB a c zs hz (by omega) hzn
  simpa using this

end Go.Proofs.YtnpfdgbbcapnkaaDoor

/- It is proved what l1Put returns; conditions: the bounds in each statement. -/
namespace Go.Proofs.YtnpfdgbbcapnkaaDoor
open Go.RowKit

/-- What l1Put comes to. -/
def PutPost (w : World) (b off n c : Nat) (zs : List Int) (x : Int) (e : Ending) (w' : World) : Prop :=
  ∃ k, k ≤ n ∧ (∀ j, k ≤ j → j < n → x < zs[j]?.getD 0) ∧
    ((∃ k', k = k' + 1 ∧ zs[k']?.getD 0 = x ∧ e = .returned (.slice (some ⟨b, off, none⟩) n c) ∧ w' = w) ∨
     ((∀ k', k = k' + 1 → zs[k']?.getD 0 < x) ∧ ∃ a' c', e = .returned (.slice a' (n + 1) c') ∧ OwnN w' w.heap.size a' (n + 1) c' (zs.take k ++ [x] ++ zs.drop k) ∧ Below w.heap.size w w'))

theorem app_run0n {w : World} {B k : Nat} {v : Value} (h : OwnI w B v []) (hB : B ≤ w.heap.size) (a : Option Addr) (c : Nat) (zs : List Int) (hk : zs.length = k) (hz : Ints w w.heap.size a zs) (hzn : k ≤ 1048576) :
    ∃ a' c' w', (Builtin.append_ #[23, 23] 23 #[v, .slice a k c]).run Tryd.prog w = .ok (.slice a' k c') w' ∧
      w'.ownsRow B 3 1 (.slice a' k c') k (zs.map (Value.int .i64)) ∧ w.grownBy w' v.ownBlock := by
  subst hk
  exact app_run0 h hB a c zs hz (by omega) hzn

theorem app_run_t {w : World} {B n k t : Nat} {v : Value} {xs : List Value} (h : w.ownsRow B 3 1 v n xs) (hB : B ≤ w.heap.size) (a : Option Addr) (c : Nat) (zs : List Int) (hk : zs.length = k) (hz : Ints w w.heap.size a zs) (ht : n + k = t) (hn : n ≤ 1048576) (hzn : k ≤ 1048576) :
    ∃ a' c' w', (Builtin.append_ #[23, 23] 23 #[v, .slice a k c]).run Tryd.prog w = .ok (.slice a' t c') w' ∧
      w'.ownsRow B 3 1 (.slice a' t c') t (xs ++ zs.map (Value.int .i64)) ∧ w.grownBy w' v.ownBlock := by
  subst ht
  exact app_run_n h hB a c zs hk hz hn hzn

end Go.Proofs.YtnpfdgbbcapnkaaDoor

/- It is proved that a family of chapter 5, drawn from bytes and written again, is the call's own; conditions: those of each statement. -/
namespace Go.Proofs.YtnpfdgbbcapnkaaDoor
open Go.RowKit

theorem own_wr {w : World} {B : Nat} {a : Option Addr} {n c k : Nat} {zs : List Int} (h : OwnI w B (.slice a n c) zs) (hk : k < zs.length) :
    ∃ g, a = some ⟨g, 0, none⟩ ∧ B ≤ g ∧ g < w.heap.size ∧ w.cell? ⟨g, k, none⟩ = some (.int .i64 (zs[k]?.getD 0)) ∧ w.frozen? ⟨g, k, none⟩ = false ∧
      ∀ x, OwnI (w.setCell ⟨g, k, none⟩ (.int .i64 x)) B (.slice a n c) (zs.set k x) := by
  have h' := h
  rcases h.2 with ⟨h2, hn⟩ | ⟨g, cap, cur, e, hb, hg, hnc, hcm, hcs, hct⟩
  · omega
  · injection e with e1 e2 e3
    subst e1
    simp only [Nat.mul_one] at hct hcs
    have hcell : cur[k]? = some (.int .i64 (zs[k]?.getD 0)) := by
      have : (cur.toList.take zs.length)[k]? = (zs.map (Value.int .i64))[k]? := by rw [hct]
      rw [List.getElem?_take_of_lt hk, Array.getElem?_toList] at this
      rw [this, List.getElem?_map]
      simp [hk]
    refine ⟨g, rfl, hb, (Array.getElem?_eq_some_iff.1 hg).1, ?_, ?_, fun x => ?_⟩
    · exact (blk_cell hg k).trans hcell
    · exact blk_frozen hg _
    · refine ⟨by simp, .inr ⟨g, cap, cur.setIfInBounds k (.int .i64 x), by rw [List.length_set, e2, e3], hb, heap_setCell_same w g k cur 3 _ hg, by rw [List.length_set]; exact hnc, hcm, by simp [hcs], ?_⟩⟩
      rw [List.length_set, Nat.mul_one, Array.toList_setIfInBounds, List.take_set, hct, List.map_set]

end Go.Proofs.YtnpfdgbbcapnkaaDoor
