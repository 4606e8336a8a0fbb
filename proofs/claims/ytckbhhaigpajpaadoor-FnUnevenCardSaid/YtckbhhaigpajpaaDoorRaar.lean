/- It is proved that a region that draws its order inside a round may be walked once where all its operations but the last ones leave the world alone; conditions: those of each statement. -/
import Derived.StillTail
import Derived.StillTactics
import Derived.OrdersIn
import Derived.TacticsIn
import Derived.RangeFuncCalls
import Derived.StillTailTactics
import Derived.RowKit
import Derived.Laws.CopyRow
import Derived.Lib.SlBuf
import Derived.RangeFuncNested
import Derived.RangeFuncBound
import Derived.RangeFuncLeaves
import Derived.RangeFuncBox
import Derived.RangeFuncWrites
import Derived.Test.YtckbhhaigpajpaaDoorRows
import Derived.WalkKit
import Derived.WalkSpells
import Derived.ProofKit
import Derived.OpenShut
import Derived.ShutString
import Derived.ChangeOld
import Derived.Below
import Derived.Deep.RegionHeld3
import Derived.Deep.QuietTactic
import Derived.BigQuiet
import Derived.Lib.Hide
import Derived.Lib.SmallJoins
import Derived.Outline
import Derived.Laws.MakeOwn
import Derived.Laws.OwnMore
import Derived.IntWalk
import Derived.Lib.AppendZeros
import Derived.Maps.AppendAt
import Derived.Deep.AppendLies
import Derived.OwnWalk
import Derived.Lib.SlicesCompact
import Derived.Lib.OwnBridge
import Derived.Shelf.Sort.Plain
import Derived.Shelf.Slices.In.SortNone
import Derived.Shelf.Slices.CompactI
import Derived.Ground.Names2Prog
import Derived.Lib.SliceRun
import Derived.Shelf.Abstract
import Derived.Shelf.RegionOpen
import Derived.OwnWalkIn
import Derived.TacticsInMore
import Derived.LoopNIn
import Derived.LoopIn
import Derived.Shelf.Spec.TrailingZeros
import Derived.Test.YtckbhhaigpajpaaDoorRaaq
import Derived.Test.YtckbhhaigpajpaaDoorRaab
import Derived.Test.YtckbhhaigpajpaaDoorJl
import Derived.Test.YtckbhhaigpajpaaDoorRaad
import Derived.Test.YtckbhhaigpajpaaDoorRaae
import Derived.Test.YtckbhhaigpajpaaDoorRaaf
namespace Go
section
variable {F : Fence} {n : Nat} {P : Program} {ops : Array Oper} {md : Region.Mode} {Q' : Exit → Act → World → Prop}

/-- A fence that shuts nothing out. -/
structure Fence.Open (F : Fence) : Prop where
  fns : ∀ f, F.fn f
  deep : F.depth.isSome = false
  calls : ∀ (P : Program) (f : FuncId) (args : Array Value) (w : World) (R : Ending → World → Prop) (m : Nat), Calls P f args w R → CallsIn F m P f args w R

theorem Fence.Open.wide : Fence.Open Fence.wide := ⟨fun _ => trivial, rfl, fun _ _ _ _ _ _ h => callsIn_wide.2 h⟩
theorem Fence.Open.inRound {F : Fence} (h : F.Open) (l : Nat) : (F.inRound l).Open := ⟨h.fns, h.deep, fun P f args w R m hc => CallsIn.inRound l (h.calls P f args w R m hc)⟩
theorem wpIn_of_still_o (hF : F.Open) {o : Oper} {a : Act} {w : World} {K : Act → Prop} {K' : Act → World → Prop} (hd : ∀ c, o.op ≠ .defer c) (h : ∀ a, K a → K' a w) (hh : o.still P a w K) : o.wpIn F n P a w K' Q' := by
  unfold Oper.still at hh
  unfold Oper.wpIn
  refine ⟨fun f _ => hF.fns f, ?_⟩
  rw [Oper.semAt_eq _ _ _ hd]
  generalize (execOp a.eval o).run P w = r at *
  cases r with
  | ok nx w' =>
    cases nx <;> simp only [Oper.stillUpon] at hh <;> simp only [Oper.uponIn]
    case enter f args =>
      obtain ⟨rfl, v, hc, hn⟩ := hh
      refine ⟨fun h1 => absurd h1 (by rw [hF.deep]; decide), (hF.calls _ _ _ _ _ _ hc).mono fun e w'' ⟨he, hw⟩ => ?_⟩
      subst he; subst hw; exact h _ hn
    all_goals (obtain ⟨rfl, h2⟩ := hh; exact h _ h2)
  | halt x w' => simp only [Oper.stillUpon] at hh

theorem wpOpIn_of_stOp_o (hF : F.Open) {i : Nat} {a : Act} {w : World} {K : Act → Prop} {K' : Act → World → Prop} (hd : ∀ o, ops[i]? = some o → ∀ c, o.op ≠ .defer c) (h : ∀ a, K a → K' a w) (hh : stOp P ops w i K a) : wpOpIn F n P ops Q' i K' a w := by
  unfold stOp at hh
  unfold wpOpIn
  split
  · rename_i ho; simp only [ho] at hh; exact h _ hh
  · rename_i o ho
    simp only [ho] at hh
    split
    · rename_i hw; simp only [hw, if_true] at hh; exact wpIn_of_still_o hF (hd o ho) h hh
    · rename_i hw; simp only [hw] at hh; exact ⟨fun f _ => hF.fns f, h _ hh⟩

theorem wpAnyIn_of_head_o (hF : F.Open) {m g : Nat} {w : World} {L : Array Bool → Act → Prop} (hd : ∀ (i : Nat) (o : Oper), ops[i]? = some o → ∀ c, o.op ≠ .defer c) (hL : ∀ listed a, L listed a → wpAnyIn F n P md ops Q' g listed a w) :
    ∀ (f : Nat) (listed : Array Bool) (a : Act), wpAnyL P md ops w m L f listed a → wpAnyIn F n P md ops Q' (f + g) listed a w
  | 0, listed, a, h => by rw [Nat.zero_add]; exact hL _ _ h
  | f + 1, listed, a, h => by
    rw [show f + 1 + g = (f + g) + 1 by omega]
    exact ⟨fun h0 => absurd h0 h.1, fun i hi => wpOpIn_of_stOp_o hF (hd i) (fun a' h' => wpAnyIn_of_head_o hF hd hL f _ a' h') (h.2 i hi).2⟩

theorem wpAnyIn_of_seq_o : ∀ (l : List Oper) (k : Nat) (listed : Array Bool) (a : Act) (w : World), (∀ j, l[j]? = ops[k + j]?) →
    Region.seqB md ops l.length k listed = true → wpListIn F n P ops Q' l a w → wpAnyIn F n P md ops Q' l.length listed a w
  | [], _, _, _, _, _, hB, h => ⟨by simpa [Region.seqB] using hB, h⟩
  | o :: l, k, listed, a, w, hl, hB, h => by
    have h0 : ops[k]? = some o := by simpa using (hl 0).symm
    simp only [List.length_cons, Region.seqB, Bool.and_eq_true, decide_eq_true_eq] at hB
    refine ⟨fun h1 => (by rw [hB.1] at h1; cases h1), fun i hi => ?_⟩
    rw [hB.1] at hi
    have hik : i = k := by simpa using hi
    subst hik
    have hw : wpOpIn F n P ops Q' i (wpListIn F n P ops Q' l) a w := by unfold wpOpIn; simp only [h0]; exact h
    exact wpOpIn_mono (fun a' w' h' => wpAnyIn_of_seq_o l (i + 1) _ a' w' (fun j => by have := hl (j + 1); simpa [Nat.add_assoc, Nat.add_comm 1 j] using this) hB.2 h') hw

def noDefer (l : List Oper) : Bool := l.all fun o => match o.op with | .defer _ => false | _ => true
theorem noDefer_spec {l : List Oper} (h : noDefer l = true) (i : Nat) (o : Oper) (hi : l.toArray[i]? = some o) : ∀ c, o.op ≠ .defer c := by
  have h1 := List.all_eq_true.1 h o (List.mem_of_getElem? (by simpa using hi))
  intro c e
  rw [e] at h1
  cases h1

theorem wpIn_region_still_tail_o (hF : F.Open) {id : Nat} {Q : Exit → Act → World → Prop} {a : Act} {w : World} {l : List Oper} (m : Nat) (hm : P.follows .mixedOrders = true) (hdf : noDefer l = true) (hB : Region.lexTailB .any l.toArray m = true)
    (h : wpStill P l.toArray { w with drawn := w.drawn + 1 } (fun a' => wpListIn F n P l.toArray Q (l.drop m) a' { w with drawn := w.drawn + 1 }) (l.take m) a) : (Code.region id l.toArray true).wpIn F n P Q a w := by
  simp only [Region.lexTailB, Bool.and_eq_true, decide_eq_true_eq] at hB
  obtain ⟨⟨⟨⟨hsel, hn⟩, hs⟩, hc⟩, hlex⟩ := hB
  have htl : (l.take m).length = m := by have : m < l.length := by simpa using hn
                                         simp; omega
  have hdl : (l.drop m).length = l.toArray.size - m := by simp
  have inv0 : HeadInv .any l.toArray m (Array.replicate l.toArray.size false) :=
    ⟨by simp, fun j oj _ hl => (by rw [getD_replicate_false] at hl; cases hl), fun t _ ht => getD_in (by simpa using ht) (getD_replicate_false _ _)⟩
  have H := wpAnyL_lex (md := .any) (g := l.toArray.size - m) hsel hs hc hn (l.take m) 0 _ a (fun j hj => by
    have hj' : j < m := by rw [htl] at hj; exact hj
    simp [hj']) (by simpa using htl) inv0 (by rw [htl]; exact hlex) h
  refine wpIn_region_any hm ?_
  have := wpAnyIn_of_head_o (n := n) (Q' := Q) (g := l.toArray.size - m) hF (noDefer_spec hdf) (fun listed a' hL => by
    have := wpAnyIn_of_seq_o (F := F) (n := n) (md := .any) (Q' := Q) (l.drop m) m listed a' { w with drawn := w.drawn + 1 } (fun j => by simp [List.getElem?_drop]) (by rw [hdl]; exact hL.1) hL.2
    rwa [hdl] at this) _ _ _ H
  rw [htl, show m + (l.toArray.size - m) = l.toArray.size by omega] at this
  exact this

end
end Go

/- It is proved how many members of a club have one of two colours; conditions: those of each statement. -/
namespace Go.Proofs.YtckbhhaigpajpaaDoor
open Go.RowKit Go.Shelf

attribute [local go_sem] Oper.semAt_some

/-- How many of some members have a colour. -/
def cntV (cs : List Bool) (b : Bool) (vs : List Nat) : Nat := vs.countP fun v => (cs[v]?.getD false) == b

theorem cntV_snoc (cs : List Bool) (b : Bool) (vs : List Nat) (v : Nat) : cntV cs b (vs ++ [v]) = cntV cs b vs + if ((cs[v]?.getD false) == b) = true then 1 else 0 := by
  unfold cntV
  rw [List.countP_append, List.countP_cons, List.countP_nil]
  simp

theorem cntV_le (cs : List Bool) (b : Bool) (vs : List Nat) : cntV cs b vs ≤ vs.length := List.countP_le_length
theorem Bools.at_ {W : World} {B : Nat} {a : Option Addr} {vs : List Bool} (h : Bools W B a vs) {k : Nat} (hk : k < vs.length) : ∃ b o, a = some ⟨b, o, none⟩ ∧ b < B ∧ W.cell? ⟨b, o + k, none⟩ = some (.bool (vs[k]?.getD false)) := by
  rcases h with rfl | ⟨b, o, e, hb, hc⟩
  · simp at hk
  · exact ⟨b, o, e, hb, hc k hk⟩

theorem Bools.below {W W' : World} {B : Nat} {a : Option Addr} {vs : List Bool} (h : Bools W B a vs) (hb : Below B W W') : Bools W' B a vs := by
  rcases h with rfl | ⟨b, o, e, hb', hc⟩
  · exact .inl rfl
  · exact .inr ⟨b, o, e, hb', fun j hj => (hb.cell (p := ⟨b, o + j, none⟩) hb').trans (hc j hj)⟩

theorem Bools.mono {W : World} {B B' : Nat} {a : Option Addr} {vs : List Bool} (h : Bools W B a vs) (hB : B ≤ B') : Bools W B' a vs := by
  rcases h with rfl | ⟨b, o, e, hb', hc⟩
  · exact .inl rfl
  · exact .inr ⟨b, o, e, Nat.lt_of_lt_of_le hb' hB, hc⟩

set_option maxRecDepth 100000 in
set_option maxHeartbeats 4000000 in
theorem countB_any (a : Option Addr) (n cc : Nat) (cs : List Bool) (z : Nat) (b : Bool) (hcs : cs.length = n) (hn : n ≤ 6) (hz : z < 2 ^ n) (w : World) (hc : Bools w w.heap.size a cs) (hT : Tab w) :
    Calls Tryd.prog 83 #[.slice a n cc, .int .i64 (z : Int), .bool b] w fun e w' => e = .returned (.int .i64 ((cntV cs b (mem z) : Nat) : Int)) ∧ Below w.heap.size w w' := by
  have hz64 : z < 64 := p64 hn hz
  have h16 : 1 ≤ 6 := by omega
  have hT1 := hT.lt
  have hmx : Tryd.prog.follows .mixedOrders = true := by kernel_rfl
  obtain ⟨W2, hW2, q0, q1, q2, hs2, hb2⟩ : ∃ W2, ((w.alloc (.cells #[.slice a n cc] 55)).alloc (.cells #[.bool b] 4)).alloc (.cells #[.int .i64 0] 3) = W2 ∧ HasBlk W2 w.heap.size #[.slice a n cc] 55 ∧ HasBlk W2 (w.heap.size + 1) #[.bool b] 4 ∧ HasBlk W2 (w.heap.size + 1 + 1) #[.int .i64 0] 3 ∧ W2.heap.size = w.heap.size + 1 + 1 + 1 ∧ Below w.heap.size w W2 :=
    ⟨_, rfl, alloc3_0 w _ _ _, alloc3_1 w _ _ _, alloc3_2 w _ _ _, by simp, below3 w _ _ _⟩
  obtain ⟨W3, hW3, q3, hs3, hb3⟩ : ∃ W3, W2.alloc (.cells #[.int .i64 (z : Int)] 41) = W3 ∧ HasBlk W3 (w.heap.size + 1 + 1 + 1) #[.int .i64 (z : Int)] 41 ∧ W3.heap.size = W2.heap.size + 1 ∧ Below W2.heap.size W2 W3 :=
    ⟨_, rfl, by have := alloc_new W2 (.cells #[.int .i64 (z : Int)] 41); rwa [hs2] at this, by simp, below1 W2 _⟩
  have hb03 := hb2.trans (hb3.mono (show w.heap.size ≤ W2.heap.size by omega))
  have hst := membersS_stops (6 - 1) (by omega) (w.heap.size + 1 + 1 + 1) w.heap.size z hz64 W3 (by omega) (by omega) (by omega) ((blk_cell q3 0).trans (cell1_0 _)) (hT.below hb03 hT1)
  have HST := Lib.hid hst
  have HQ0 : Hid (HasBlk W3 w.heap.size #[.slice a n cc] 55) := Lib.hid ((hb3.block _ (by omega)).trans q0)
  have HQ1 : Hid (HasBlk W3 (w.heap.size + 1) #[.bool b] 4) := Lib.hid ((hb3.block _ (by omega)).trans q1)
  have HQ2 : Hid (HasBlk W3 (w.heap.size + 1 + 1) #[.int .i64 ((cntV cs b (valsS ([] : List (MemS z))) : Nat) : Int)] 3) := Lib.hid ((hb3.block _ (by omega)).trans q2)
  have HB3 := Lib.hid hb03
  have HC := Lib.hid hc
  have HW2 := Lib.hid hW2
  have HW3 := Lib.hid hW3
  have HS2 := Lib.hid hs2
  have HS3 := Lib.hid hs3
  have HCS := Lib.hid hcs
  have HZ := Lib.hid hz
  clear hc q0 q1 q2 q3 hb2 hb3 hb03 hst hW2 hW3 hs2 hs3 hT hcs hz
  refine (callsIn_wide (n := 6)).1 ?_
  refine callsIn_of_wp_marks Tryd.func83 rfl trivial ?_ rfl
  simp only [Tryd.ntmps83, List.size_toArray, List.length_cons, List.length_nil, Nat.reduceAdd, Nat.reduceSub, Array.replicate_succ, Array.replicate_zero, List.push_toArray, List.append_toArray, List.nil_append, List.cons_append]
  gi_wp2_with (refine ⟨trivial, ?_⟩; gi_at_call 72; refine (callsIn_wide.2 (members_any _ _)).mono ?_; rintro e w' ⟨rfl, rfl⟩)
  rw [HW2.out, HW3.out]
  refine wpIn_rangeFunc_ownG rfl h16 (gf := 96) (lb := #[.pointer (some ⟨w.heap.size + 1 + 1 + 1, 0, none⟩)]) rfl trivial (enters_of Tryd.func96 (by kernel_rfl) rfl)
    HST.out belowK_t (belowK_b (by have := HS3.out; have := HS2.out; omega)) (Below.refl _ _) (fun _ => rfl)
    (fun pre W => ((HasBlk W w.heap.size #[.slice a n cc] 55 ∧ HasBlk W (w.heap.size + 1) #[.bool b] 4) ∧ HasBlk W (w.heap.size + 1 + 1) #[.int .i64 ((cntV cs b (valsS pre) : Nat) : Int)] 3) ∧ Below w.heap.size w W)
    (fun _ _ _ => False)
    ?own
    (fun _ _ _ _ _ hs _ _ => hs)
    ⟨⟨⟨HQ0.out, HQ1.out⟩, HQ2.out⟩, HB3.out⟩
    (fun x => { tmps := #[.slice a n cc, .int .i64 (z : Int), .bool b, .pointer (some ⟨w.heap.size, 0, none⟩), undef, .pointer (some ⟨w.heap.size + 1, 0, none⟩), .int .i64 0, .pointer (some ⟨w.heap.size + 1 + 1, 0, none⟩), .int .i64 (x.1 : Int), .int .i64 (z : Int), .func (.func 96) #[] #[.pointer (some ⟨w.heap.size + 1 + 1 + 1, 0, none⟩)], .int .i64 (x.1 : Int), undef, undef, undef, undef, undef, undef, undef, undef, undef], defers := [] }) ?assign ?body ?done ?stop
  case own =>
    rintro s A B row ⟨⟨⟨h1, h2⟩, h3⟩, h5⟩ hg hr
    have hr' : ∀ (b : Nat) (cs : Array Value) (t : TypeId), HasBlk A b cs t → row ≠ some b := fun b cs t hb e => by
      obtain ⟨-, o, ho, hc⟩ := hr b e
      rw [show A.heap[b]? = _ from hb] at ho; cases ho; cases hc
    exact ⟨⟨⟨h1.kept hg (hr' _ _ _ h1), h2.kept hg (hr' _ _ _ h2)⟩, h3.kept hg (hr' _ _ _ h3)⟩, h5.grown hg (by have := h5.size; omega) (fun r e => by have := (hr r e).1; have := HS3.out; have := HS2.out; omega)⟩
  case assign =>
    intro l x W K hK
    gi_wp2
    exact hK
  case body =>
    rintro l pre ⟨x, hxm⟩ W ⟨⟨⟨h1, h2⟩, h3⟩, hB⟩ hlt
    obtain ⟨xx, hxx⟩ : ∃ xx : MemS z, xx = ⟨x, hxm⟩ := ⟨_, rfl⟩
    have hxn : x < n := mem_lt n hn z HZ.out x hxm
    obtain ⟨b1, o1, rfl, hb1, hc1⟩ := HC.out.at_ (k := x) (by rw [HCS.out]; exact hxn)
    have HSN := Lib.hid (cntV_snoc cs b (valsS pre) x)
    have hKl : cntV cs b (valsS pre) ≤ 6 := Nat.le_trans (cntV_le _ _ _) (by unfold valsS; rw [List.length_map]; omega)
    obtain ⟨y, hy⟩ : ∃ y, y = cs[x]?.getD false := ⟨_, rfl⟩
    rw [← hy] at hc1 HSN
    obtain ⟨K, hK⟩ : ∃ K, K = cntV cs b (valsS pre) := ⟨_, rfl⟩
    rw [← hK] at hKl HSN h3
    have HSV : Hid (cntV cs b (valsS (pre ++ [xx])) = K + if (y == b) = true then 1 else 0) := Lib.hid (by rw [valsS_snoc, hxx]; exact HSN.out)
    have x0 := (blk_cell h1 0).trans (cell1_0 _)
    have x1 := (blk_cell h2 0).trans (cell1_0 _)
    have m0 := (blk_cell h3 0).trans (cell1_0 _)
    have m1 := blk_frozen h3 0
    have c1 := (hB.cell (p := ⟨b1, o1 + x, none⟩) hb1).trans hc1
    have H1 := Lib.hid h1
    have H2 := Lib.hid h2
    have H3 := Lib.hid h3
    have HB := Lib.hid hB
    have hxI : (x : Int) < (n : Int) := by omega
    have hx0 : (0 : Int) ≤ (x : Int) := by omega
    have hKI : (K : Int) ≤ 6 := by omega
    dsimp only
    rw [← hxx]
    clear h1 h2 h3 hB hxm hxx hc1 hy hK HSN
    cases hv : (y == b)
    · have HE : Hid (cntV cs b (valsS (pre ++ [xx])) = K) := Lib.hid (by rw [HSV.out, hv]; rfl)
      gi_wp2
      refine wpIn_region_still_tail_o (Fence.Open.wide.inRound l) 5 hmx (by kernel_rfl) (by kernel_rfl) ?_
      simp only [List.take_succ_cons, List.take_zero, List.drop_succ_cons, List.drop_zero]
      repeat still_step
      refine wpStill_nil ?_
      change wpListIn _ _ _ _ _ _ _ W.drew
      gi_wp2
      refine ⟨(KeepsOthers.drew W).from _, (Below.refl _ W).drew, ⟨⟨show HasBlk W.drew _ _ _ from H1.out, show HasBlk W.drew _ _ _ from H2.out⟩, ?_⟩, HB.out.drew⟩
      rw [HE.out]
      exact (show HasBlk W.drew _ _ _ from H3.out)
    · have HE : Hid (cntV cs b (valsS (pre ++ [xx])) = K + 1) := Lib.hid (by rw [HSV.out, hv]; rfl)
      gi_wp2
      refine wpIn_region_still_tail_o (Fence.Open.wide.inRound l) 5 hmx (by kernel_rfl) (by kernel_rfl) ?_
      simp only [List.take_succ_cons, List.take_zero, List.drop_succ_cons, List.drop_zero]
      repeat still_step
      refine wpStill_nil ?_
      change wpListIn _ _ _ _ _ _ _ W.drew
      have m0' : W.drew.cell? ⟨w.heap.size + 1 + 1, 0, none⟩ = some (.int .i64 (K : Int)) := m0
      have m1' : W.drew.frozen? ⟨w.heap.size + 1 + 1, 0, none⟩ = false := m1
      gi_wp2
      refine ⟨((KeepsOthers.drew W).trans (KeepsOthers.setCell _ _ _)).from _, (Below.refl _ W).drew.setCell (p := ⟨w.heap.size + 1 + 1, 0, none⟩) (by show w.heap.size ≤ w.heap.size + 1 + 1; omega) _, ⟨⟨HasBlk.far (show HasBlk W.drew _ _ _ from H1.out) (show w.heap.size ≠ w.heap.size + 1 + 1 by omega) _, HasBlk.far (show HasBlk W.drew _ _ _ from H2.out) (show w.heap.size + 1 ≠ w.heap.size + 1 + 1 by omega) _⟩, ?_⟩, HB.out.drew.setCell (p := ⟨w.heap.size + 1 + 1, 0, none⟩) (by show w.heap.size ≤ w.heap.size + 1 + 1; omega) _⟩
      rw [HE.out]
      exact Boxed.set _ (show Boxed W.drew _ _ _ from H3.out)
  case done =>
    rintro E ys W hE hys ⟨⟨⟨h1, h2⟩, h3⟩, hB⟩ hK
    rw [hys] at h3
    have r0 := (blk_cell h3 0).trans (cell1_0 _)
    have HB := Lib.hid hB
    have HK2 := Lib.hid hK
    have HEs : Hid (w.heap.size ≤ E) := Lib.hid (by have := HS3.out; have := HS2.out; omega)
    clear h1 h2 h3 hB hK hys
    gi_wp2
    refine ⟨by simp, .inl ⟨_, _, rfl, run_takeDeferred HK2.out, ?_⟩⟩
    exact ⟨.int .i64 ((cntV cs b (mem z) : Nat) : Int), by simp [results, Tryd.results83, go_sem], rfl, HB.out.trans (belowK_b (w := w) (Nat.le_refl _) W E _ _ HEs.out HK2.out rfl rfl)⟩
  case stop =>
    rintro E c' pre W hE hp h hK
    exact h.elim

end Go.Proofs.YtckbhhaigpajpaaDoor
