/- It is proved that a region that draws its order inside a round may be walked once where all its operations but the last ones leave the world alone; conditions: those of each statement. -/
import Derived.StillTail
import Derived.StillTactics
import Derived.OrdersIn
import Derived.TacticsIn
import Derived.RangeFuncCalls
import Derived.Test.YtemolmkkiagiiaaDoorRows
import Derived.WalkKit
import Derived.WalkSpells
import Derived.ProofKit
import Derived.OpenShut
import Derived.ShutString
import Derived.ChangeOld
import Derived.Below
import Derived.Deep.RegionHeld3
import Derived.Deep.QuietTactic
import Derived.BigQuiet
import Derived.Lib.Hide
import Derived.Lib.SmallJoins
import Derived.Outline
import Derived.Laws.MakeOwn
import Derived.Laws.OwnMore
import Derived.IntWalk
import Derived.RangeFuncNested
import Derived.RangeFuncBound
import Derived.RangeFuncLeaves
import Derived.RangeFuncBox
import Derived.Shelf.Abstract
import Derived.Shelf.RegionOpen
import Derived.OwnWalkIn
import Derived.TacticsInMore
import Derived.LoopNIn
import Derived.LoopIn
import Derived.Maps.AppendAt
import Derived.Deep.AppendLies
import Derived.OwnWalk
import Derived.Shelf.Spec.TrailingZeros
import Derived.Test.YtemolmkkiagiiaaDoorPaaa
import Derived.Test.YtemolmkkiagiiaaDoorPaac
import Derived.Test.YtemolmkkiagiiaaDoorPaad
import Derived.Test.YtemolmkkiagiiaaDoorPaab
import Derived.Test.YtemolmkkiagiiaaDoorPaae
import Derived.Test.YtemolmkkiagiiaaDoorUa
import Derived.StillTailTactics
import Derived.Lib.AppendZeros
import Derived.Test.YtemolmkkiagiiaaDoorGa
import Derived.Test.YtemolmkkiagiiaaDoorGb
import Derived.Test.YtemolmkkiagiiaaDoorPaai
namespace Go
section
variable {F : Fence} {n : Nat} {P : Program} {ops : Array Oper} {md : Region.Mode} {Q' : Exit → Act → World → Prop}

/-- A fence that shuts nothing out. -/
structure Fence.Open (F : Fence) : Prop where
  fns : ∀ f, F.fn f
  deep : F.depth.isSome = false
  calls : ∀ (P : Program) (f : FuncId) (args : Array Value) (w : World) (R : Ending → World → Prop) (m : Nat), Calls P f args w R → CallsIn F m P f args w R

theorem Fence.Open.wide : Fence.Open Fence.wide := ⟨fun _ => trivial, rfl, fun _ _ _ _ _ _ h => callsIn_wide.2 h⟩
theorem Fence.Open.inRound {F : Fence} (h : F.Open) (l : Nat) : (F.inRound l).Open := ⟨h.fns, h.deep, fun P f args w R m hc => CallsIn.inRound l (h.calls P f args w R m hc)⟩
theorem wpIn_of_still_o (hF : F.Open) {o : Oper} {a : Act} {w : World} {K : Act → Prop} {K' : Act → World → Prop} (hd : ∀ c, o.op ≠ .defer c) (h : ∀ a, K a → K' a w) (hh : o.still P a w K) : o.wpIn F n P a w K' Q' := by
  unfold Oper.still at hh
  unfold Oper.wpIn
  refine ⟨fun f _ => hF.fns f, ?_⟩
  rw [Oper.semAt_eq _ _ _ hd]
  generalize (execOp a.eval o).run P w = r at *
  cases r with
  | ok nx w' =>
    cases nx <;> simp only [Oper.stillUpon] at hh <;> simp only [Oper.uponIn]
    case enter f args =>
      obtain ⟨rfl, v, hc, hn⟩ := hh
      refine ⟨fun h1 => absurd h1 (by rw [hF.deep]; decide), (hF.calls _ _ _ _ _ _ hc).mono fun e w'' ⟨he, hw⟩ => ?_⟩
      subst he; subst hw; exact h _ hn
    all_goals (obtain ⟨rfl, h2⟩ := hh; exact h _ h2)
  | halt x w' => simp only [Oper.stillUpon] at hh

theorem wpOpIn_of_stOp_o (hF : F.Open) {i : Nat} {a : Act} {w : World} {K : Act → Prop} {K' : Act → World → Prop} (hd : ∀ o, ops[i]? = some o → ∀ c, o.op ≠ .defer c) (h : ∀ a, K a → K' a w) (hh : stOp P ops w i K a) : wpOpIn F n P ops Q' i K' a w := by
  unfold stOp at hh
  unfold wpOpIn
  split
  · rename_i ho; simp only [ho] at hh; exact h _ hh
  · rename_i o ho
    simp only [ho] at hh
    split
    · rename_i hw; simp only [hw, if_true] at hh; exact wpIn_of_still_o hF (hd o ho) h hh
    · rename_i hw; simp only [hw] at hh; exact ⟨fun f _ => hF.fns f, h _ hh⟩

theorem wpAnyIn_of_head_o (hF : F.Open) {m g : Nat} {w : World} {L : Array Bool → Act → Prop} (hd : ∀ (i : Nat) (o : Oper), ops[i]? = some o → ∀ c, o.op ≠ .defer c) (hL : ∀ listed a, L listed a → wpAnyIn F n P md ops Q' g listed a w) :
    ∀ (f : Nat) (listed : Array Bool) (a : Act), wpAnyL P md ops w m L f listed a → wpAnyIn F n P md ops Q' (f + g) listed a w
  | 0, listed, a, h => by rw [Nat.zero_add]; exact hL _ _ h
  | f + 1, listed, a, h => by
    rw [show f + 1 + g = (f + g) + 1 by omega]
    exact ⟨fun h0 => absurd h0 h.1, fun i hi => wpOpIn_of_stOp_o hF (hd i) (fun a' h' => wpAnyIn_of_head_o hF hd hL f _ a' h') (h.2 i hi).2⟩

theorem wpAnyIn_of_seq_o : ∀ (l : List Oper) (k : Nat) (listed : Array Bool) (a : Act) (w : World), (∀ j, l[j]? = ops[k + j]?) →
    Region.seqB md ops l.length k listed = true → wpListIn F n P ops Q' l a w → wpAnyIn F n P md ops Q' l.length listed a w
  | [], _, _, _, _, _, hB, h => ⟨by simpa [Region.seqB] using hB, h⟩
  | o :: l, k, listed, a, w, hl, hB, h => by
    have h0 : ops[k]? = some o := by simpa using (hl 0).symm
    simp only [List.length_cons, Region.seqB, Bool.and_eq_true, decide_eq_true_eq] at hB
    refine ⟨fun h1 => (by rw [hB.1] at h1; cases h1), fun i hi => ?_⟩
    rw [hB.1] at hi
    have hik : i = k := by simpa using hi
    subst hik
    have hw : wpOpIn F n P ops Q' i (wpListIn F n P ops Q' l) a w := by unfold wpOpIn; simp only [h0]; exact h
    exact wpOpIn_mono (fun a' w' h' => wpAnyIn_of_seq_o l (i + 1) _ a' w' (fun j => by have := hl (j + 1); simpa [Nat.add_assoc, Nat.add_comm 1 j] using this) hB.2 h') hw

def noDefer (l : List Oper) : Bool := l.all fun o => match o.op with | .defer _ => false | _ => true
theorem noDefer_spec {l : List Oper} (h : noDefer l = true) (i : Nat) (o : Oper) (hi : l.toArray[i]? = some o) : ∀ c, o.op ≠ .defer c := by
  have h1 := List.all_eq_true.1 h o (List.mem_of_getElem? (by simpa using hi))
  intro c e
  rw [e] at h1
  cases h1

theorem wpIn_region_still_tail_o (hF : F.Open) {id : Nat} {Q : Exit → Act → World → Prop} {a : Act} {w : World} {l : List Oper} (m : Nat) (hm : P.follows .mixedOrders = true) (hdf : noDefer l = true) (hB : Region.lexTailB .any l.toArray m = true)
    (h : wpStill P l.toArray { w with drawn := w.drawn + 1 } (fun a' => wpListIn F n P l.toArray Q (l.drop m) a' { w with drawn := w.drawn + 1 }) (l.take m) a) : (Code.region id l.toArray true).wpIn F n P Q a w := by
  simp only [Region.lexTailB, Bool.and_eq_true, decide_eq_true_eq] at hB
  obtain ⟨⟨⟨⟨hsel, hn⟩, hs⟩, hc⟩, hlex⟩ := hB
  have htl : (l.take m).length = m := by have : m < l.length := by simpa using hn
                                         simp; omega
  have hdl : (l.drop m).length = l.toArray.size - m := by simp
  have inv0 : HeadInv .any l.toArray m (Array.replicate l.toArray.size false) :=
    ⟨by simp, fun j oj _ hl => (by rw [getD_replicate_false] at hl; cases hl), fun t _ ht => getD_in (by simpa using ht) (getD_replicate_false _ _)⟩
  have H := wpAnyL_lex (md := .any) (g := l.toArray.size - m) hsel hs hc hn (l.take m) 0 _ a (fun j hj => by
    have hj' : j < m := by rw [htl] at hj; exact hj
    simp [hj']) (by simpa using htl) inv0 (by rw [htl]; exact hlex) h
  refine wpIn_region_any hm ?_
  have := wpAnyIn_of_head_o (n := n) (Q' := Q) (g := l.toArray.size - m) hF (noDefer_spec hdf) (fun listed a' hL => by
    have := wpAnyIn_of_seq_o (F := F) (n := n) (md := .any) (Q' := Q) (l.drop m) m listed a' { w with drawn := w.drawn + 1 } (fun j => by simp [List.getElem?_drop]) (by rw [hdl]; exact hL.1) hL.2
    rwa [hdl] at this) _ _ _ H
  rw [htl, show m + (l.toArray.size - m) = l.toArray.size by omega] at this
  exact this

end
end Go

/- It is proved what FamilyDual of the program returns; conditions: those of each statement. -/
namespace Go.Proofs.YtemolmkkiagiiaaDoor
open Go.RowKit Go.Shelf

attribute [local go_sem] Oper.semAt_some

set_option maxRecDepth 100000 in
set_option maxHeartbeats 4000000 in
theorem implDual_yes (m : Nat) (a : Option Addr) (c : Nat) (zs : List Int) (w : World) (ha : Ints w w.heap.size a zs) (hT : Tab w) (hx : zs.length ≤ 1048576) (hf : famIn (m : Int) zs = true) (h1 : 1 ≤ zs.length) (h6 : zs.length ≤ 6) :
    Calls Tryd.prog 29 #[.agg #[.int .i64 (m : Int), .slice a zs.length c]] w (RetFB w zs.length (dualL m (prsP (pairs zs zs.length))) true) := by
  obtain ⟨i0, hi0, hz0, hz1, hz2⟩ := info_parts Tryd.info3
  have HB0 := Lib.hid (below2 w (.cells #[.int .i64 (m : Int), .slice a zs.length c] 25) (.cells #[.int .i64 0, .slice none 0 0] 25))
  have HA := Lib.hid (ha.below HB0.out)
  have HF := Lib.hid hf
  have HI := Lib.hid ha
  have HT := Lib.hid hT
  have hPc := isClub_all hf
  obtain ⟨hm1, hm6, hl8, -⟩ := famIn_out hf
  have hm6' : m ≤ 6 := by omega
  obtain ⟨n, hn⟩ : ∃ n, n = zs.length := ⟨_, rfl⟩
  have HN := Lib.hid hn
  rw [← hn] at hx h1 h6
  rw [← hn]
  clear hf ha hT hn hl8
  refine (callsIn_wide (n := 6)).1 ?_
  refine callsIn_of_wp_marks Tryd.func29 rfl trivial ?_ rfl
  simp only [Tryd.ntmps29, List.size_toArray, List.length_cons, List.length_nil, Nat.reduceAdd, Nat.reduceSub, Array.replicate_succ, Array.replicate_zero, List.push_toArray, List.append_toArray, List.nil_append, List.cons_append]
  gi_wp2_with fail
  rw [HN.out]
  refine ⟨trivial, (callsIn_wide.2 (implFamilyIn_any _ _ _ zs _ (HA.out.mono (by simp; omega)) (by rw [← HN.out]; exact hx))).mono ?_⟩
  rintro e w1 ⟨rfl, hb⟩
  rw [HF.out, ← HN.out]
  have b0 : w1.heap[w.heap.size]? = some (.cells #[.int .i64 (m : Int), .slice a n c] 25 (0, 0)) := (hb.block _ (by simp; omega)).trans ((alloc2_0 w _ _).trans (by rw [HN.out]))
  have b2 : w1.heap[w.heap.size + 1]? = some (.cells #[.int .i64 0, .slice none 0 0] 25 (0, 0)) := (hb.block _ (by simp)).trans (alloc2_1 w _ _)
  have x0 := blk_cell b0 0
  have x1 := blk_cell b0 1
  simp only [cell2_0, cell2_1] at x0 x1
  have xs : w.heap.size + 2 ≤ w1.heap.size := by have := hb.size; simpa using this
  have HB := Lib.hid (HB0.out.trans (hb.mono (by simp; omega)))
  have Q0 := Lib.hid b0
  have Q2 := Lib.hid b2
  clear hb b0 b2
  gi_wp2_with (gi_at_make; refine mark_make ?_)
  refine unmark_make ?_
  refine wpListIn_make_fullD _ rfl _ _ 23 rfl w1.heap.size 3 i0 (.int .i64 0) 1 Tryd.underlying23 hi0 hz0 hz1 .i64 .i64 m rfl rfl (by rw [hz2]; omega) (by simp only [maxLen]; omega) (Nat.le_refl _) ?_
  intro w2 hown hg
  have y0 := ((hg.block w.heap.size (by omega) (by simp)).trans Q0.out : w2.heap[w.heap.size]? = _)
  have y2 := ((hg.block (w.heap.size + 1) (by omega) (by simp)).trans Q2.out : w2.heap[w.heap.size + 1]? = _)
  have z0 := blk_cell (w := w2.alloc (.cells #[.slice (some ⟨w1.heap.size, 0, none⟩) m m] 23)) ((alloc_old _ _ _ (lt_of_some y0)).trans y0) 0
  have z1 := blk_cell (w := w2.alloc (.cells #[.slice (some ⟨w1.heap.size, 0, none⟩) m m] 23)) ((alloc_old _ _ _ (lt_of_some y0)).trans y0) 1
  have hGl : w1.heap.size < w2.heap.size := by have := (World.ownsRow.lt hown _ rfl).2; simpa using this
  have HO : Hid (w2.ownsRow w1.heap.size 3 1 (.slice (some ⟨w1.heap.size, 0, none⟩) m m) m ((dualL m []).map (Value.int .i64))) := Lib.hid (by rw [dualL_nil]; have := hown; rw [show (madeCells (Value.int .i64 0).cells (m * 1)).toList = (List.replicate m (0 : Int)).map (Value.int .i64) from by rw [show (Value.int .i64 0).cells = #[Value.int .i64 0] from rfl, toList_madeCells_one]; simp] at this; exact this)
  have HG := Lib.hid (HB.out.trans (((Below.refl _ _).grown hg (Nat.le_refl _) (by simp) : Below w1.heap.size w1 w2).mono (by omega)))
  have Y0 := Lib.hid y0
  have Y2 := Lib.hid y2
  simp only [cell2_0, cell2_1] at z0 z1
  clear hown hg y0 y2 x0 x1
  gi_wp2_with (refine ⟨trivial, ?_⟩; gi_at_call 45; refine (callsIn_wide.2 (clubs_any _ _ _ _ _)).mono ?_; rintro e w' ⟨rfl, rfl⟩)
  have h16 : 1 ≤ 6 := by omega
  have hd1 : decide ((n : Int) < 1) = false := by simp; omega
  have hd2 : decide ((6 : Int) < (n : Int)) = false := by simp; omega
  simp only [hd1, hd2, Bool.or_false]
  clear hd1 hd2
  have bD := Boxed.new w2 23 (.slice (some ⟨w1.heap.size, 0, none⟩) m m)
  have HBB : Hid (Below w.heap.size w ((w2.alloc (.cells #[.slice (some ⟨w1.heap.size, 0, none⟩) m m] 23)).alloc (.cells #[.int .i64 (m : Int), .slice a n c] 25))) := Lib.hid (HG.out.trans ((below2 w2 _ _).mono (by omega)))
  have hst := clubsP_stops (IsClub m) (6 - 1) (by omega) (w2.heap.size + 1) (w.heap.size + 2) a c zs (by rw [← HN.out]; exact hx) hPc ((w2.alloc (.cells #[.slice (some ⟨w1.heap.size, 0, none⟩) m m] 23)).alloc (.cells #[.int .i64 (m : Int), .slice a n c] 25)) (by simp) (by simp; omega)
    (by rw [← HN.out]; simp) ((HI.out.below HBB.out).mono (by omega))
  rw [← HN.out] at hst
  have h0 : RowBox w2.heap.size w1.heap.size w.heap.size m (dualL m (plc ([] : List { p // IsClub m p }))) ((w2.alloc (.cells #[.slice (some ⟨w1.heap.size, 0, none⟩) m m] 23)).alloc (.cells #[.int .i64 (m : Int), .slice a n c] 25)) :=
    ⟨_, bD.alloc _, by have := ownsRow_base HO.out (B := w.heap.size) (by omega); exact (this.alloc _).alloc _, rfl⟩
  have V0 := Lib.hid ((HasBlk.alloc (HasBlk.alloc Y0.out (.cells #[.slice (some ⟨w1.heap.size, 0, none⟩) m m] 23)) (.cells #[.int .i64 (m : Int), .slice a n c] 25)))
  have V2 := Lib.hid ((HasBlk.alloc (HasBlk.alloc Y2.out (.cells #[.slice (some ⟨w1.heap.size, 0, none⟩) m m] 23)) (.cells #[.int .i64 (m : Int), .slice a n c] 25)))
  obtain ⟨Wo, hWo⟩ : ∃ Wo, (w2.alloc (.cells #[.slice (some ⟨w1.heap.size, 0, none⟩) m m] 23)).alloc (.cells #[.int .i64 (m : Int), .slice a n c] 25) = Wo := ⟨_, rfl⟩
  have hso : Wo.heap.size = w2.heap.size + 1 + 1 := by rw [← hWo]; simp
  rw [hWo] at hst HBB h0 V0 V2 ⊢
  have HSO := Lib.hid hso
  clear hWo bD hso
  refine wpIn_rangeFunc_ownH rfl h16 (gf := 72) (lb := #[.pointer (some ⟨w2.heap.size + 1, 0, none⟩)]) rfl trivial (enters_of Tryd.func72 (by kernel_rfl) rfl)
    hst belowK_t (belowK_b (by have := HSO.out; omega)) (Below.refl _ _) (fun _ => rfl)
    (fun pre W => RowBox w2.heap.size w1.heap.size w.heap.size m (dualL m (plc pre)) W ∧ Below (w.heap.size + 2) Wo W)
    (fun _ _ _ => False)
    (OwnFrom.and (Own.from (RowBox.own _ _ _ _ (fun pre => dualL m (plc pre))) _) (ownFrom_below (by have := HSO.out; omega) (by have := HSO.out; omega)))
    (fun _ _ _ _ _ hs _ _ => hs)
    ⟨h0, Below.refl _ _⟩
    (fun x a' W => ∃ Bx, w2.heap.size < Bx ∧ Boxed W Bx 3 (.int .i64 (x.1.1 : Int)) ∧ a' = { tmps := #[.agg #[.int .i64 (m : Int), .slice a n c], .pointer (some ⟨w.heap.size, 0, none⟩), .pointer (some ⟨w.heap.size + 1, 0, none⟩), .bool false, .pointer (some ⟨w2.heap.size, 0, none⟩), .pointer (some ⟨Bx, 0, none⟩), .int .i64 x.1.2, undef, .agg #[.int .i64 (m : Int), .slice a n c], .bool true, .bool false, .bool false, .pointer (some ⟨w.heap.size, 1, none⟩), .slice a n c, .int .i64 (n : Int), .bool false, .bool false, .bool false, .pointer (some ⟨w.heap.size, 1, none⟩), .slice a n c, .int .i64 (n : Int), .bool false, .bool false, undef, .pointer (some ⟨w.heap.size, 0, none⟩), .int .i64 (m : Int), .slice (some ⟨w1.heap.size, 0, none⟩) m m, .agg #[.int .i64 (m : Int), .slice a n c], .func (.func 72) #[] #[.pointer (some ⟨w2.heap.size + 1, 0, none⟩)], .int .i64 (x.1.1 : Int), .int .i64 x.1.2, undef, undef, undef, undef, undef, undef, undef, undef, undef, undef, undef, undef, undef, undef, undef, undef, undef], defers := [] })
    (fun x a' _ X Y row hs hg hr => by obtain ⟨Bx, h1, h2, h3⟩ := hs; exact ⟨Bx, h1, boxed_own Bx 3 (fun (_ : Unit) => Value.int .i64 (x.1.1 : Int)) () X Y row h2 hg (fun r e => (hr r e).2), h3⟩)
    ?assign ?body ?done ?stop
  case assign =>
    rintro l pre x W K ⟨hv, hB⟩ hK
    have hWs := hB.size
    have hso := HSO.out
    gi_wp2
    exact hK _ _ ((KeepsOthers.alloc _ _).from _) ((Below.refl _ W).alloc (by omega) _) ⟨hv.alloc _, hB.alloc (by omega) _⟩ ⟨W.heap.size, hv.box.lt, Boxed.new W 3 _, rfl⟩
  case body =>
    rintro l pre x a' W hl ⟨r, hr⟩ ⟨hv, hB⟩ ⟨Bx, hBx, bX, rfl⟩ hlt
    obtain ⟨s, hs⟩ : ∃ s : Nat, x.1.2 = (s : Int) := ⟨x.1.2.toNat, by have := x.2.2.1; omega⟩
    have hs2 : s < 2 ^ m := by have := x.2.2.2; rw [hs] at this; simpa using this
    rw [hs]
    have HV := Lib.hid hv
    have HX := Lib.hid bX
    have HBW := Lib.hid hB
    have hWs : w.heap.size + 2 ≤ W.heap.size := by have := hB.size; have := HSO.out; omega
    have h1' : 1 ≤ 6 - 1 - 1 := by omega
    have HTW : Hid (Tab W) := Lib.hid ((HT.out.below HBB.out HT.out.lt).below hB (by have := HT.out.lt; omega))
    clear hv hB bX
    gi_wp2_with (refine ⟨trivial, ?_⟩; gi_at_call 46; refine (callsIn_wide.2 (members_any _ _)).mono ?_; rintro e w' ⟨rfl, rfl⟩)
    have hDW : w2.heap.size < W.heap.size := HV.out.box.lt
    have hst2 := (members_stops (6 - 1 - 1 - 1) (by omega) W.heap.size (w.heap.size + 2) m s hm6' hs2 (W.alloc (.cells #[.int .i64 (s : Int)] 50)) (by simp) (by simp; omega) (by have := HT.out.lt; omega) (by simp)
      (HTW.out.step (below1 W _))).inRound l
    have hr' : (W.alloc (.cells #[.int .i64 (s : Int)] 50)).heap[l]? = some (.loop r) := (alloc_old W _ l (lt_of_some hr)).trans hr
    have h00 : RowBox w2.heap.size w1.heap.size w.heap.size m (dualL m (plc pre ++ row1 x.1.1 ([] : List (Mem m)))) (W.alloc (.cells #[.int .i64 (s : Int)] 50)) := by
      rw [show row1 x.1.1 ([] : List (Mem m)) = [] from rfl, List.append_nil]; exact HV.out.alloc _
    refine wpIn_rangeFunc_ownN (l₀ := l) (r₀ := r) rfl hr' h1' (gf := 73) (lb := #[.pointer (some ⟨W.heap.size, 0, none⟩)]) rfl trivial (enters_of Tryd.func73 (by kernel_rfl) rfl)
      hst2 belowK_t (belowK_b (by simp; omega)) (Below.refl _ _) (fun _ => rfl)
      (fun us W' => (RowBox w2.heap.size w1.heap.size w.heap.size m (dualL m (plc pre ++ row1 x.1.1 us)) W' ∧ Boxed W' Bx 3 (.int .i64 (x.1.1 : Int))) ∧ (Below (w.heap.size + 2) W W' ∧ KeepsFrom Wo.heap.size W W'))
      (fun _ _ _ => False)
      (OwnFrom.and (OwnFrom.and (Own.from (RowBox.own _ _ _ _ (fun us => dualL m (plc pre ++ row1 x.1.1 us))) _) (Own.from (boxed_own _ _ _) _)) (OwnFrom.and (ownFrom_below hWs (by simp; omega)) (ownFrom_keepsFrom (by simp))))
      (fun _ _ _ _ _ hs _ _ => hs)
      ⟨⟨h00, HX.out.alloc _⟩, (Below.refl _ W).alloc hWs _, (KeepsOthers.alloc _ _).from _⟩
      (fun y a'' _ => a'' = { tmps := #[.agg #[.int .i64 (m : Int), .slice a n c], .pointer (some ⟨w.heap.size, 0, none⟩), .pointer (some ⟨w.heap.size + 1, 0, none⟩), .bool false, .pointer (some ⟨w2.heap.size, 0, none⟩), .pointer (some ⟨Bx, 0, none⟩), .int .i64 (s : Int), .int .i64 (y.1 : Int), .agg #[.int .i64 (m : Int), .slice a n c], .bool true, .bool false, .bool false, .pointer (some ⟨w.heap.size, 1, none⟩), .slice a n c, .int .i64 (n : Int), .bool false, .bool false, .bool false, .pointer (some ⟨w.heap.size, 1, none⟩), .slice a n c, .int .i64 (n : Int), .bool false, .bool false, undef, .pointer (some ⟨w.heap.size, 0, none⟩), .int .i64 (m : Int), .slice (some ⟨w1.heap.size, 0, none⟩) m m, .agg #[.int .i64 (m : Int), .slice a n c], .func (.func 72) #[] #[.pointer (some ⟨w2.heap.size + 1, 0, none⟩)], .int .i64 (x.1.1 : Int), .int .i64 (s : Int), .int .i64 (s : Int), .func (.func 73) #[] #[.pointer (some ⟨W.heap.size, 0, none⟩)], .int .i64 (y.1 : Int), undef, undef, undef, undef, undef, undef, undef, undef, undef, undef, undef, undef, undef, undef], defers := [] })
      (fun _ _ _ _ _ _ hs _ _ => hs)
      ?assign2 ?body2 ?done2 ?stop2
    case assign2 =>
      rintro l2 us y W' K hi hK
      gi_wp2
      exact hK _ _ (KeepsFrom.refl _ _) (Below.refl _ _) hi rfl
    case body2 =>
      rintro l2 us y a'' W' _ _ ⟨⟨hv, hX⟩, hBW, hKF⟩ rfl hul
      obtain ⟨u, hu⟩ := y
      obtain ⟨pl, hpl⟩ : ∃ pl, pl = x.1.1 := ⟨_, rfl⟩
      have hp8 : pl < 8 := by rw [hpl]; exact x.2.1
      rw [← hpl]
      rw [← hpl] at hv hX
      obtain ⟨d, hd⟩ : ∃ d, d = dualBits (plc pre ++ row1 pl us) u := ⟨_, rfl⟩
      have hd8 : d < 256 := by
        rw [hd]
        exact dualBits_lt _ _ (fun z hz => (List.mem_append.1 hz).elim (plc_lt _ _) (row1_lt _ hp8 _ _))
      have hcD := hv.box.cell
      have hcX := hX.cell
      obtain ⟨hcs, hfz⟩ := hv.cell u hu
      rw [dualL_at _ _ _ hu, ← hd] at hcs
      have HS := Lib.hid (hv.set (by omega) u ((d ||| 2 ^ pl : Nat) : Int))
      have HV2 := Lib.hid hv
      have HX2 := Lib.hid hX
      have HB2 := Lib.hid hBW
      have HK2 := Lib.hid hKF
      have HD := Lib.hid hd
      have HPL := Lib.hid hpl
      clear hv hX hBW hKF hd hpl
      have hmx : Tryd.prog.follows .mixedOrders = true := by kernel_rfl
      rw [Option.getD_some] at hcs
      gi_wp2
      refine wpIn_region_still_tail_o ((Fence.Open.wide.inRound l).inRound l2) 9 hmx (by kernel_rfl) (by kernel_rfl) ?_
      simp only [List.take_succ_cons, List.take_zero, List.drop_succ_cons, List.drop_zero]
      repeat still_step
      still_call ((with_any d pl hd8 hp8 _).mono fun _ _ h => ⟨h.1, h.2.symm⟩)
      repeat still_step
      refine wpStill_nil ?_
      change wpListIn _ _ _ _ _ _ _ W'.drew
      gi_wp2
      refine ⟨((KeepsOthers.setCell _ _ _).trans (KeepsOthers.drew _)).from _, ((Below.refl _ W').setCell (p := ⟨w1.heap.size, u, none⟩) (by show w.heap.size + 2 ≤ w1.heap.size; omega) _).drew, ⟨?_, (HasBlk.far (p := ⟨w1.heap.size, u, none⟩) HX2.out (show Bx ≠ w1.heap.size by omega) (.int .i64 ((d ||| 2 ^ pl : Nat) : Int)) : HasBlk _ _ _ _)⟩, (HB2.out.setCell (p := ⟨w1.heap.size, u, none⟩) (by show w.heap.size + 2 ≤ w1.heap.size; omega) _).drew, HK2.out.trans (((KeepsOthers.setCell _ _ _).trans (KeepsOthers.drew _)).from _)⟩
      rw [row1_snoc, ← List.append_assoc, dualL_snoc, ← HD.out]
      exact HS.out
    case done2 =>
      rintro us W' hus ⟨⟨hv, hX⟩, hBW, hKF⟩
      gi_wp2
      refine ⟨hKF, hBW, ?_, HBW.out.trans hBW⟩
      rw [plc_snoc, hs, Int.toNat_natCast, ← row1_all _ us _ hus]
      exact hv
    case stop2 =>
      rintro c us W' _ h
      exact h.elim
  case done =>
    rintro D ys W hD hys ⟨hv, hB⟩ hK
    rw [show plc ys = prsP (pairs zs n) from by rw [plc, hys]] at hv
    have hc := hv.box.cell
    have q0 := (hB.block w.heap.size (by omega)).trans V0.out
    have q2 := (hB.block (w.heap.size + 1) (by omega)).trans V2.out
    have d1 := blk_cell q0 1
    have e0 := blk_cell q2 0
    have e1 := blk_cell q2 1
    have f0 := blk_frozen q2 0
    have f1 := blk_frozen q2 1
    simp only [cell2_0, cell2_1] at d1 e0 e1
    have HR := Lib.hid hv.row
    have HBW := Lib.hid hB
    clear hv hB q0 q2
    gi_wp2
    have hK' := (KeepsOthers.setCell (W.setCell ⟨w.heap.size + 1, 0, none⟩ (.int .i64 (n : Int))) ⟨w.heap.size + 1, 1, none⟩ (.slice (some ⟨w1.heap.size, 0, none⟩) m m)).same D _ ((KeepsOthers.setCell W ⟨w.heap.size + 1, 0, none⟩ (.int .i64 (n : Int))).same D _ hK rfl) rfl
    refine ⟨by simp, .inl ⟨_, _, rfl, run_takeDeferred hK', ?_⟩⟩
    have g0 := cell_kept (World.cell?_setCell_other (W.setCell ⟨w.heap.size + 1, 0, none⟩ (.int .i64 (n : Int))) ⟨w.heap.size + 1, 1, none⟩ ⟨w.heap.size + 1, 0, none⟩ (.slice (some ⟨w1.heap.size, 0, none⟩) m m) (by simp) |>.trans (World.cell?_setCell_same' W ⟨w.heap.size + 1, 0, none⟩ (.int .i64 (n : Int)) (by rw [e0]; rfl))) (grownBy_putObj' _ D (.deferred none)) (fun r e => by cases e; exact ⟨_, hK', rfl⟩)
    have g1 := cell_kept (World.cell?_setCell_same' (W.setCell ⟨w.heap.size + 1, 0, none⟩ (.int .i64 (n : Int))) ⟨w.heap.size + 1, 1, none⟩ (.slice (some ⟨w1.heap.size, 0, none⟩) m m) (by rw [World.cell?_setCell_other _ _ _ _ (by simp), e1]; rfl)) (grownBy_putObj' _ D (.deferred none)) (fun r e => by cases e; exact ⟨_, hK', rfl⟩)
    refine ⟨.tuple #[.agg #[.int .i64 (n : Int), .slice (some ⟨w1.heap.size, 0, none⟩) m m], .bool true], by simp [results, Tryd.f29, go_sem, g0, g1], some ⟨w1.heap.size, 0, none⟩, m, by rw [dualL_length], ?_, ?_⟩
    · have h1 := ownsRow_setCell_ne HR.out (p := ⟨w.heap.size + 1, 0, none⟩) (by simp [Value.ownBlock]; omega) (.int .i64 (n : Int))
      have h2 := ownsRow_setCell_ne h1 (p := ⟨w.heap.size + 1, 1, none⟩) (by simp [Value.ownBlock]; omega) (.slice (some ⟨w1.heap.size, 0, none⟩) m m)
      unfold OwnI
      rw [dualL_length]
      exact ownsRow_putObj h2 _ hK' rfl
    · exact (((HBB.out.trans (HBW.out.mono (by omega))).setCell (p := ⟨w.heap.size + 1, 0, none⟩) (by simp) _).setCell (p := ⟨w.heap.size + 1, 1, none⟩) (by simp) _).trans (belowK_b (w := w) (Nat.le_refl _) _ D _ _ (by have := HSO.out; omega) hK' rfl rfl)
  case stop =>
    rintro D c pre W _ _ h _
    exact h.elim

end Go.Proofs.YtemolmkkiagiiaaDoor

/- It is proved what FamilyDual of the model returns where there is none, and what both return; conditions: those of each statement. -/
namespace Go.Proofs.YtemolmkkiagiiaaDoor
open Go.RowKit

theorem dualIn_split (m : Int) (zs : List Int) : dualIn m zs = (famIn m zs && inB (zs.length : Int) 1 6) := by
  simp only [dualIn, inB]
  congr 1
  have h1 : decide (1 ≤ zs.length) = decide ((1 : Int) ≤ (zs.length : Int)) := by simp; omega
  have h2 : decide (zs.length ≤ 6) = decide ((zs.length : Int) ≤ 6) := by simp; omega
  rw [h1, h2]

theorem implDual_any (m : Int) (a : Option Addr) (c : Nat) (zs : List Int) (w : World) (ha : Ints w w.heap.size a zs) (hT : Tab w) (hx : zs.length ≤ 1048576) :
    Calls Tryd.prog 29 #[.agg #[.int .i64 m, .slice a zs.length c]] w (RetFB w (dualM m zs) (dualZ m zs) (dualIn m zs)) := by
  unfold dualM dualZ
  cases hd : dualIn m zs
  · exact implDual_no m a c zs w ha hx hd
  · have h : famIn m zs = true := by simp only [dualIn, Bool.and_eq_true] at hd; exact hd.1
    obtain ⟨hm1, hm6, -, -⟩ := famIn_out h
    obtain ⟨k, rfl⟩ : ∃ k : Nat, m = (k : Int) := ⟨m.toNat, by omega⟩
    simp only [dualIn, Bool.and_eq_true, decide_eq_true_eq] at hd
    exact implDual_yes k a c zs w ha hT hx h hd.2.1 hd.2.2

end Go.Proofs.YtemolmkkiagiiaaDoor

/- It is proved that the dual of a dual is the family; conditions: those of each statement. -/
namespace Go.Proofs.YtemolmkkiagiiaaDoor
open Go.RowKit

theorem mem_mem (s v : Nat) : v ∈ mem s ↔ v < 6 ∧ s.testBit v = true := by simp [mem]
theorem dualBits_test (ps : List (Nat × Nat)) (v i : Nat) : (dualBits ps v).testBit i = decide ((i, v) ∈ ps) := by
  have key : ∀ (l : List (Nat × Nat)) (t : Nat), (l.foldl (fun t p => if p.2 = v then t ||| 2 ^ p.1 else t) t).testBit i = (t.testBit i || decide ((i, v) ∈ l)) := by
    intro l
    induction l with
    | nil => intro t; simp
    | cons x l ih =>
      intro t
      rw [List.foldl_cons, ih]
      by_cases h : x.2 = v
      · rw [if_pos h, Nat.testBit_or, Nat.testBit_two_pow]
        by_cases h2 : x.1 = i
        · have : x = (i, v) := by rw [← h, ← h2]
          simp [this]
        · have h3 : ¬ (i, v) = x := fun e => h2 (by rw [← e])
          simp [h2, h3]
      · rw [if_neg h]
        have h3 : ¬ (i, v) = x := fun e => h (by rw [← e])
        simp [h3]
  have := key ps 0
  simpa [dualBits] using this

theorem prs_mem (zs : List Int) (n i v : Nat) : (i, v) ∈ prsP (pairs zs n) ↔ i < n ∧ v ∈ mem (zs[i]?.getD 0).toNat := by
  simp only [prsP, List.mem_flatMap, List.mem_map, pairs, List.mem_range]
  constructor
  · rintro ⟨p, ⟨j, hj, rfl⟩, u, hu, he⟩
    injection he with e1 e2
    subst e1; subst e2
    exact ⟨hj, hu⟩
  · rintro ⟨h1, h2⟩
    exact ⟨_, ⟨i, h1, rfl⟩, v, h2, rfl⟩

theorem dualBits_pow (zs : List Int) (n v : Nat) : dualBits (prsP (pairs zs n)) v < 2 ^ n := by
  apply Nat.lt_pow_two_of_testBit
  intro i hi
  rw [dualBits_test]
  simp only [decide_eq_false_iff_not, prs_mem]
  omega

theorem dual_dual (k : Nat) (zs : List Int) (hf : famIn (k : Int) zs = true) (h1 : 1 ≤ zs.length) (h6 : zs.length ≤ 6) :
    dualIn (zs.length : Int) (dualL k (prsP (pairs zs zs.length))) = true ∧
    dualM (zs.length : Int) (dualL k (prsP (pairs zs zs.length))) = (k : Int) ∧
    dualZ (zs.length : Int) (dualL k (prsP (pairs zs zs.length))) = zs := by
  obtain ⟨hm1, hm6, hl8, hz⟩ := famIn_out hf
  obtain ⟨n, hn⟩ : ∃ n, n = zs.length := ⟨_, rfl⟩
  rw [← hn] at h1 h6 ⊢
  have hfull : ∀ m : Nat, fullI (m : Int) = ((2 ^ m : Nat) : Int) - 1 := fun m => by simp [fullI]
  have hin : dualIn (n : Int) (dualL k (prsP (pairs zs n))) = true := by
    rw [dualIn_split, dualL_length, Bool.and_eq_true]
    refine ⟨?_, inB_true (by omega) (by omega)⟩
    simp only [famIn, Bool.and_eq_true, decide_eq_true_eq, List.all_eq_true]
    refine ⟨inB_true (by omega) (by omega), by rw [dualL_length]; omega, fun z hz' => ?_⟩
    obtain ⟨v, hv, rfl⟩ := List.mem_map.1 hz'
    have := dualBits_pow zs n v
    exact inB_true (by omega) (by rw [hfull]; omega)
  refine ⟨hin, by rw [dualM, if_pos hin, dualL_length], ?_⟩
  rw [dualZ, if_pos hin, dualL_length]
  apply List.ext_getElem
  · rw [dualL_length]; omega
  · intro v g1 g2
    have hvn : v < n := by rw [dualL_length] at g1; omega
    have hzv := hz zs[v] (List.getElem_mem _)
    rw [hfull] at hzv
    have hzn : zs[v].toNat < 2 ^ k := by omega
    have e1 : (dualL ((n : Int).toNat) (prsP (pairs (dualL k (prsP (pairs zs n))) k)))[v] = ((dualBits (prsP (pairs (dualL k (prsP (pairs zs n))) k)) v : Nat) : Int) := by simp [dualL]
    rw [e1]
    have e2 : dualBits (prsP (pairs (dualL k (prsP (pairs zs n))) k)) v = zs[v].toNat := by
      apply Nat.eq_of_testBit_eq
      intro u
      rw [dualBits_test]
      have h2 : ((u, v) ∈ prsP (pairs (dualL k (prsP (pairs zs n))) k)) ↔ zs[v].toNat.testBit u = true := by
        rw [prs_mem]
        constructor
        · rintro ⟨hu, hm⟩
          rw [dualL_at _ _ _ hu, Option.getD_some, Int.toNat_natCast, mem_mem, dualBits_test, decide_eq_true_eq, prs_mem] at hm
          have h3 := (mem_mem _ _).1 hm.2.2
          rw [show zs[v]?.getD 0 = zs[v] from by simp [g2]] at h3
          exact h3.2
        · intro ht
          have hu : u < k := by
            rcases Nat.lt_or_ge u k with h | h
            · exact h
            · rw [Nat.testBit_lt_two_pow (Nat.lt_of_lt_of_le hzn (Nat.pow_le_pow_right (by decide) h))] at ht; cases ht
          refine ⟨hu, ?_⟩
          rw [dualL_at _ _ _ hu, Option.getD_some, Int.toNat_natCast, mem_mem, dualBits_test, decide_eq_true_eq, prs_mem, mem_mem]
          rw [show zs[v]?.getD 0 = zs[v] from by simp [g2]]
          exact ⟨by omega, hvn, by omega, ht⟩
      cases hb : zs[v].toNat.testBit u
      · simp only [decide_eq_false_iff_not, h2, hb]; decide
      · simp only [decide_eq_true_eq, h2, hb]
    rw [e2]
    omega

end Go.Proofs.YtemolmkkiagiiaaDoor

/- It is proved that FamilyDrop of the program and of the model return the same; conditions: those of each statement. -/
namespace Go.Proofs.YtemolmkkiagiiaaDoor
open Go.RowKit

theorem dropIn_nat {m : Int} {zs : List Int} {x : Int} (hi : inB x 0 ((zs.length : Int) - 1) = true) : ∃ p : Nat, x = (p : Int) ∧ p < zs.length := by
  obtain ⟨h0, h1⟩ := inB_out hi
  exact ⟨x.toNat, by omega, by omega⟩

theorem Ints.some_ {w : World} {B : Nat} {a : Option Addr} {zs : List Int} (h : Ints w B a zs) (hn : 0 < zs.length) : ∃ b off, a = some ⟨b, off, none⟩ := by
  rcases h with rfl | ⟨b, off, e, _⟩
  · simp at hn
  · exact ⟨b, off, e⟩

theorem own_cap {w : World} {B : Nat} {a : Option Addr} {n cap : Nat} {zs : List Int} (h : OwnN w B a n cap zs) : n ≤ cap := by
  rcases h.2 with ⟨e, hn⟩ | ⟨g, c, cur, e, _, _, hnc, _⟩
  · omega
  · injection e with _ _ e3; omega

theorem implDrop_any (m : Int) (a : Option Addr) (c : Nat) (zs : List Int) (x : Int) (w : World) (ha : Ints w w.heap.size a zs) (hx : zs.length ≤ 1048576) (hc : zs.length ≤ c) :
    Calls Tryd.prog 28 #[.agg #[.int .i64 m, .slice a zs.length c], .int .i64 x] w (RetFB w (dropM m zs x) (dropZ m zs x) (dropIn m zs x)) := by
  unfold dropM dropZ dropIn
  cases hf : famIn m zs
  · exact implDrop_no m a c zs x w ha hx (.inl hf)
  · cases hi : inB x 0 ((zs.length : Int) - 1)
    · exact implDrop_no m a c zs x w ha hx (by rcases inB_no hi with h | h; exact .inr (.inl h); exact .inr (.inr (by omega)))
    · obtain ⟨p, rfl, hp⟩ := dropIn_nat (m := m) hi
      obtain ⟨b, off, rfl⟩ := ha.some_ (by omega)
      simpa using implDrop_yes m b off c zs p w ha hx hf hp hc

end Go.Proofs.YtemolmkkiagiiaaDoor

/- It is proved how sums of degrees, sizes, unions and meetings of clubs count their members; conditions: those of each statement. -/
namespace Go.Proofs.YtemolmkkiagiiaaDoor
open Go.RowKit

theorem allMem_cons (z : Int) (zs : List Int) : allMem (z :: zs) = mem z.toNat ++ allMem zs := by simp [allMem]
end Go.Proofs.YtemolmkkiagiiaaDoor
