/- It is proved what around returns; conditions: those of each statement. -/
import Derived.RowKit
import Derived.Laws.CopyRow
import Derived.Lib.SlBuf
import Derived.Deep.QuietTactic
import Derived.RangeFuncNested
import Derived.RangeFuncBound
import Derived.RangeFuncCalls
import Derived.RangeFuncLeaves
import Derived.RangeFuncBox
import Derived.RangeFuncWrites
import Derived.StillTailTactics
import Derived.Maps.OwnIn
import Derived.Maps.Ext
import Derived.DeepKeys4
import Derived.MapKept
import Derived.Test.YtacglafoahmcnaaDoorRows
import Derived.WalkKit
import Derived.WalkSpells
import Derived.ProofKit
import Derived.OpenShut
import Derived.ShutString
import Derived.ChangeOld
import Derived.Below
import Derived.Deep.RegionHeld3
import Derived.BigQuiet
import Derived.Lib.Hide
import Derived.Lib.SmallJoins
import Derived.Outline
import Derived.Laws.MakeOwn
import Derived.Laws.OwnMore
import Derived.IntWalk
import Derived.Lib.AppendZeros
import Derived.Maps.AppendAt
import Derived.Deep.AppendLies
import Derived.OwnWalk
import Derived.Lib.SlicesCompact
import Derived.Lib.OwnBridge
import Derived.OrdersIn
import Derived.TacticsIn
import Derived.Shelf.Sort.Plain
import Derived.Shelf.Slices.In.SortNone
import Derived.Shelf.Slices.CompactI
import Derived.Ground.Names2Prog
import Derived.Lib.SliceRun
import Derived.Shelf.Abstract
import Derived.Shelf.RegionOpen
import Derived.OwnWalkIn
import Derived.TacticsInMore
import Derived.LoopNIn
import Derived.LoopIn
import Derived.StillTail
import Derived.StillTactics
import Derived.Shelf.Spec.TrailingZeros
import Derived.Deep.LoopGhost
import Derived.Test.YtacglafoahmcnaaDoorRaaa
import Derived.Test.YtacglafoahmcnaaDoorRaac
import Derived.Test.YtacglafoahmcnaaDoorRaag
import Derived.Test.YtacglafoahmcnaaDoorRaal
import Derived.Test.YtacglafoahmcnaaDoorRaam
import Derived.Test.YtacglafoahmcnaaDoorRaad
import Derived.Test.YtacglafoahmcnaaDoorRabcxFnColo
import Derived.Test.YtacglafoahmcnaaDoorRaab
import Derived.Test.YtacglafoahmcnaaDoorTb
import Derived.Test.YtacglafoahmcnaaDoorYa
import Derived.Test.YtacglafoahmcnaaDoorRabjxFnColo
import Derived.Test.YtacglafoahmcnaaDoorRaaw
import Derived.Deep.RegionLaw
import Derived.Test.YtacglafoahmcnaaDoorRabhxFnColo
import Derived.Test.YtacglafoahmcnaaDoorRabfxFnColo
import Derived.Test.YtacglafoahmcnaaDoorRaazxFnColo
import Derived.Test.YtacglafoahmcnaaDoorRabixFnColo
import Derived.Test.YtacglafoahmcnaaDoorSt
import Derived.Test.YtacglafoahmcnaaDoorRaae
namespace Go.Proofs.YtacglafoahmcnaaDoor
open Go.RowKit Go.Shelf

attribute [local go_sem] Oper.semAt_some

set_option maxRecDepth 100000 in
set_option maxHeartbeats 4000000 in
theorem around_any (k : Nat) (hk6 : k ≤ 6) (a : Option Addr) (c : Nat) (zs : List Int) (t : Nat) (ht : t < 6) (w : World) (ha : Ints w w.heap.size a zs) (h8 : zs.length ≤ 8) (hz : Sets k zs) :
    Calls Tryd.prog 126 #[.agg #[.int .i64 (k : Int), .slice a zs.length c], .int .i64 (t : Int)] w fun e w' => e = .returned (.int .i64 ((arN t zs : Nat) : Int)) ∧ Below w.heap.size w w' := by
  have h16 : 1 ≤ 6 := by omega
  obtain ⟨W2, hW2, q0, q1, hs2, hb2⟩ : ∃ W2, (w.alloc (.cells #[.int .i64 (k : Int), .slice a zs.length c] 25)).alloc (.cells #[.int .i64 (t : Int)] 3) = W2 ∧ HasBlk W2 w.heap.size #[.int .i64 (k : Int), .slice a zs.length c] 25 ∧ HasBlk W2 (w.heap.size + 1) #[.int .i64 (t : Int)] 3 ∧ W2.heap.size = w.heap.size + 1 + 1 ∧ Below w.heap.size w W2 :=
    ⟨_, rfl, alloc2_0 w _ _, alloc2_1 w _ _, by simp, below2 w _ _⟩
  obtain ⟨W3, hW3, p0, p1, p2, hs3, hb3⟩ : ∃ W3, W2.alloc (.cells #[.int .i64 0] 50) = W3 ∧ HasBlk W3 w.heap.size #[.int .i64 (k : Int), .slice a zs.length c] 25 ∧ HasBlk W3 (w.heap.size + 1) #[.int .i64 (t : Int)] 3 ∧ HasBlk W3 W2.heap.size #[.int .i64 0] 50 ∧ W3.heap.size = W2.heap.size + 1 ∧ Below W2.heap.size W2 W3 :=
    ⟨_, rfl, HasBlk.alloc q0 _, HasBlk.alloc q1 _, alloc_new W2 _, by simp, below1 W2 _⟩
  obtain ⟨W4, hW4, r3, hs4, hb4⟩ : ∃ W4, W3.alloc (.cells #[.int .i64 (k : Int), .slice a zs.length c] 25) = W4 ∧ HasBlk W4 W3.heap.size #[.int .i64 (k : Int), .slice a zs.length c] 25 ∧ W4.heap.size = W3.heap.size + 1 ∧ Below W3.heap.size W3 W4 :=
    ⟨_, rfl, alloc_new W3 _, by simp, below1 W3 _⟩
  have hb24 := hb3.trans (hb4.mono (show W2.heap.size ≤ W3.heap.size by omega))
  have hb04 := hb2.trans (hb24.mono (by omega))
  have y0 := (blk_cell p0 0).trans (cell2_0 _ _)
  have y1 := (blk_cell p0 1).trans (cell2_1 _ _)
  rw [← hW3] at y0 y1
  rw [hs3] at r3
  have hst := clubsP_stops (IsSet k) (6 - 1) (by omega) (W2.heap.size + 1) w.heap.size a c zs (by omega) hz.at_ W4 (by omega) (by omega) ((blk_cell r3 1).trans (cell2_1 _ _)) (ha.below hb04)
  have HST := Lib.hid hst
  have HB4 := Lib.hid hb04
  have HQ1 : Hid (HasBlk W4 (w.heap.size + 1) #[.int .i64 (t : Int)] 3) := Lib.hid ((hb4.block _ (by omega)).trans p1)
  have HQ2 : Hid (HasBlk W4 W2.heap.size #[.int .i64 0] 50) := Lib.hid ((hb4.block _ (by omega)).trans p2)
  have HW3 := Lib.hid hW3
  have HW4 := Lib.hid hW4
  have HS2 := Lib.hid hs2
  have HS3 := Lib.hid hs3
  have HS4 := Lib.hid hs4
  clear ha q0 q1 hb2 hW3 p0 p1 p2 hs3 hb3 hW4 r3 hs4 hb4 hb24 hb04 hst hs2 h8
  refine (callsIn_wide (n := 6)).1 ?_
  refine callsIn_of_wp_marks Tryd.func126 rfl trivial ?_ rfl
  simp only [Tryd.ntmps126, List.size_toArray, List.length_cons, List.length_nil, Nat.reduceAdd, Nat.reduceSub, Array.replicate_succ, Array.replicate_zero, List.push_toArray, List.append_toArray, List.nil_append, List.cons_append]
  gi_wp2_with (refine ⟨trivial, ?_⟩; gi_at_call 48; refine (callsIn_wide.2 (clubs_any _ _ _ _ _)).mono ?_; rintro e w' ⟨rfl, rfl⟩)
  rw [HW3.out, HW4.out]
  clear hW2 y0 y1
  refine wpIn_rangeFunc_ownG rfl h16 (gf := 88) (lb := #[.pointer (some ⟨W2.heap.size + 1, 0, none⟩)]) rfl trivial (enters_of Tryd.func88 (by kernel_rfl) rfl)
    HST.out belowK_t (belowK_b (by have := HS2.out; have := HS4.out; have := HS3.out; omega)) (Below.refl _ _) (fun _ => rfl)
    (fun pre W => ((HasBlk W (w.heap.size + 1) #[.int .i64 (t : Int)] 3 ∧ HasBlk W W2.heap.size #[.int .i64 ((arN t (sndL pre) : Nat) : Int)] 50) ∧ arN t (sndL pre) < 64) ∧ Below w.heap.size w W)
    (fun _ _ _ => False)
    ?own (fun _ _ _ _ _ hs _ _ => hs)
    ⟨⟨⟨HQ1.out, HQ2.out⟩, by show 0 < 64; decide⟩, HB4.out⟩
    (fun x => { tmps := #[.agg #[.int .i64 (k : Int), .slice a zs.length c], .int .i64 (t : Int), .pointer (some ⟨w.heap.size, 0, none⟩), .pointer (some ⟨w.heap.size + 1, 0, none⟩), .int .i64 0, .pointer (some ⟨W2.heap.size, 0, none⟩), undef, .int .i64 x.1.2, .agg #[.int .i64 (k : Int), .slice a zs.length c], .func (.func 88) #[] #[.pointer (some ⟨W2.heap.size + 1, 0, none⟩)], .int .i64 (x.1.1 : Int), .int .i64 x.1.2, undef, undef, undef, undef, undef, undef, undef], defers := [] }) ?assign ?body ?done ?stop
  case own =>
    rintro s A' B row ⟨⟨⟨h1, h2⟩, h3⟩, h5⟩ hg hr
    have hr' : ∀ (b : Nat) (cs : Array Value) (t : TypeId), HasBlk A' b cs t → row ≠ some b := fun b cs t hb e => by
      obtain ⟨-, o, ho, hc⟩ := hr b e
      rw [show A'.heap[b]? = _ from hb] at ho; cases ho; cases hc
    exact ⟨⟨⟨h1.kept hg (hr' _ _ _ h1), h2.kept hg (hr' _ _ _ h2)⟩, h3⟩, h5.grown hg (by have := h5.size; omega) (fun r e => by have := (hr r e).1; have := HS2.out; have := HS3.out; have := HS4.out; omega)⟩
  case assign =>
    intro l x W K hK
    gi_wp2
    exact hK
  case body =>
    rintro l pre x W ⟨⟨⟨h1, h2⟩, hlt64⟩, hB⟩ hlt
    obtain ⟨z, hzz⟩ : ∃ z : Nat, x.1.2 = (z : Int) := ⟨x.1.2.toNat, by have := x.2.1; omega⟩
    have hz64 : z < 64 := by have := p64 hk6 x.2.2; rw [hzz] at this; simpa using this
    have HSN : Hid (arN t (sndL (pre ++ [x])) = if z.testBit t = true then arN t (sndL pre) ||| z else arN t (sndL pre)) := Lib.hid (by rw [sndL_snoc, arN_snoc, hzz]; unfold Bt; rw [Int.toNat_natCast])
    obtain ⟨C, hC⟩ : ∃ C, C = arN t (sndL pre) := ⟨_, rfl⟩
    rw [← hC] at HSN h2 hlt64
    have t0 := (blk_cell h1 0).trans (cell1_0 _)
    have m0 := (blk_cell h2 0).trans (cell1_0 _)
    have m1 := blk_frozen h2 0
    have H1 := Lib.hid h1
    have H2 := Lib.hid h2
    have HB := Lib.hid hB
    have HP := Lib.hid (has_any z t hz64 ht W)
    have hl1 : w.heap.size + 1 ≠ W2.heap.size := by have := HS2.out; omega
    have hl0 : w.heap.size ≤ W2.heap.size := by have := HS2.out; omega
    have hor : bits .or .i64 (C : Int) (z : Int) = ((C ||| z : Nat) : Int) := or_at6 hlt64 hz64
    have hor64 : C ||| z < 64 := Nat.or_lt_two_pow (n := 6) hlt64 hz64
    have HL64 := Lib.hid hlt64
    rw [hzz]
    clear h1 h2 hB hC hlt hlt64
    cases hp : z.testBit t
    · have HPP := Lib.hid hp
      have HE : Hid (arN t (sndL (pre ++ [x])) = C) := Lib.hid (by rw [HSN.out, hp]; simp)
      clear hp
      gi_wp2_with (refine ⟨trivial, ?_⟩; gi_at_call 108; refine (CallsIn.inRound l (callsIn_wide.2 HP.out)).mono ?_; rintro e w' ⟨rfl, rfl⟩; rw [HPP.out])
      exact ⟨KeepsFrom.refl _ _, Below.refl _ _, ⟨⟨H1.out, by rw [HE.out]; exact H2.out⟩, by rw [HE.out]; exact HL64.out⟩, HB.out⟩
    · have HPP := Lib.hid hp
      have HE : Hid (arN t (sndL (pre ++ [x])) = C ||| z) := Lib.hid (by rw [HSN.out, hp]; simp)
      clear hp
      gi_wp2_with (refine ⟨trivial, ?_⟩; gi_at_call 108; refine (CallsIn.inRound l (callsIn_wide.2 HP.out)).mono ?_; rintro e w' ⟨rfl, rfl⟩; rw [HPP.out])
      refine ⟨(KeepsOthers.setCell _ _ _).from _, (Below.refl _ _).setCell (p := ⟨W2.heap.size, 0, none⟩) (by show w.heap.size ≤ W2.heap.size; exact hl0) _, ⟨⟨HasBlk.far H1.out (show w.heap.size + 1 ≠ W2.heap.size from hl1) _, ?_⟩, by rw [HE.out]; exact hor64⟩, HB.out.setCell (p := ⟨W2.heap.size, 0, none⟩) (by show w.heap.size ≤ W2.heap.size; exact hl0) _⟩
      rw [HE.out]
      exact Boxed.set _ H2.out
  case done =>
    rintro E ys W hE hys ⟨⟨⟨-, h2⟩, -⟩, hB⟩ hK
    rw [sndL_all hys] at h2
    have c0 := (blk_cell h2 0).trans (cell1_0 _)
    have HB := Lib.hid hB
    have HK := Lib.hid hK
    have HEs : Hid (w.heap.size ≤ E) := Lib.hid (by have := HS2.out; have := HS3.out; have := HS4.out; omega)
    clear h2 hB hK hys
    gi_wp2
    refine ⟨by simp, .inl ⟨_, _, rfl, run_takeDeferred HK.out, ?_⟩⟩
    exact ⟨.int .i64 ((arN t zs : Nat) : Int), by simp [results, Tryd.results126, go_sem], rfl, HB.out.trans (belowK_b (w := w) (Nat.le_refl _) W E _ _ HEs.out HK.out rfl rfl)⟩
  case stop =>
    rintro D c pre W _ _ h _
    exact h.elim

end Go.Proofs.YtacglafoahmcnaaDoor

/- It is proved what mayLeave returns; conditions: those of each statement. -/
namespace Go.Proofs.YtacglafoahmcnaaDoor
open Go.RowKit

theorem idxX_any {zs : List Int} {x r : Int} (h : IdxR x zs r) : decide (0 ≤ r) = zs.any fun z => decide (z = x) := by
  rcases h with ⟨rfl, h⟩ | ⟨k, rfl, hk, hz, -⟩
  · have : (zs.any fun z => decide (z = x)) = false := List.any_eq_false.2 fun z hz => by
      obtain ⟨j, hj, rfl⟩ := List.getElem_of_mem hz
      have := h j hj
      rw [List.getElem?_eq_getElem hj] at this
      simpa using this
    rw [this]; rfl
  · have : (zs.any fun z => decide (z = x)) = true := List.any_eq_true.2 ⟨zs[k], List.getElem_mem _, by
      rw [List.getElem?_eq_getElem hk] at hz
      simpa using hz⟩
    rw [this, decide_eq_true (by omega)]

set_option maxRecDepth 100000 in
theorem containsX_any (a : Option Addr) (c : Nat) (zs : List Int) (x : Int) (w : World) (ha : Ints w w.heap.size a zs) (hx : zs.length ≤ 1048576) :
    Calls Tryd.prog 127 #[.slice a zs.length c, .int .i64 x] w fun e w' => e = .returned (.bool (zs.any fun z => decide (z = x))) ∧ w = w' := by
  go_enter Tryd.func127, Tryd.ntmps127
  go_wp2_with fail
  refine (indexI_any a c zs x w ha hx).mono ?_
  rintro e w1 ⟨⟨r, rfl, hr⟩, rfl⟩
  have HR := Lib.hid (idxX_any hr)
  clear hr
  go_wp2
  go_ret
  exact ⟨by rw [← HR.out]; rfl, rfl⟩

set_option maxRecDepth 100000 in
set_option maxHeartbeats 1600000 in
theorem mayLeave_any (k : Nat) (hk6 : k ≤ 6) (a : Option Addr) (c : Nat) (zs : List Int) (t : Nat) (ht : t < 6) (w : World) (ha : Ints w w.heap.size a zs) (h8 : zs.length ≤ 8) (hz : Sets k zs) :
    Calls Tryd.prog 94 #[.agg #[.int .i64 (k : Int), .slice a zs.length c], .int .i64 (t : Int)] w fun e w' => e = .returned (.bool (leavB t zs)) ∧ Below w.heap.size w w' := by
  have F1 := FB.start (m := (k : Int)) (c := c) ha
  have HB0 := Lib.hid (below1 w (.cells #[.int .i64 (k : Int), .slice a zs.length c] 25))
  have HF1 := Lib.hid F1
  have HAR := Lib.hid (around_any k hk6 a c zs t ht _ F1.ints h8 hz)
  have HCO : Hid (∀ x W, Ints W W.heap.size a zs → Calls Tryd.prog 127 #[.slice a zs.length c, .int .i64 x] W fun e w' => e = .returned (.bool (zs.any fun z => decide (z = x))) ∧ W = w') := Lib.hid fun x W h => containsX_any a c zs x W h (by omega)
  have HLV : Hid (leavB t zs = (decide (arN t zs = 0) || zs.any fun z => decide (z = ((arN t zs : Nat) : Int)))) := Lib.hid rfl
  obtain ⟨A, hA⟩ : ∃ A, A = arN t zs := ⟨_, rfl⟩
  rw [← hA] at HAR HLV
  have f_0 := F1.x0
  have f_1 := F1.x1
  clear F1 ha hz hA
  go_enter Tryd.func94, Tryd.ntmps94
  go_wp2_with fail
  refine HAR.out.mono ?_
  rintro e w2 ⟨rfl, hb2⟩
  have HF2 := Lib.hid (HF1.out.step hb2)
  have HB2 := Lib.hid (HB0.out.trans (hb2.mono (by simp)))
  clear hb2 f_0 f_1 HF1 HB0 HAR
  have f_0 := HF2.out.x0
  have f_1 := HF2.out.x1
  by_cases h0 : A = 0
  · subst h0
    have HR : Hid (leavB t zs = true) := Lib.hid (by rw [HLV.out]; rfl)
    clear HLV
    go_wp2
    go_ret
    exact ⟨by rw [HR.out]; rfl, HB2.out⟩
  · have hb1 : ((A : Int) == 0) = false := by rw [beq_eq_false_iff_ne]; omega
    have hb2 : (A == 0) = false := by rw [beq_eq_false_iff_ne]; exact h0
    obtain ⟨D, hD⟩ : ∃ D, D = (zs.any fun z => decide (z = (A : Int))) := ⟨_, rfl⟩
    have HC := Lib.hid (HCO.out (A : Int) w2 HF2.out.ints)
    rw [← hD] at HC HLV
    have HR : Hid (leavB t zs = D) := Lib.hid (by rw [HLV.out, decide_eq_false h0, Bool.false_or])
    clear hD HLV h0
    go_wp2_with fail
    refine HC.out.mono ?_
    rintro e w3 ⟨rfl, rfl⟩
    go_wp2
    go_ret
    exact ⟨by rw [HR.out]; rfl, HB2.out⟩

end Go.Proofs.YtacglafoahmcnaaDoor

/- It is proved how many kinds of colours a club has, and when colours are mixed or proper; conditions: those of each statement. -/
namespace Go.Proofs.YtacglafoahmcnaaDoor
open Go.RowKit Go.Shelf

attribute [local go_sem] Oper.semAt_some

theorem any_cont (l : List Int) (x : Int) : (l.any fun z => decide (z = x)) = l.contains x := by
  rw [Bool.eq_iff_iff]; simp

/-- The kinds of colours of some members. -/
def kindsV (cs : List Int) (vs : List Nat) : List Int := kindsOf (vs.map fun v => cs[v]?.getD 0)

theorem kindsV_yes {cs : List Int} {vs : List Nat} {v : Nat} (h : (kindsV cs vs).contains (cs[v]?.getD 0) = true) : kindsV cs (vs ++ [v]) = kindsV cs vs := by
  unfold kindsV at h ⊢
  rw [List.map_append, List.map_cons, List.map_nil, kindsOf_snoc, addK, if_pos h]

theorem kindsV_no {cs : List Int} {vs : List Nat} {v : Nat} (h : (kindsV cs vs).contains (cs[v]?.getD 0) = false) : kindsV cs (vs ++ [v]) = kindsV cs vs ++ [cs[v]?.getD 0] := by
  unfold kindsV at h ⊢
  rw [List.map_append, List.map_cons, List.map_nil, kindsOf_snoc, addK, if_neg (by rw [h]; simp)]

theorem kindsV_len (cs : List Int) (vs : List Nat) : (kindsV cs vs).length ≤ vs.length := by
  have := (kinds_inv (vs.map fun v => cs[v]?.getD 0)).2.2
  rw [List.length_map] at this
  exact this

theorem col_ne : (100 : TypeId) ≠ 3 := by decide
set_option maxRecDepth 100000 in
set_option maxHeartbeats 8000000 in
theorem kinds_any (a : Option Addr) (n : Nat) (cs : List Int) (z : Nat) (hcs : cs.length = n) (hn : n ≤ 6) (hz : z < 2 ^ n) (w : World) (hc : Ints w w.heap.size a cs) (hT : Tab w) :
    Calls Tryd.prog 136 #[.slice a n n, .int .i64 (z : Int)] w fun e w' => e = .returned (.int .i64 ((kindsOf (colsZ cs (z : Int))).length : Int)) ∧ Below w.heap.size w w' := by
  have hz64 : z < 64 := p64 hn hz
  have h16 : 1 ≤ 6 := by omega
  have hT1 := hT.lt
  have hmx : Tryd.prog.follows .mixedOrders = true := by kernel_rfl
  have hk0 : kindsOf (colsZ cs (z : Int)) = kindsV cs (mem z) := by unfold kindsV colsZ; rw [Int.toNat_natCast]
  rw [hk0]
  obtain ⟨W2, hW2, q0, q1, hs2, hb2⟩ : ∃ W2, (w.alloc (.cells #[.slice a n n] 100)).alloc (.cells #[.slice none 0 0] 23) = W2 ∧ HasBlk W2 w.heap.size #[.slice a n n] 100 ∧ IntBox (w.heap.size + 1) w.heap.size [] W2 ∧ W2.heap.size = w.heap.size + 1 + 1 ∧ Below w.heap.size w W2 :=
    ⟨_, rfl, alloc2_0 w _ _, by have := IntBox.start (w.alloc (.cells #[.slice a n n] 100)) w.heap.size; rwa [World.size_alloc] at this, by simp, below2 w _ _⟩
  obtain ⟨W3, hW3, q2, hs3, hb3⟩ : ∃ W3, W2.alloc (.cells #[.int .i64 (z : Int)] 50) = W3 ∧ HasBlk W3 (w.heap.size + 1 + 1) #[.int .i64 (z : Int)] 50 ∧ W3.heap.size = W2.heap.size + 1 ∧ Below W2.heap.size W2 W3 :=
    ⟨_, rfl, by have := alloc_new W2 (.cells #[.int .i64 (z : Int)] 50); rwa [hs2] at this, by simp, below1 W2 _⟩
  have hb03 := hb2.trans (hb3.mono (show w.heap.size ≤ W2.heap.size by omega))
  have hst := membersS_stops (6 - 1) (by omega) (w.heap.size + 1 + 1) w.heap.size z hz64 W3 (by omega) (by omega) (by omega) ((blk_cell q2 0).trans (cell1_0 _)) (hT.below hb03 hT1)
  have HST := Lib.hid hst
  have HQ0 : Hid (HasBlk W3 w.heap.size #[.slice a n n] 100) := Lib.hid ((hb3.block _ (by omega)).trans q0)
  have HQ1 : Hid (IntBox (w.heap.size + 1) w.heap.size (kindsV cs []) W3) := Lib.hid (by rw [← hW3]; exact q1.alloc _)
  have HB3 := Lib.hid hb03
  have HI := Lib.hid hc
  have HW2 := Lib.hid hW2
  have HW3 := Lib.hid hW3
  have HS2 := Lib.hid hs2
  have HS3 := Lib.hid hs3
  have HCS := Lib.hid hcs
  have HZ := Lib.hid hz
  clear hc q0 q1 q2 hb2 hb3 hb03 hst hW2 hW3 hs2 hs3 hT hcs hk0 hz
  refine (callsIn_wide (n := 6)).1 ?_
  refine callsIn_of_wp_marks Tryd.func136 rfl trivial ?_ rfl
  simp only [Tryd.ntmps136, List.size_toArray, List.length_cons, List.length_nil, Nat.reduceAdd, Nat.reduceSub, Array.replicate_succ, Array.replicate_zero, List.push_toArray, List.append_toArray, List.nil_append, List.cons_append]
  gi_wp2_with (refine ⟨trivial, ?_⟩; gi_at_call 49; refine (callsIn_wide.2 (members_any _ _)).mono ?_; rintro e w' ⟨rfl, rfl⟩)
  rw [HW2.out, HW3.out]
  refine wpIn_rangeFunc_ownG rfl h16 (gf := 89) (lb := #[.pointer (some ⟨w.heap.size + 1 + 1, 0, none⟩)]) rfl trivial (enters_of Tryd.func89 (by kernel_rfl) rfl)
    HST.out belowK_t (belowK_b (by have := HS3.out; have := HS2.out; omega)) (Below.refl _ _) (fun _ => rfl)
    (fun pre W => (IntBox (w.heap.size + 1) w.heap.size (kindsV cs (valsS pre)) W ∧ HasBlk W w.heap.size #[.slice a n n] 100) ∧ Below w.heap.size w W)
    (fun _ _ _ => False)
    (OwnFrom.and (OwnFrom.and (Own.from (IntBox.own _ _ (fun pre : List (MemS z) => kindsV cs (valsS pre))) _) (Own.from (hasBlk_own _ _ _) _)) (ownFrom_below (Nat.le_refl _) (by have := HS3.out; have := HS2.out; omega)))
    (fun _ _ _ _ _ hs _ _ => hs)
    ⟨⟨HQ1.out, HQ0.out⟩, HB3.out⟩
    (fun x => { tmps := #[.slice a n n, .int .i64 (z : Int), .pointer (some ⟨w.heap.size, 0, none⟩), undef, .int .i64 0, .pointer (some ⟨w.heap.size + 1, 0, none⟩), .int .i64 (x.1 : Int), .int .i64 (z : Int), .func (.func 89) #[] #[.pointer (some ⟨w.heap.size + 1 + 1, 0, none⟩)], .int .i64 (x.1 : Int), undef, undef, undef, undef, undef, undef, undef, undef, undef, undef, undef, undef, undef, undef, undef, undef], defers := [] }) ?assign ?body ?done ?stop
  case assign =>
    intro l x W K hK
    gi_wp2
    exact hK
  case body =>
    rintro l pre ⟨x, hxm⟩ W ⟨⟨hv, q0⟩, hB⟩ hlt
    obtain ⟨xx, hxx⟩ : ∃ xx : MemS z, xx = ⟨x, hxm⟩ := ⟨_, rfl⟩
    have hxn : x < n := mem_lt n hn z HZ.out x hxm
    obtain ⟨b1, o1, rfl, hb1, hc1⟩ := HI.out.at_ (k := x) (by rw [HCS.out]; exact hxn)
    obtain ⟨y, hy⟩ : ∃ y, y = cs[x]?.getD 0 := ⟨_, rfl⟩
    rw [← hy] at hc1
    obtain ⟨K, hK⟩ : ∃ K, K = kindsV cs (valsS pre) := ⟨_, rfl⟩
    have hKl : K.length ≤ 6 := by rw [hK]; exact Nat.le_trans (kindsV_len _ _) (by unfold valsS; rw [List.length_map]; omega)
    rw [← hK] at hv
    obtain ⟨ga, gc, hvb, hrow⟩ := hv.ints
    have c1 := (hB.cell (p := ⟨b1, o1 + x, none⟩) hb1).trans hc1
    have x0 := (blk_cell q0 0).trans (cell1_0 _)
    have d0 := (blk_cell hvb 0).trans (cell1_0 _)
    have hCON := containsX_any ga gc K y W.drew (hrow.ints : Ints W W.heap.size ga K) (by omega)
    rw [any_cont] at hCON
    have HSY : Hid (K.contains y = true → kindsV cs (valsS (pre ++ [xx])) = K) := Lib.hid (fun h => by rw [valsS_snoc, hxx, hK]; exact kindsV_yes (by rw [← hK, ← hy]; exact h))
    have HSN : Hid (K.contains y = false → kindsV cs (valsS (pre ++ [xx])) = K ++ [y]) := Lib.hid (fun h => by rw [valsS_snoc, hxx, hK, hy]; exact kindsV_no (by rw [← hK, ← hy]; exact h))
    have HV := Lib.hid hv
    have HVB := Lib.hid hvb
    have HROW := Lib.hid hrow
    have HQ := Lib.hid q0
    have HB := Lib.hid hB
    have hxI : (x : Int) < (n : Int) := by omega
    have hx0 : (0 : Int) ≤ (x : Int) := by omega
    obtain ⟨kl, hkl⟩ : ∃ kl, kl = K.length := ⟨_, rfl⟩
    have HKL := Lib.hid hkl
    rw [← hkl] at d0 hCON
    dsimp only
    rw [← hxx]
    clear hv hvb hrow q0 hB hxm hxx hK hc1 hy hkl
    cases hcon : K.contains y
    · have HC := Lib.hid (HSN.out hcon)
      rw [hcon] at hCON
      clear hcon
      have hlo : w.heap.size ≤ W.drew.heap.size := HB.out.size
      obtain ⟨v', w1, hrun, hown, hgrow⟩ := appW_run (W := W.drew.drew) (lo := w.heap.size) (v := .slice ga kl gc) (xs := K) (n := kl) (by rw [HKL.out]; exact HROW.out) hlo (by rw [HKL.out]; omega) y
      obtain ⟨g9, cap9, hv9⟩ := ownsRow_succ hown
      have HV9 := Lib.hid hv9
      clear hv9
      have hvb2 : HasBlk W.drew.drew (w.heap.size + 1) #[.slice ga kl gc] 23 := by rw [HKL.out]; exact HVB.out
      have hown2 := hown
      rw [HKL.out] at hown2
      obtain ⟨hv1, hv2, hk2, hb2⟩ := IntBox.appended (W := W.drew.drew) (zs := K) hvb2 (by rw [HKL.out]; exact HROW.out) hlo (show w.heap.size ≤ w.heap.size + 1 by omega) hown2 hgrow
      have e0 : W.drew.drew.cell? ⟨w.heap.size + 1, 0, none⟩ = some (.slice ga kl gc) := (blk_cell hvb2 0).trans (cell1_0 _)
      have e1 := (blk_cell (HasBlk.alloc hvb2 (.cells #[.int .i64 y] 3)) 0).trans (cell1_0 _)
      have e1' : (W.alloc (.cells #[.int .i64 y] 3)).cell? ⟨w.heap.size + 1, 0, none⟩ = some (.slice ga kl gc) := (blk_cell (HasBlk.alloc (W := W) (show HasBlk W (w.heap.size + 1) #[.slice ga kl gc] 23 from hvb2) (.cells #[.int .i64 y] 3)) 0).trans (cell1_0 _)
      have e2 := (blk_cell hv1 0).trans (cell1_0 _)
      have f2 := blk_frozen hv1 0
      have xb : W.drew.drew.cell? ⟨w.heap.size, 0, none⟩ = some (.slice (some ⟨b1, o1, none⟩) n n) := x0
      have cb : W.drew.drew.cell? ⟨b1, o1 + x, none⟩ = some (.int .i64 y) := c1
      have HV2 := Lib.hid hv2
      have HB2 := Lib.hid hb2
      have HK2 := Lib.hid hk2
      have HRUN := Lib.hid hrun
      have hn0 := (hasBlk_not_row (W := W.drew.drew) HQ.out col_ne (by rw [HKL.out]; exact HROW.out : W.drew.drew.ownsRow w.heap.size 3 1 (.slice ga kl gc) kl (K.map (Value.int .i64)))).symm
      have HQ3 : Hid (HasBlk (w1.setCell ⟨w.heap.size + 1, 0, none⟩ v') w.heap.size #[.slice (some ⟨b1, o1, none⟩) n n] 100) := Lib.hid (HasBlk.far (p := ⟨w.heap.size + 1, 0, none⟩) ((HasBlk.alloc (W := W.drew.drew) HQ.out _).kept hgrow hn0) (by show w.heap.size ≠ w.heap.size + 1; omega) v')
      clear hrun hown hown2 hgrow hv1 hv2 hk2 hb2 hvb2 hn0
      gi_wp2
      refine wpIn_region_still_tail_o (Fence.Open.wide.inRound l) 6 hmx (by kernel_rfl) (by kernel_rfl) ?_
      simp only [List.take_succ_cons, List.take_zero, List.drop_succ_cons, List.drop_zero]
      repeat still_step
      still_call (hCON.mono fun _ _ h => ⟨h.1, h.2.symm⟩)
      repeat still_step
      refine wpStill_nil ?_
      change wpListIn _ _ _ _ _ _ _ W.drew
      gi_wp2
      refine wpIn_region_held (A := fun ls => { tmps := #[.slice (some ⟨b1, o1, none⟩) n n, .int .i64 (z : Int), .pointer (some ⟨w.heap.size, 0, none⟩), undef, .int .i64 0, .pointer (some ⟨w.heap.size + 1, 0, none⟩), .int .i64 (x : Int), .int .i64 (z : Int), .func (.func 89) #[] #[.pointer (some ⟨w.heap.size + 1 + 1, 0, none⟩)], .int .i64 (x : Int), .slice ga kl gc, .slice (some ⟨b1, o1, none⟩) n n, .int .i64 (x : Int), .pointer (some ⟨b1, o1 + x, none⟩), .int .i64 y, .bool false, .bool true, (bif ls.getD 0 false then .slice ga kl gc else undef), (bif ls.getD 1 false then .slice (some ⟨b1, o1, none⟩) n n else undef), (bif ls.getD 2 false then .int .i64 (x : Int) else undef), (bif ls.getD 3 false then .pointer (some ⟨b1, o1 + x, none⟩) else undef), (bif ls.getD 4 false then .int .i64 y else undef), (bif ls.getD 5 false then .slice (some ⟨W.heap.size, 0, none⟩) 1 1 else undef), (bif ls.getD 6 false then v' else undef), undef, undef], defers := [] })
        (S := fun ls W'' => (ls.getD 3 false = true → ls.getD 1 false = true) ∧ (ls.getD 4 false = true → ls.getD 3 false = true) ∧ (ls.getD 5 false = true → ls.getD 4 false = true) ∧ (ls.getD 6 false = true → ls.getD 5 false = true ∧ ls.getD 0 false = true) ∧ (ls.getD 7 false = true → ls.getD 6 false = true) ∧ W'' = (bif ls.getD 7 false then w1.setCell ⟨w.heap.size + 1, 0, none⟩ v' else bif ls.getD 6 false then w1 else bif ls.getD 5 false then W.drew.drew.alloc (.cells #[.int .i64 y] 3) else W.drew.drew)) hmx (by kernel_rfl) rfl ⟨by simp, by simp, by simp, by simp, by simp, rfl⟩ ?step ?fin
      case step =>
        intro listed W'' i hsz hi hS
        obtain ⟨l0, l1, l2, l3, l4, l5, l6, l7, rfl⟩ := arr8 listed hsz
        obtain ⟨hi1, hi2⟩ := List.mem_filter.1 hi
        have hi8 : i < 8 := by simpa using hi1
        obtain ⟨s1, s2, s3, s4, s5, s6⟩ := hS
        have HT1 := Lib.hid s1
        have HT2 := Lib.hid s2
        have HT3 := Lib.hid s3
        have HT4 := Lib.hid s4
        have HT5 := Lib.hid s5
        change l3 = true → l1 = true at s1
        change l4 = true → l3 = true at s2
        change l5 = true → l4 = true at s3
        change l6 = true → l5 = true ∧ l0 = true at s4
        change l7 = true → l6 = true at s5
        change W'' = (bif l7 then w1.setCell ⟨w.heap.size + 1, 0, none⟩ v' else bif l6 then w1 else bif l5 then W.drew.drew.alloc (.cells #[.int .i64 y] 3) else W.drew.drew) at s6
        have hcase : i = 0 ∨ i = 1 ∨ i = 2 ∨ i = 3 ∨ i = 4 ∨ i = 5 ∨ i = 6 ∨ i = 7 := by omega
        rcases hcase with rfl | rfl | rfl | rfl | rfl | rfl | rfl | rfl
        · have g0 : l0 = false := by simp [Region.binds] at hi2; simp_all
          have g6 : l6 = false := by cases h : l6 <;> first | rfl | (have h2 := s4 h; simp_all)
          have g7 : l7 = false := by cases h : l7 <;> first | rfl | (have h2 := s5 h; simp_all)
          subst g0; subst g6; subst g7
          cases l5
          all_goals
            clear s1 s2 s3 s4 s5
            simp only [cond_false, cond_true] at s6
            subst s6
            refine wpOpIn_of_list rfl ?_
            gi_wp2
            exact ⟨rfl, (by first | (simp; done) | simpa using HT1.out), (by first | (simp; done) | simpa using HT2.out), (by first | (simp; done) | simpa using HT3.out), (by simp), (by simp), by rfl⟩
        · have g1 : l1 = false := by simp [Region.binds] at hi2; simp_all
          have g3 : l3 = false := by cases h : l3 <;> first | rfl | (have h2 := s1 h; simp_all)
          have g4 : l4 = false := by cases h : l4 <;> first | rfl | (have h2 := s2 h; simp_all)
          have g5 : l5 = false := by cases h : l5 <;> first | rfl | (have h2 := s3 h; simp_all)
          have g6 : l6 = false := by cases h : l6 <;> first | rfl | (have h2 := s4 h; simp_all)
          have g7 : l7 = false := by cases h : l7 <;> first | rfl | (have h2 := s5 h; simp_all)
          subst g1; subst g3; subst g4; subst g5; subst g6; subst g7
          clear s1 s2 s3 s4 s5
          simp only [cond_false, cond_true] at s6
          subst s6
          refine wpOpIn_of_list rfl ?_
          gi_wp2
          exact ⟨rfl, (by simp), (by simp), (by simp), (by simp), (by simp), by rfl⟩
        · have S3 := Lib.hid s6
          clear s6
          refine wpOpIn_of_list rfl ?_
          gi_wp2
          exact ⟨rfl, (by first | (simp; done) | simpa using HT1.out), (by first | (simp; done) | simpa using HT2.out), (by first | (simp; done) | simpa using HT3.out), (by first | (simp; done) | simpa using HT4.out), (by first | (simp; done) | simpa using HT5.out), by exact S3.out⟩
        · have g1 : l1 = true := by simp [Region.binds] at hi2; simp_all
          have g2 : l2 = true := by simp [Region.binds] at hi2; simp_all
          have g3 : l3 = false := by simp [Region.binds] at hi2; simp_all
          have g4 : l4 = false := by cases h : l4 <;> first | rfl | (have h2 := s2 h; simp_all)
          have g5 : l5 = false := by cases h : l5 <;> first | rfl | (have h2 := s3 h; simp_all)
          have g6 : l6 = false := by cases h : l6 <;> first | rfl | (have h2 := s4 h; simp_all)
          have g7 : l7 = false := by cases h : l7 <;> first | rfl | (have h2 := s5 h; simp_all)
          subst g1; subst g2; subst g3; subst g4; subst g5; subst g6; subst g7
          clear s1 s2 s3 s4 s5
          simp only [cond_false, cond_true] at s6
          subst s6
          refine wpOpIn_of_list rfl ?_
          gi_wp2
          exact ⟨rfl, (by simp), (by simp), (by simp), (by simp), (by simp), by rfl⟩
        · have g3 : l3 = true := by simp [Region.binds] at hi2; simp_all
          have g4 : l4 = false := by simp [Region.binds] at hi2; simp_all
          have g1 : l1 = true := s1 g3
          have g5 : l5 = false := by cases h : l5 <;> first | rfl | (have h2 := s3 h; simp_all)
          have g6 : l6 = false := by cases h : l6 <;> first | rfl | (have h2 := s4 h; simp_all)
          have g7 : l7 = false := by cases h : l7 <;> first | rfl | (have h2 := s5 h; simp_all)
          subst g1; subst g3; subst g4; subst g5; subst g6; subst g7
          clear s1 s2 s3 s4 s5
          simp only [cond_false, cond_true] at s6
          subst s6
          refine wpOpIn_of_list rfl ?_
          gi_wp2
          exact ⟨rfl, (by simp), (by simp), (by simp), (by simp), (by simp), by rfl⟩
        · have g4 : l4 = true := by simp [Region.binds] at hi2; simp_all
          have g5 : l5 = false := by simp [Region.binds] at hi2; simp_all
          have g6 : l6 = false := by cases h : l6 <;> first | rfl | (have h2 := s4 h; simp_all)
          have g7 : l7 = false := by cases h : l7 <;> first | rfl | (have h2 := s5 h; simp_all)
          subst g4; subst g5; subst g6; subst g7
          clear s1 s2 s3 s4 s5
          simp only [cond_false, cond_true] at s6
          subst s6
          refine wpOpIn_of_list rfl ?_
          gi_wp2
          exact ⟨rfl, (by first | (simp; done) | simpa using HT1.out), (by first | (simp; done) | simpa using HT2.out), (by simp), (by simp), (by simp), by rfl⟩
        · have g0 : l0 = true := by simp [Region.binds] at hi2; simp_all
          have g5 : l5 = true := by simp [Region.binds] at hi2; simp_all
          have g6 : l6 = false := by simp [Region.binds] at hi2; simp_all
          have g7 : l7 = false := by cases h : l7 <;> first | rfl | (have h2 := s5 h; simp_all)
          subst g0; subst g5; subst g6; subst g7
          clear s1 s2 s3 s4 s5
          simp only [cond_false, cond_true] at s6
          subst s6
          refine wpOpIn_of_list rfl ?_
          refine wpListIn_append_run rfl _ _ 23 23 rfl (.slice ga kl gc) (.slice (some ⟨W.heap.size, 0, none⟩) 1 1) rfl rfl HRUN.out ?_
          gi_wp2
          exact ⟨rfl, (by first | (simp; done) | simpa using HT1.out), (by first | (simp; done) | simpa using HT2.out), (by first | (simp; done) | simpa using HT3.out), (by simp), (by simp), by rfl⟩
        · have g6 : l6 = true := by simp [Region.binds] at hi2; simp_all
          have g7 : l7 = false := by simp [Region.binds] at hi2; simp_all
          obtain ⟨g5, g0⟩ := s4 g6
          have g4 := s3 g5
          have g3 := s2 g4
          have g1 := s1 g3
          subst g0; subst g1; subst g3; subst g4; subst g5; subst g6; subst g7
          clear s1 s2 s3 s4 s5
          simp only [cond_false, cond_true] at s6
          subst s6
          have hv9 := HV9.out
          subst hv9
          refine wpOpIn_of_list rfl ?_
          gi_wp2
          first | exact ⟨rfl, (by simp), (by simp), (by simp), (by simp), (by simp), by rfl⟩ | exact ⟨rfl, by rfl⟩
      case fin =>
        intro listed W'' hsz hall hS
        obtain ⟨l0, l1, l2, l3, l4, l5, l6, l7, rfl⟩ := arr8 listed hsz
        simp at hall
        obtain ⟨rfl, rfl, rfl, rfl, rfl, rfl, rfl, rfl⟩ := hall
        obtain ⟨-, -, -, -, -, s6⟩ := hS
        change W'' = w1.setCell ⟨w.heap.size + 1, 0, none⟩ v' at s6
        subst s6
        gi_wp2
        have hkd : KeepsOthers W W.drew.drew := (KeepsOthers.drew W).trans (KeepsOthers.drew W.drew)
        have hbd : Below w.heap.size W W.drew.drew := (Below.refl _ W).drew.drew
        exact ⟨(hkd.trans HK2.out).from _, hbd.trans HB2.out, ⟨by rw [HC.out]; exact HV2.out, HQ3.out⟩, HB.out.trans (hbd.trans HB2.out)⟩
    · have HC := Lib.hid (HSY.out hcon)
      rw [hcon] at hCON
      clear hcon
      gi_wp2
      refine wpIn_region_still_tail_o (Fence.Open.wide.inRound l) 6 hmx (by kernel_rfl) (by kernel_rfl) ?_
      simp only [List.take_succ_cons, List.take_zero, List.drop_succ_cons, List.drop_zero]
      repeat still_step
      still_call (hCON.mono fun _ _ h => ⟨h.1, h.2.symm⟩)
      repeat still_step
      refine wpStill_nil ?_
      change wpListIn _ _ _ _ _ _ _ W.drew
      gi_wp2
      exact ⟨(KeepsOthers.drew W).from _, (Below.refl _ W).drew, ⟨by rw [HC.out]; exact HV.out, HQ.out⟩, HB.out.drew⟩
  case done =>
    rintro E ys W hE hys ⟨⟨hv, q0⟩, hB⟩ hK
    rw [hys] at hv
    obtain ⟨ga, gc, hvb, hrow⟩ := hv.ints
    have d0 := (blk_cell hvb 0).trans (cell1_0 _)
    have HB := Lib.hid hB
    have HK2 := Lib.hid hK
    have HEs : Hid (w.heap.size ≤ E) := Lib.hid (by have := HS3.out; have := HS2.out; omega)
    clear hv hvb hrow q0 hB hK hys
    gi_wp2
    refine ⟨by simp, .inl ⟨_, _, rfl, run_takeDeferred HK2.out, ?_⟩⟩
    exact ⟨_, by simp [results, Tryd.f136, go_sem], rfl, HB.out.trans (belowK_b (w := w) (Nat.le_refl _) _ E _ _ HEs.out HK2.out rfl rfl)⟩
  case stop =>
    rintro E c' pre W hE hp h hK
    exact h.elim

end Go.Proofs.YtacglafoahmcnaaDoor
