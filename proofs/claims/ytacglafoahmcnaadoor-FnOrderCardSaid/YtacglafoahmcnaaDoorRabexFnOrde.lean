/- It is proved what around returns; conditions: those of each statement. -/
import Derived.RowKit
import Derived.Laws.CopyRow
import Derived.Lib.SlBuf
import Derived.Deep.QuietTactic
import Derived.RangeFuncNested
import Derived.RangeFuncBound
import Derived.RangeFuncCalls
import Derived.RangeFuncLeaves
import Derived.RangeFuncBox
import Derived.RangeFuncWrites
import Derived.StillTailTactics
import Derived.Maps.OwnIn
import Derived.Maps.Ext
import Derived.DeepKeys4
import Derived.MapKept
import Derived.Test.YtacglafoahmcnaaDoorRows
import Derived.WalkKit
import Derived.WalkSpells
import Derived.ProofKit
import Derived.OpenShut
import Derived.ShutString
import Derived.ChangeOld
import Derived.Below
import Derived.Deep.RegionHeld3
import Derived.BigQuiet
import Derived.Lib.Hide
import Derived.Lib.SmallJoins
import Derived.Outline
import Derived.Laws.MakeOwn
import Derived.Laws.OwnMore
import Derived.IntWalk
import Derived.Lib.AppendZeros
import Derived.Maps.AppendAt
import Derived.Deep.AppendLies
import Derived.OwnWalk
import Derived.Lib.SlicesCompact
import Derived.Lib.OwnBridge
import Derived.OrdersIn
import Derived.TacticsIn
import Derived.Shelf.Sort.Plain
import Derived.Shelf.Slices.In.SortNone
import Derived.Shelf.Slices.CompactI
import Derived.Ground.Names2Prog
import Derived.Lib.SliceRun
import Derived.Shelf.Abstract
import Derived.Shelf.RegionOpen
import Derived.OwnWalkIn
import Derived.TacticsInMore
import Derived.LoopNIn
import Derived.LoopIn
import Derived.StillTail
import Derived.StillTactics
import Derived.Shelf.Spec.TrailingZeros
import Derived.Deep.LoopGhost
import Derived.Test.YtacglafoahmcnaaDoorRaaa
import Derived.Test.YtacglafoahmcnaaDoorRaac
import Derived.Test.YtacglafoahmcnaaDoorRaag
import Derived.Test.YtacglafoahmcnaaDoorRaal
import Derived.Test.YtacglafoahmcnaaDoorRaam
import Derived.Test.YtacglafoahmcnaaDoorRaad
import Derived.Test.YtacglafoahmcnaaDoorRabdxFnOrde
import Derived.Test.YtacglafoahmcnaaDoorRaab
import Derived.Test.YtacglafoahmcnaaDoorTb
import Derived.Test.YtacglafoahmcnaaDoorYa
import Derived.Test.YtacglafoahmcnaaDoorRabcxFnOrde
import Derived.Test.YtacglafoahmcnaaDoorRaaw
import Derived.Deep.RegionLaw
import Derived.Test.YtacglafoahmcnaaDoorRaazxFnOrde
import Derived.Test.YtacglafoahmcnaaDoorRaae
namespace Go.Proofs.YtacglafoahmcnaaDoor
open Go.RowKit Go.Shelf

attribute [local go_sem] Oper.semAt_some

set_option maxRecDepth 100000 in
set_option maxHeartbeats 4000000 in
theorem around_any (k : Nat) (hk6 : k ≤ 6) (a : Option Addr) (c : Nat) (zs : List Int) (t : Nat) (ht : t < 6) (w : World) (ha : Ints w w.heap.size a zs) (h8 : zs.length ≤ 8) (hz : Sets k zs) :
    Calls Tryd.prog 126 #[.agg #[.int .i64 (k : Int), .slice a zs.length c], .int .i64 (t : Int)] w fun e w' => e = .returned (.int .i64 ((arN t zs : Nat) : Int)) ∧ Below w.heap.size w w' := by
  have h16 : 1 ≤ 6 := by omega
  obtain ⟨W2, hW2, q0, q1, hs2, hb2⟩ : ∃ W2, (w.alloc (.cells #[.int .i64 (k : Int), .slice a zs.length c] 25)).alloc (.cells #[.int .i64 (t : Int)] 3) = W2 ∧ HasBlk W2 w.heap.size #[.int .i64 (k : Int), .slice a zs.length c] 25 ∧ HasBlk W2 (w.heap.size + 1) #[.int .i64 (t : Int)] 3 ∧ W2.heap.size = w.heap.size + 1 + 1 ∧ Below w.heap.size w W2 :=
    ⟨_, rfl, alloc2_0 w _ _, alloc2_1 w _ _, by simp, below2 w _ _⟩
  obtain ⟨W3, hW3, p0, p1, p2, hs3, hb3⟩ : ∃ W3, W2.alloc (.cells #[.int .i64 0] 50) = W3 ∧ HasBlk W3 w.heap.size #[.int .i64 (k : Int), .slice a zs.length c] 25 ∧ HasBlk W3 (w.heap.size + 1) #[.int .i64 (t : Int)] 3 ∧ HasBlk W3 W2.heap.size #[.int .i64 0] 50 ∧ W3.heap.size = W2.heap.size + 1 ∧ Below W2.heap.size W2 W3 :=
    ⟨_, rfl, HasBlk.alloc q0 _, HasBlk.alloc q1 _, alloc_new W2 _, by simp, below1 W2 _⟩
  obtain ⟨W4, hW4, r3, hs4, hb4⟩ : ∃ W4, W3.alloc (.cells #[.int .i64 (k : Int), .slice a zs.length c] 25) = W4 ∧ HasBlk W4 W3.heap.size #[.int .i64 (k : Int), .slice a zs.length c] 25 ∧ W4.heap.size = W3.heap.size + 1 ∧ Below W3.heap.size W3 W4 :=
    ⟨_, rfl, alloc_new W3 _, by simp, below1 W3 _⟩
  have hb24 := hb3.trans (hb4.mono (show W2.heap.size ≤ W3.heap.size by omega))
  have hb04 := hb2.trans (hb24.mono (by omega))
  have y0 := (blk_cell p0 0).trans (cell2_0 _ _)
  have y1 := (blk_cell p0 1).trans (cell2_1 _ _)
  rw [← hW3] at y0 y1
  rw [hs3] at r3
  have hst := clubsP_stops (IsSet k) (6 - 1) (by omega) (W2.heap.size + 1) w.heap.size a c zs (by omega) hz.at_ W4 (by omega) (by omega) ((blk_cell r3 1).trans (cell2_1 _ _)) (ha.below hb04)
  have HST := Lib.hid hst
  have HB4 := Lib.hid hb04
  have HQ1 : Hid (HasBlk W4 (w.heap.size + 1) #[.int .i64 (t : Int)] 3) := Lib.hid ((hb4.block _ (by omega)).trans p1)
  have HQ2 : Hid (HasBlk W4 W2.heap.size #[.int .i64 0] 50) := Lib.hid ((hb4.block _ (by omega)).trans p2)
  have HW3 := Lib.hid hW3
  have HW4 := Lib.hid hW4
  have HS2 := Lib.hid hs2
  have HS3 := Lib.hid hs3
  have HS4 := Lib.hid hs4
  clear ha q0 q1 hb2 hW3 p0 p1 p2 hs3 hb3 hW4 r3 hs4 hb4 hb24 hb04 hst hs2 h8
  refine (callsIn_wide (n := 6)).1 ?_
  refine callsIn_of_wp_marks Tryd.func126 rfl trivial ?_ rfl
  simp only [Tryd.ntmps126, List.size_toArray, List.length_cons, List.length_nil, Nat.reduceAdd, Nat.reduceSub, Array.replicate_succ, Array.replicate_zero, List.push_toArray, List.append_toArray, List.nil_append, List.cons_append]
  gi_wp2_with (refine ⟨trivial, ?_⟩; gi_at_call 48; refine (callsIn_wide.2 (clubs_any _ _ _ _ _)).mono ?_; rintro e w' ⟨rfl, rfl⟩)
  rw [HW3.out, HW4.out]
  clear hW2 y0 y1
  refine wpIn_rangeFunc_ownG rfl h16 (gf := 88) (lb := #[.pointer (some ⟨W2.heap.size + 1, 0, none⟩)]) rfl trivial (enters_of Tryd.func88 (by kernel_rfl) rfl)
    HST.out belowK_t (belowK_b (by have := HS2.out; have := HS4.out; have := HS3.out; omega)) (Below.refl _ _) (fun _ => rfl)
    (fun pre W => ((HasBlk W (w.heap.size + 1) #[.int .i64 (t : Int)] 3 ∧ HasBlk W W2.heap.size #[.int .i64 ((arN t (sndL pre) : Nat) : Int)] 50) ∧ arN t (sndL pre) < 64) ∧ Below w.heap.size w W)
    (fun _ _ _ => False)
    ?own (fun _ _ _ _ _ hs _ _ => hs)
    ⟨⟨⟨HQ1.out, HQ2.out⟩, by show 0 < 64; decide⟩, HB4.out⟩
    (fun x => { tmps := #[.agg #[.int .i64 (k : Int), .slice a zs.length c], .int .i64 (t : Int), .pointer (some ⟨w.heap.size, 0, none⟩), .pointer (some ⟨w.heap.size + 1, 0, none⟩), .int .i64 0, .pointer (some ⟨W2.heap.size, 0, none⟩), undef, .int .i64 x.1.2, .agg #[.int .i64 (k : Int), .slice a zs.length c], .func (.func 88) #[] #[.pointer (some ⟨W2.heap.size + 1, 0, none⟩)], .int .i64 (x.1.1 : Int), .int .i64 x.1.2, undef, undef, undef, undef, undef, undef, undef], defers := [] }) ?assign ?body ?done ?stop
  case own =>
    rintro s A' B row ⟨⟨⟨h1, h2⟩, h3⟩, h5⟩ hg hr
    have hr' : ∀ (b : Nat) (cs : Array Value) (t : TypeId), HasBlk A' b cs t → row ≠ some b := fun b cs t hb e => by
      obtain ⟨-, o, ho, hc⟩ := hr b e
      rw [show A'.heap[b]? = _ from hb] at ho; cases ho; cases hc
    exact ⟨⟨⟨h1.kept hg (hr' _ _ _ h1), h2.kept hg (hr' _ _ _ h2)⟩, h3⟩, h5.grown hg (by have := h5.size; omega) (fun r e => by have := (hr r e).1; have := HS2.out; have := HS3.out; have := HS4.out; omega)⟩
  case assign =>
    intro l x W K hK
    gi_wp2
    exact hK
  case body =>
    rintro l pre x W ⟨⟨⟨h1, h2⟩, hlt64⟩, hB⟩ hlt
    obtain ⟨z, hzz⟩ : ∃ z : Nat, x.1.2 = (z : Int) := ⟨x.1.2.toNat, by have := x.2.1; omega⟩
    have hz64 : z < 64 := by have := p64 hk6 x.2.2; rw [hzz] at this; simpa using this
    have HSN : Hid (arN t (sndL (pre ++ [x])) = if z.testBit t = true then arN t (sndL pre) ||| z else arN t (sndL pre)) := Lib.hid (by rw [sndL_snoc, arN_snoc, hzz]; unfold Bt; rw [Int.toNat_natCast])
    obtain ⟨C, hC⟩ : ∃ C, C = arN t (sndL pre) := ⟨_, rfl⟩
    rw [← hC] at HSN h2 hlt64
    have t0 := (blk_cell h1 0).trans (cell1_0 _)
    have m0 := (blk_cell h2 0).trans (cell1_0 _)
    have m1 := blk_frozen h2 0
    have H1 := Lib.hid h1
    have H2 := Lib.hid h2
    have HB := Lib.hid hB
    have HP := Lib.hid (has_any z t hz64 ht W)
    have hl1 : w.heap.size + 1 ≠ W2.heap.size := by have := HS2.out; omega
    have hl0 : w.heap.size ≤ W2.heap.size := by have := HS2.out; omega
    have hor : bits .or .i64 (C : Int) (z : Int) = ((C ||| z : Nat) : Int) := or_at6 hlt64 hz64
    have hor64 : C ||| z < 64 := Nat.or_lt_two_pow (n := 6) hlt64 hz64
    have HL64 := Lib.hid hlt64
    rw [hzz]
    clear h1 h2 hB hC hlt hlt64
    cases hp : z.testBit t
    · have HPP := Lib.hid hp
      have HE : Hid (arN t (sndL (pre ++ [x])) = C) := Lib.hid (by rw [HSN.out, hp]; simp)
      clear hp
      gi_wp2_with (refine ⟨trivial, ?_⟩; gi_at_call 108; refine (CallsIn.inRound l (callsIn_wide.2 HP.out)).mono ?_; rintro e w' ⟨rfl, rfl⟩; rw [HPP.out])
      exact ⟨KeepsFrom.refl _ _, Below.refl _ _, ⟨⟨H1.out, by rw [HE.out]; exact H2.out⟩, by rw [HE.out]; exact HL64.out⟩, HB.out⟩
    · have HPP := Lib.hid hp
      have HE : Hid (arN t (sndL (pre ++ [x])) = C ||| z) := Lib.hid (by rw [HSN.out, hp]; simp)
      clear hp
      gi_wp2_with (refine ⟨trivial, ?_⟩; gi_at_call 108; refine (CallsIn.inRound l (callsIn_wide.2 HP.out)).mono ?_; rintro e w' ⟨rfl, rfl⟩; rw [HPP.out])
      refine ⟨(KeepsOthers.setCell _ _ _).from _, (Below.refl _ _).setCell (p := ⟨W2.heap.size, 0, none⟩) (by show w.heap.size ≤ W2.heap.size; exact hl0) _, ⟨⟨HasBlk.far H1.out (show w.heap.size + 1 ≠ W2.heap.size from hl1) _, ?_⟩, by rw [HE.out]; exact hor64⟩, HB.out.setCell (p := ⟨W2.heap.size, 0, none⟩) (by show w.heap.size ≤ W2.heap.size; exact hl0) _⟩
      rw [HE.out]
      exact Boxed.set _ H2.out
  case done =>
    rintro E ys W hE hys ⟨⟨⟨-, h2⟩, -⟩, hB⟩ hK
    rw [sndL_all hys] at h2
    have c0 := (blk_cell h2 0).trans (cell1_0 _)
    have HB := Lib.hid hB
    have HK := Lib.hid hK
    have HEs : Hid (w.heap.size ≤ E) := Lib.hid (by have := HS2.out; have := HS3.out; have := HS4.out; omega)
    clear h2 hB hK hys
    gi_wp2
    refine ⟨by simp, .inl ⟨_, _, rfl, run_takeDeferred HK.out, ?_⟩⟩
    exact ⟨.int .i64 ((arN t zs : Nat) : Int), by simp [results, Tryd.results126, go_sem], rfl, HB.out.trans (belowK_b (w := w) (Nat.le_refl _) W E _ _ HEs.out HK.out rfl rfl)⟩
  case stop =>
    rintro D c pre W _ _ h _
    exact h.elim

end Go.Proofs.YtacglafoahmcnaaDoor

/- It is proved what mayLeave returns; conditions: those of each statement. -/
namespace Go.Proofs.YtacglafoahmcnaaDoor
open Go.RowKit

theorem idxX_any {zs : List Int} {x r : Int} (h : IdxR x zs r) : decide (0 ≤ r) = zs.any fun z => decide (z = x) := by
  rcases h with ⟨rfl, h⟩ | ⟨k, rfl, hk, hz, -⟩
  · have : (zs.any fun z => decide (z = x)) = false := List.any_eq_false.2 fun z hz => by
      obtain ⟨j, hj, rfl⟩ := List.getElem_of_mem hz
      have := h j hj
      rw [List.getElem?_eq_getElem hj] at this
      simpa using this
    rw [this]; rfl
  · have : (zs.any fun z => decide (z = x)) = true := List.any_eq_true.2 ⟨zs[k], List.getElem_mem _, by
      rw [List.getElem?_eq_getElem hk] at hz
      simpa using hz⟩
    rw [this, decide_eq_true (by omega)]

set_option maxRecDepth 100000 in
theorem containsX_any (a : Option Addr) (c : Nat) (zs : List Int) (x : Int) (w : World) (ha : Ints w w.heap.size a zs) (hx : zs.length ≤ 1048576) :
    Calls Tryd.prog 127 #[.slice a zs.length c, .int .i64 x] w fun e w' => e = .returned (.bool (zs.any fun z => decide (z = x))) ∧ w = w' := by
  go_enter Tryd.func127, Tryd.ntmps127
  go_wp2_with fail
  refine (indexI_any a c zs x w ha hx).mono ?_
  rintro e w1 ⟨⟨r, rfl, hr⟩, rfl⟩
  have HR := Lib.hid (idxX_any hr)
  clear hr
  go_wp2
  go_ret
  exact ⟨by rw [← HR.out]; rfl, rfl⟩

set_option maxRecDepth 100000 in
set_option maxHeartbeats 1600000 in
theorem mayLeave_any (k : Nat) (hk6 : k ≤ 6) (a : Option Addr) (c : Nat) (zs : List Int) (t : Nat) (ht : t < 6) (w : World) (ha : Ints w w.heap.size a zs) (h8 : zs.length ≤ 8) (hz : Sets k zs) :
    Calls Tryd.prog 94 #[.agg #[.int .i64 (k : Int), .slice a zs.length c], .int .i64 (t : Int)] w fun e w' => e = .returned (.bool (leavB t zs)) ∧ Below w.heap.size w w' := by
  have F1 := FB.start (m := (k : Int)) (c := c) ha
  have HB0 := Lib.hid (below1 w (.cells #[.int .i64 (k : Int), .slice a zs.length c] 25))
  have HF1 := Lib.hid F1
  have HAR := Lib.hid (around_any k hk6 a c zs t ht _ F1.ints h8 hz)
  have HCO : Hid (∀ x W, Ints W W.heap.size a zs → Calls Tryd.prog 127 #[.slice a zs.length c, .int .i64 x] W fun e w' => e = .returned (.bool (zs.any fun z => decide (z = x))) ∧ W = w') := Lib.hid fun x W h => containsX_any a c zs x W h (by omega)
  have HLV : Hid (leavB t zs = (decide (arN t zs = 0) || zs.any fun z => decide (z = ((arN t zs : Nat) : Int)))) := Lib.hid rfl
  obtain ⟨A, hA⟩ : ∃ A, A = arN t zs := ⟨_, rfl⟩
  rw [← hA] at HAR HLV
  have f_0 := F1.x0
  have f_1 := F1.x1
  clear F1 ha hz hA
  go_enter Tryd.func94, Tryd.ntmps94
  go_wp2_with fail
  refine HAR.out.mono ?_
  rintro e w2 ⟨rfl, hb2⟩
  have HF2 := Lib.hid (HF1.out.step hb2)
  have HB2 := Lib.hid (HB0.out.trans (hb2.mono (by simp)))
  clear hb2 f_0 f_1 HF1 HB0 HAR
  have f_0 := HF2.out.x0
  have f_1 := HF2.out.x1
  by_cases h0 : A = 0
  · subst h0
    have HR : Hid (leavB t zs = true) := Lib.hid (by rw [HLV.out]; rfl)
    clear HLV
    go_wp2
    go_ret
    exact ⟨by rw [HR.out]; rfl, HB2.out⟩
  · have hb1 : ((A : Int) == 0) = false := by rw [beq_eq_false_iff_ne]; omega
    have hb2 : (A == 0) = false := by rw [beq_eq_false_iff_ne]; exact h0
    obtain ⟨D, hD⟩ : ∃ D, D = (zs.any fun z => decide (z = (A : Int))) := ⟨_, rfl⟩
    have HC := Lib.hid (HCO.out (A : Int) w2 HF2.out.ints)
    rw [← hD] at HC HLV
    have HR : Hid (leavB t zs = D) := Lib.hid (by rw [HLV.out, decide_eq_false h0, Bool.false_or])
    clear hD HLV h0
    go_wp2_with fail
    refine HC.out.mono ?_
    rintro e w3 ⟨rfl, rfl⟩
    go_wp2
    go_ret
    exact ⟨by rw [HR.out]; rfl, HB2.out⟩

end Go.Proofs.YtacglafoahmcnaaDoor

/- It is proved what firstLeaving returns; conditions: those of each statement. -/
namespace Go.Proofs.YtacglafoahmcnaaDoor
open Go.RowKit Go.Shelf

attribute [local go_sem] Oper.semAt_some

def firstV (zs : List Int) (t : Nat) : Option Nat := (memK 8 t).find? fun v => leavB v zs
set_option maxRecDepth 100000 in
set_option maxHeartbeats 4000000 in
theorem firstLeaving_any (k : Nat) (hk6 : k ≤ 6) (a : Option Addr) (c : Nat) (zs : List Int) (t : Nat) (ht : t < 64) (w : World) (ha : Ints w w.heap.size a zs) (h8 : zs.length ≤ 8) (hz : Sets k zs) (hT : Tab w) :
    Calls Tryd.prog 58 #[.agg #[.int .i64 (k : Int), .slice a zs.length c], .int .i64 (t : Int)] w fun e w' => e = .returned (.tuple #[.int .i64 (((firstV zs t).getD 0 : Nat) : Int), .bool (firstV zs t).isSome]) ∧ Below w.heap.size w w' := by
  have hT1 := hT.lt
  have h16 : 1 ≤ 6 := by omega
  obtain ⟨W3, hW3, q0, q1, q2, hs3, hb3⟩ : ∃ W3, ((w.alloc (.cells #[.int .i64 (k : Int), .slice a zs.length c] 25)).alloc (.cells #[.int .i64 0] 3)).alloc (.cells #[.bool false] 4) = W3 ∧ HasBlk W3 w.heap.size #[.int .i64 (k : Int), .slice a zs.length c] 25 ∧ HasBlk W3 (w.heap.size + 1) #[.int .i64 0] 3 ∧ HasBlk W3 (w.heap.size + 1 + 1) #[.bool false] 4 ∧ W3.heap.size = w.heap.size + 1 + 1 + 1 ∧ Below w.heap.size w W3 :=
    ⟨_, rfl, alloc3_0 w _ _ _, alloc3_1 w _ _ _, alloc3_2 w _ _ _, by simp, below3 w _ _ _⟩
  obtain ⟨W4, hW4, r3, hs4, hb4⟩ : ∃ W4, W3.alloc (.cells #[.int .i64 (t : Int)] 50) = W4 ∧ HasBlk W4 (w.heap.size + 1 + 1 + 1) #[.int .i64 (t : Int)] 50 ∧ W4.heap.size = W3.heap.size + 1 ∧ Below W3.heap.size W3 W4 :=
    ⟨_, rfl, by have := alloc_new W3 (.cells #[.int .i64 (t : Int)] 50); rwa [hs3] at this, by simp, below1 W3 _⟩
  have hb04 := hb3.trans (hb4.mono (show w.heap.size ≤ W3.heap.size by omega))
  have HQ0 : Hid (HasBlk W4 w.heap.size #[.int .i64 (k : Int), .slice a zs.length c] 25) := Lib.hid ((hb4.block _ (by omega)).trans q0)
  have HQ1 : Hid (HasBlk W4 (w.heap.size + 1) #[.int .i64 0] 3) := Lib.hid ((hb4.block _ (by omega)).trans q1)
  have HQ2 : Hid (HasBlk W4 (w.heap.size + 1 + 1) #[.bool false] 4) := Lib.hid ((hb4.block _ (by omega)).trans q2)
  have hst := membersW_stops (6 - 1) (by omega) (w.heap.size + 1 + 1 + 1) w.heap.size t (by omega) W4 (by omega) (by omega) (by omega) ((blk_cell r3 0).trans (cell1_0 _)) (hT.below hb04 hT1)
  have HST := Lib.hid hst
  have HB4 := Lib.hid hb04
  have HI := Lib.hid ha
  have HML : Hid (∀ v W, v < 6 → Ints W W.heap.size a zs → Calls Tryd.prog 94 #[.agg #[.int .i64 (k : Int), .slice a zs.length c], .int .i64 ((v : Nat) : Int)] W fun e w' => e = .returned (.bool (leavB v zs)) ∧ Below W.heap.size W w') := Lib.hid fun v W hv hi => mayLeave_any k hk6 a c zs v hv W hi h8 hz
  have HW3 := Lib.hid hW3
  have HW4 := Lib.hid hW4
  have HS3 := Lib.hid hs3
  have HS4 := Lib.hid hs4
  clear ha q0 q1 q2 r3 hb3 hb4 hb04 hst hW3 hW4 hs3 hs4 hT hz
  refine (callsIn_wide (n := 6)).1 ?_
  refine callsIn_of_wp_marks Tryd.func58 rfl trivial ?_ rfl
  simp only [Tryd.ntmps58, List.size_toArray, List.length_cons, List.length_nil, Nat.reduceAdd, Nat.reduceSub, Array.replicate_succ, Array.replicate_zero, List.push_toArray, List.append_toArray, List.nil_append, List.cons_append]
  gi_wp2_with (refine ⟨trivial, ?_⟩; gi_at_call 49; refine (callsIn_wide.2 (members_any _ _)).mono ?_; rintro e w' ⟨rfl, rfl⟩)
  rw [HW3.out, HW4.out]
  refine wpIn_rangeFunc_ownG rfl h16 (gf := 89) (lb := #[.pointer (some ⟨w.heap.size + 1 + 1 + 1, 0, none⟩)]) rfl trivial (enters_of Tryd.func89 (by kernel_rfl) rfl)
    HST.out belowK_t (belowK_b (by have := HS3.out; have := HS4.out; omega)) (Below.refl _ _) (fun _ => rfl)
    (fun pre W => ((∀ u ∈ valsW pre, leavB u zs = false) ∧ HasBlk W w.heap.size #[.int .i64 (k : Int), .slice a zs.length c] 25 ∧ HasBlk W (w.heap.size + 1) #[.int .i64 0] 3 ∧ HasBlk W (w.heap.size + 1 + 1) #[.bool false] 4) ∧ Below w.heap.size w W)
    (fun c' pre W => (c' = .ret ∧ ∃ (v : Nat) (us : List Nat), (valsW pre = us ++ [v] ∧ (∀ u ∈ us, leavB u zs = false) ∧ leavB v zs = true) ∧ HasBlk W (w.heap.size + 1) #[.int .i64 (v : Int)] 3 ∧ HasBlk W (w.heap.size + 1 + 1) #[.bool true] 4) ∧ Below w.heap.size w W)
    ?own ?ownx
    ⟨⟨by simp [valsW], HQ0.out, HQ1.out, HQ2.out⟩, HB4.out⟩
    (fun x => { tmps := #[.agg #[.int .i64 (k : Int), .slice a zs.length c], .int .i64 (t : Int), .pointer (some ⟨w.heap.size, 0, none⟩), undef, .pointer (some ⟨w.heap.size + 1, 0, none⟩), .pointer (some ⟨w.heap.size + 1 + 1, 0, none⟩), .int .i64 (x.1 : Int), .int .i64 (t : Int), .func (.func 89) #[] #[.pointer (some ⟨w.heap.size + 1 + 1 + 1, 0, none⟩)], .int .i64 (x.1 : Int), undef, undef, undef, undef], defers := [] }) ?assign ?body ?done ?stop
  case own =>
    rintro s A B row ⟨⟨h1, h2, h3, h4⟩, h5⟩ hg hr
    have hr' : ∀ (b : Nat) (cs : Array Value) (t : TypeId), HasBlk A b cs t → row ≠ some b := fun b cs t hb e => by
      obtain ⟨-, o, ho, hc⟩ := hr b e
      rw [show A.heap[b]? = _ from hb] at ho; cases ho; cases hc
    exact ⟨⟨h1, h2.kept hg (hr' _ _ _ h2), h3.kept hg (hr' _ _ _ h3), h4.kept hg (hr' _ _ _ h4)⟩, h5.grown hg (by have := h5.size; omega) (fun r e => by have := (hr r e).1; have := HS3.out; have := HS4.out; omega)⟩
  case ownx =>
    rintro c' s A B row ⟨⟨h1, v, us, h2, h3, h4⟩, h5⟩ hg hr
    have hr' : ∀ (b : Nat) (cs : Array Value) (t : TypeId), HasBlk A b cs t → row ≠ some b := fun b cs t hb e => by
      obtain ⟨-, o, ho, hc⟩ := hr b e
      rw [show A.heap[b]? = _ from hb] at ho; cases ho; cases hc
    exact ⟨⟨h1, v, us, h2, h3.kept hg (hr' _ _ _ h3), h4.kept hg (hr' _ _ _ h4)⟩, h5.grown hg (by have := h5.size; omega) (fun r e => by have := (hr r e).1; have := HS3.out; have := HS4.out; omega)⟩
  case assign =>
    intro l x W K hK
    gi_wp2
    exact hK
  case body =>
    rintro l pre ⟨x, hxm⟩ W ⟨⟨hno, h1, h2, h3⟩, hB⟩ hlt
    obtain ⟨xx, hxx⟩ : ∃ xx : MemW t, xx = ⟨x, hxm⟩ := ⟨_, rfl⟩
    have hx6 : x < 6 := bit_six ht (List.mem_filter.1 hxm).2
    have HVS : Hid (valsW (pre ++ [xx]) = valsW pre ++ [x]) := Lib.hid (by rw [valsW_snoc, hxx])
    have x0 := (blk_cell h1 0).trans (cell2_0 _ _)
    have x1 := (blk_cell h1 1).trans (cell2_1 _ _)
    have hWs : w.heap.size ≤ W.heap.size := hB.size
    have HC := Lib.hid (HML.out x W hx6 ((HI.out.below hB).mono hWs))
    have HNO := Lib.hid hno
    have H1 := Lib.hid h1
    have H2 := Lib.hid h2
    have H3 := Lib.hid h3
    have HB := Lib.hid hB
    dsimp only
    rw [← hxx]
    clear h1 h2 h3 hB hxm hxx hno
    cases hl : leavB x zs
    · have HL := Lib.hid hl
      rw [hl] at HC
      clear hl
      gi_wp2_with (refine ⟨trivial, ?_⟩; gi_at_call 94; refine (CallsIn.inRound l (callsIn_wide.2 HC.out)).mono ?_; rintro e w5 ⟨rfl, hb5⟩; have HB5 := Lib.hid hb5; clear hb5)
      have hks : KeepsFrom W4.heap.size W w5 := ⟨HB5.out.size, fun k o _ hk _ => (HB5.out.block k (lt_of_some hk)).trans hk⟩
      have hbw5 : Below w.heap.size W w5 := HB5.out.mono HB.out.size
      refine ⟨hks, hbw5, ⟨fun u hu => ?_, (HB5.out.block _ (lt_of_some H1.out)).trans H1.out, (HB5.out.block _ (lt_of_some H2.out)).trans H2.out, (HB5.out.block _ (lt_of_some H3.out)).trans H3.out⟩, HB.out.trans hbw5⟩
      rw [HVS.out] at hu
      rcases List.mem_append.1 hu with h | h
      · exact HNO.out u h
      · rw [List.mem_singleton.1 h]; exact HL.out
    · have HL := Lib.hid hl
      rw [hl] at HC
      clear hl
      gi_wp2_with (refine ⟨trivial, ?_⟩; gi_at_call 94; refine (CallsIn.inRound l (callsIn_wide.2 HC.out)).mono ?_; rintro e w5 ⟨rfl, hb5⟩; have HB5 := Lib.hid hb5; have h2' : HasBlk w5 (w.heap.size + 1) #[.int .i64 0] 3 := (HB5.out.block _ (lt_of_some H2.out)).trans H2.out; have h3' : HasBlk w5 (w.heap.size + 1 + 1) #[.bool false] 4 := (HB5.out.block _ (lt_of_some H3.out)).trans H3.out; have H2' := Lib.hid h2'; have H3' := Lib.hid h3'; have d0 := (blk_cell h2' 0).trans (cell1_0 _); have d1 := blk_frozen h2' 0; have e0 := (blk_cell h3' 0).trans (cell1_0 _); have e1 := blk_frozen h3' 0; clear hb5 h2' h3')
      have hks : KeepsFrom W4.heap.size W w5 := ⟨HB5.out.size, fun k o _ hk _ => (HB5.out.block k (lt_of_some hk)).trans hk⟩
      have hbw5 : Below w.heap.size W w5 := HB5.out.mono HB.out.size
      refine ⟨(hks.trans ((KeepsOthers.setCell _ _ _).from _)).trans ((KeepsOthers.setCell _ _ _).from _), ⟨rfl, x, valsW pre, ⟨HVS.out, HNO.out, HL.out⟩, HasBlk.far (Boxed.set _ H2'.out) (show w.heap.size + 1 ≠ w.heap.size + 1 + 1 by omega) _, Boxed.set _ (HasBlk.far H3'.out (show w.heap.size + 1 + 1 ≠ w.heap.size + 1 by omega) _)⟩, ((HB.out.trans hbw5).setCell (p := ⟨w.heap.size + 1, 0, none⟩) (by show w.heap.size ≤ w.heap.size + 1; omega) _).setCell (p := ⟨w.heap.size + 1 + 1, 0, none⟩) (by show w.heap.size ≤ w.heap.size + 1 + 1; omega) _⟩
  case done =>
    rintro E ys W hE hys ⟨⟨hno, h1, h2, h3⟩, hB⟩ hK
    rw [hys] at hno
    have HF : Hid (firstV zs t = none) := Lib.hid (List.find?_eq_none.2 fun v hv => by rw [hno v hv]; simp)
    have d0 := (blk_cell h2 0).trans (cell1_0 _)
    have d1 := blk_frozen h2 0
    have e0 := (blk_cell h3 0).trans (cell1_0 _)
    have e1 := blk_frozen h3 0
    have hK2 := (KeepsOthers.setCell (W.setCell ⟨w.heap.size + 1, 0, none⟩ (.int .i64 0)) ⟨w.heap.size + 1 + 1, 0, none⟩ (.bool false)).same E _ ((KeepsOthers.setCell W ⟨w.heap.size + 1, 0, none⟩ (.int .i64 0)).same E _ hK rfl) rfl
    have hne1 : w.heap.size + 1 ≠ E := fun e => by subst e; rw [show W.heap[w.heap.size + 1]? = _ from h2] at hK; cases hK
    have hne2 : w.heap.size + 1 + 1 ≠ E := fun e => by subst e; rw [show W.heap[w.heap.size + 1 + 1]? = _ from h3] at hK; cases hK
    have hb2 : HasBlk (((W.setCell ⟨w.heap.size + 1, 0, none⟩ (.int .i64 0)).setCell ⟨w.heap.size + 1 + 1, 0, none⟩ (.bool false)).putObj E (.deferred none)) (w.heap.size + 1) #[.int .i64 0] 3 := (World.putObj_heap_other (by first | exact hne1 | exact Ne.symm hne1)).trans (HasBlk.far (Boxed.set _ h2) (show w.heap.size + 1 ≠ w.heap.size + 1 + 1 by omega) _)
    have hb3 : HasBlk (((W.setCell ⟨w.heap.size + 1, 0, none⟩ (.int .i64 0)).setCell ⟨w.heap.size + 1 + 1, 0, none⟩ (.bool false)).putObj E (.deferred none)) (w.heap.size + 1 + 1) #[.bool false] 4 := (World.putObj_heap_other (by first | exact hne2 | exact Ne.symm hne2)).trans (Boxed.set _ (HasBlk.far h3 (show w.heap.size + 1 + 1 ≠ w.heap.size + 1 by omega) _))
    have g0 := (blk_cell hb2 0).trans (cell1_0 _)
    have g1 := (blk_cell hb3 0).trans (cell1_0 _)
    have HB := Lib.hid ((hB.setCell (p := ⟨w.heap.size + 1, 0, none⟩) (by show w.heap.size ≤ w.heap.size + 1; omega) (.int .i64 0)).setCell (p := ⟨w.heap.size + 1 + 1, 0, none⟩) (by show w.heap.size ≤ w.heap.size + 1 + 1; omega) (.bool false))
    have HK2 := Lib.hid hK2
    have HEs : Hid (w.heap.size ≤ E) := Lib.hid (by have := HS3.out; have := HS4.out; omega)
    clear hno h1 h2 h3 hB hK hK2 hb2 hb3 hys
    gi_wp2
    refine ⟨by simp, .inl ⟨_, _, rfl, run_takeDeferred HK2.out, ?_⟩⟩
    exact ⟨.tuple #[.int .i64 0, .bool false], by simp [results, Tryd.f58, go_sem, g0, g1], by rw [HF.out]; rfl, HB.out.trans (belowK_b (w := w) (Nat.le_refl _) _ E _ _ HEs.out HK2.out rfl rfl)⟩
  case stop =>
    rintro E c' pre W hE hp ⟨⟨rfl, v, us, ⟨hvs, hno, hl⟩, h2, h3⟩, hB⟩ hK
    have HF : Hid (firstV zs t = some v) := Lib.hid (by
      obtain ⟨rest, hr⟩ := hp
      unfold firstV
      rw [← hr, hvs, List.find?_append, List.find?_append, List.find?_eq_none.2 fun u hu => by rw [hno u hu]; simp]
      simp [hl])
    have hne1 : w.heap.size + 1 ≠ E := fun e => by subst e; rw [show W.heap[w.heap.size + 1]? = _ from h2] at hK; cases hK
    have hne2 : w.heap.size + 1 + 1 ≠ E := fun e => by subst e; rw [show W.heap[w.heap.size + 1 + 1]? = _ from h3] at hK; cases hK
    have hb2 : HasBlk (W.putObj E (.deferred none)) (w.heap.size + 1) #[.int .i64 (v : Int)] 3 := (World.putObj_heap_other (by first | exact hne1 | exact Ne.symm hne1)).trans h2
    have hb3 : HasBlk (W.putObj E (.deferred none)) (w.heap.size + 1 + 1) #[.bool true] 4 := (World.putObj_heap_other (by first | exact hne2 | exact Ne.symm hne2)).trans h3
    have g0 := (blk_cell hb2 0).trans (cell1_0 _)
    have g1 := (blk_cell hb3 0).trans (cell1_0 _)
    have HB := Lib.hid hB
    have HK2 := Lib.hid hK
    have HEs : Hid (w.heap.size ≤ E) := Lib.hid (by have := HS3.out; have := HS4.out; omega)
    clear hno hvs hl h2 h3 hB hK hb2 hb3 hp
    gi_wp2
    refine ⟨by simp, .inl ⟨_, _, rfl, run_takeDeferred HK2.out, ?_⟩⟩
    exact ⟨.tuple #[.int .i64 (v : Int), .bool true], by simp [results, Tryd.f58, go_sem, g0, g1], by rw [HF.out]; rfl, HB.out.trans (belowK_b (w := w) (Nat.le_refl _) _ E _ _ HEs.out HK2.out rfl rfl)⟩

end Go.Proofs.YtacglafoahmcnaaDoor
