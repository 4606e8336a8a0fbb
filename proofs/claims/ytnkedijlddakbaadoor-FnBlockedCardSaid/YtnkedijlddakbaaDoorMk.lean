/- It is proved what lines returns; conditions: those of each statement. -/
import Derived.RowKit
import Derived.Laws.CopyRow
import Derived.Lib.SlBuf
import Derived.Deep.QuietTactic
import Derived.RangeFuncNested
import Derived.RangeFuncBound
import Derived.RangeFuncCalls
import Derived.RangeFuncLeaves
import Derived.RangeFuncBox
import Derived.RangeFuncWrites
import Derived.StillTailTactics
import Derived.Maps.OwnIn
import Derived.Maps.Ext
import Derived.DeepKeys4
import Derived.MapKept
import Derived.Test.YtnkedijlddakbaaDoorRows
import Derived.WalkKit
import Derived.WalkSpells
import Derived.ProofKit
import Derived.OpenShut
import Derived.ShutString
import Derived.ChangeOld
import Derived.Below
import Derived.Deep.RegionHeld3
import Derived.BigQuiet
import Derived.Lib.Hide
import Derived.Lib.SmallJoins
import Derived.Outline
import Derived.Laws.MakeOwn
import Derived.Laws.OwnMore
import Derived.IntWalk
import Derived.Lib.AppendZeros
import Derived.Maps.AppendAt
import Derived.Deep.AppendLies
import Derived.OwnWalk
import Derived.Lib.SlicesCompact
import Derived.Lib.OwnBridge
import Derived.OrdersIn
import Derived.TacticsIn
import Derived.Shelf.Sort.Plain
import Derived.Shelf.Slices.In.SortNone
import Derived.Shelf.Slices.CompactI
import Derived.Ground.Names2Prog
import Derived.Lib.SliceRun
import Derived.Shelf.Abstract
import Derived.Shelf.RegionOpen
import Derived.OwnWalkIn
import Derived.TacticsInMore
import Derived.LoopNIn
import Derived.LoopIn
import Derived.StillTail
import Derived.StillTactics
import Derived.Shelf.Spec.TrailingZeros
import Derived.Test.YtnkedijlddakbaaDoorMraa
import Derived.Test.YtnkedijlddakbaaDoorMrab
import Derived.Test.YtnkedijlddakbaaDoorMrad
import Derived.Test.YtnkedijlddakbaaDoorHu
import Derived.Test.YtnkedijlddakbaaDoorMrae
import Derived.Test.YtnkedijlddakbaaDoorMrag
import Derived.Test.YtnkedijlddakbaaDoorMrah
import Derived.Test.YtnkedijlddakbaaDoorMraf
namespace Go.Proofs.YtnkedijlddakbaaDoor
open Go.RowKit Go.Shelf

attribute [local go_sem] Oper.semAt_some

/-- How many of some clubs have another member than those of a set. -/
def outN (zs : List Int) (t : Nat) : Nat := (zs.filter fun z => !(leG z (t : Int))).length

theorem outN_snoc (zs : List Int) (z : Int) (t : Nat) : outN (zs ++ [z]) t = outN zs t + if leG z (t : Int) then 0 else 1 := by
  unfold outN
  rw [List.filter_append, List.length_append]
  cases h : leG z (t : Int) <;> simp [h]

theorem outN_le (zs : List Int) (t : Nat) : outN zs t ≤ zs.length := List.length_filter_le _ _
/-- How many are told if just these members are. -/
def linN (zs : List Int) (t : Nat) : Nat := (memK 8 t).length + outN zs t

set_option maxRecDepth 100000 in
set_option maxHeartbeats 4000000 in
theorem lines_any (k : Nat) (hk6 : k ≤ 6) (a : Option Addr) (c : Nat) (zs : List Int) (t : Nat) (ht : t < 64) (w : World) (ha : Ints w w.heap.size a zs) (h8 : zs.length ≤ 8) (hz : Sets k zs) :
    Calls Tryd.prog 37 #[.agg #[.int .i64 (k : Int), .slice a zs.length c], .int .i64 (t : Int)] w fun e w' => e = .returned (.int .i64 ((linN zs t : Nat) : Int)) ∧ Below w.heap.size w w' := by
  have h16 : 1 ≤ 6 := by omega
  have ht256 : t < 256 := by omega
  obtain ⟨A, hA⟩ : ∃ A, A = (memK 8 t).length := ⟨_, rfl⟩
  have hA8 : A ≤ 8 := by rw [hA]; exact memK_len 8 t
  have HLN : Hid (linN zs t = A + outN zs t) := Lib.hid (by unfold linN; rw [hA])
  have HSZ : Hid (∀ W, Calls Tryd.prog 52 #[.int .i64 (t : Int)] W fun e w' => e = .returned (.int .i64 (A : Int)) ∧ W = w') := Lib.hid (by rw [hA]; exact fun W => sizeW_any t W ht256)
  obtain ⟨W2, hW2, q0, q1, hs2, hb2⟩ : ∃ W2, (w.alloc (.cells #[.int .i64 (k : Int), .slice a zs.length c] 25)).alloc (.cells #[.int .i64 (t : Int)] 41) = W2 ∧ HasBlk W2 w.heap.size #[.int .i64 (k : Int), .slice a zs.length c] 25 ∧ HasBlk W2 (w.heap.size + 1) #[.int .i64 (t : Int)] 41 ∧ W2.heap.size = w.heap.size + 1 + 1 ∧ Below w.heap.size w W2 :=
    ⟨_, rfl, alloc2_0 w _ _, alloc2_1 w _ _, by simp, below2 w _ _⟩
  obtain ⟨W3, hW3, p0, p1, p2, hs3, hb3⟩ : ∃ W3, W2.alloc (.cells #[.int .i64 (A : Int)] 3) = W3 ∧ HasBlk W3 w.heap.size #[.int .i64 (k : Int), .slice a zs.length c] 25 ∧ HasBlk W3 (w.heap.size + 1) #[.int .i64 (t : Int)] 41 ∧ HasBlk W3 W2.heap.size #[.int .i64 (A : Int)] 3 ∧ W3.heap.size = W2.heap.size + 1 ∧ Below W2.heap.size W2 W3 :=
    ⟨_, rfl, HasBlk.alloc q0 _, HasBlk.alloc q1 _, alloc_new W2 _, by simp, below1 W2 _⟩
  obtain ⟨W4, hW4, r3, hs4, hb4⟩ : ∃ W4, W3.alloc (.cells #[.int .i64 (k : Int), .slice a zs.length c] 25) = W4 ∧ HasBlk W4 W3.heap.size #[.int .i64 (k : Int), .slice a zs.length c] 25 ∧ W4.heap.size = W3.heap.size + 1 ∧ Below W3.heap.size W3 W4 :=
    ⟨_, rfl, alloc_new W3 _, by simp, below1 W3 _⟩
  have hb24 := hb3.trans (hb4.mono (show W2.heap.size ≤ W3.heap.size by omega))
  have hb04 := hb2.trans (hb24.mono (by omega))
  have x0 := (blk_cell q1 0).trans (cell1_0 _)
  have y0 := (blk_cell p0 0).trans (cell2_0 _ _)
  have y1 := (blk_cell p0 1).trans (cell2_1 _ _)
  rw [← hW3] at y0 y1
  rw [hs3] at r3
  have hst := clubsP_stops (IsSet k) (6 - 1) (by omega) (W2.heap.size + 1) w.heap.size a c zs (by omega) hz.at_ W4 (by omega) (by omega) ((blk_cell r3 1).trans (cell2_1 _ _)) (ha.below hb04)
  have HST := Lib.hid hst
  have HB4 := Lib.hid hb04
  have HQ1 : Hid (HasBlk W4 (w.heap.size + 1) #[.int .i64 (t : Int)] 41) := Lib.hid ((hb4.block _ (by omega)).trans p1)
  have HQ2 : Hid (HasBlk W4 W2.heap.size #[.int .i64 (A : Int)] 3) := Lib.hid ((hb4.block _ (by omega)).trans p2)
  have HW3 := Lib.hid hW3
  have HW4 := Lib.hid hW4
  have HS2 := Lib.hid hs2
  have HS3 := Lib.hid hs3
  have HS4 := Lib.hid hs4
  have HN8 := Lib.hid h8
  clear ha hA q0 q1 hb2 hW3 p0 p1 p2 hs3 hb3 hW4 r3 hs4 hb4 hb24 hb04 hst hs2 h8
  refine (callsIn_wide (n := 6)).1 ?_
  refine callsIn_of_wp_marks Tryd.func37 rfl trivial ?_ rfl
  simp only [Tryd.ntmps37, List.size_toArray, List.length_cons, List.length_nil, Nat.reduceAdd, Nat.reduceSub, Array.replicate_succ, Array.replicate_zero, List.push_toArray, List.append_toArray, List.nil_append, List.cons_append]
  gi_wp2_with (first
    | (refine ⟨trivial, ?_⟩; gi_at_call 52; refine (callsIn_wide.2 (HSZ.out _)).mono ?_; rintro e w' ⟨rfl, rfl⟩)
    | (refine ⟨trivial, ?_⟩; gi_at_call 55; refine (callsIn_wide.2 (clubs_any _ _ _ _ _)).mono ?_; rintro e w' ⟨rfl, rfl⟩))
  rw [HW3.out, HW4.out]
  clear hW2 x0 y0 y1
  refine wpIn_rangeFunc_ownG rfl h16 (gf := 63) (lb := #[.pointer (some ⟨W2.heap.size + 1, 0, none⟩)]) rfl trivial (enters_of Tryd.func63 (by kernel_rfl) rfl)
    HST.out belowK_t (belowK_b (by have := HS2.out; have := HS4.out; have := HS3.out; omega)) (Below.refl _ _) (fun _ => rfl)
    (fun pre W => (HasBlk W (w.heap.size + 1) #[.int .i64 (t : Int)] 41 ∧ HasBlk W W2.heap.size #[.int .i64 ((A + outN (sndL pre) t : Nat) : Int)] 3) ∧ Below w.heap.size w W)
    (fun _ _ _ => False)
    ?own (fun _ _ _ _ _ hs _ _ => hs)
    ⟨⟨HQ1.out, HQ2.out⟩, HB4.out⟩
    (fun x => { tmps := #[.agg #[.int .i64 (k : Int), .slice a zs.length c], .int .i64 (t : Int), .pointer (some ⟨w.heap.size, 0, none⟩), .pointer (some ⟨w.heap.size + 1, 0, none⟩), .int .i64 0, .pointer (some ⟨W2.heap.size, 0, none⟩), undef, .int .i64 x.1.2, .int .i64 (t : Int), .int .i64 (A : Int), .agg #[.int .i64 (k : Int), .slice a zs.length c], .func (.func 63) #[] #[.pointer (some ⟨W2.heap.size + 1, 0, none⟩)], .int .i64 (x.1.1 : Int), .int .i64 x.1.2, undef, undef, undef, undef, undef, undef, undef], defers := [] }) ?assign ?body ?done ?stop
  case own =>
    rintro s A' B row ⟨⟨h1, h2⟩, h5⟩ hg hr
    have hr' : ∀ (b : Nat) (cs : Array Value) (t : TypeId), HasBlk A' b cs t → row ≠ some b := fun b cs t hb e => by
      obtain ⟨-, o, ho, hc⟩ := hr b e
      rw [show A'.heap[b]? = _ from hb] at ho; cases ho; cases hc
    exact ⟨⟨h1.kept hg (hr' _ _ _ h1), h2.kept hg (hr' _ _ _ h2)⟩, h5.grown hg (by have := h5.size; omega) (fun r e => by have := (hr r e).1; have := HS2.out; have := HS3.out; have := HS4.out; omega)⟩
  case assign =>
    intro l x W K hK
    gi_wp2
    exact hK
  case body =>
    rintro l pre x W ⟨⟨h1, h2⟩, hB⟩ hlt
    have HSN : Hid (outN (sndL (pre ++ [x])) t = outN (sndL pre) t + if leG x.1.2 (t : Int) then 0 else 1) := Lib.hid (by rw [sndL_snoc, outN_snoc])
    have hle : outN (sndL pre) t ≤ 8 := by have := outN_le (sndL pre) t; rw [sndL_len] at this; have := HN8.out; omega
    obtain ⟨C, hC⟩ : ∃ C, C = outN (sndL pre) t := ⟨_, rfl⟩
    rw [← hC] at HSN hle h2
    obtain ⟨z, hzz⟩ : ∃ z, z = x.1.2 := ⟨_, rfl⟩
    rw [← hzz] at HSN
    have t0 := (blk_cell h1 0).trans (cell1_0 _)
    have m0 := (blk_cell h2 0).trans (cell1_0 _)
    have m1 := blk_frozen h2 0
    have H1 := Lib.hid h1
    have H2 := Lib.hid h2
    have HB := Lib.hid hB
    have HP := Lib.hid (partOf_any z (t : Int) W)
    have hl1 : w.heap.size + 1 ≠ W2.heap.size := by have := HS2.out; omega
    have hl0 : w.heap.size ≤ W2.heap.size := by have := HS2.out; omega
    have hAC : (A : Int) + (C : Int) ≤ 16 := by omega
    have hcast : ((A + C : Nat) : Int) = (A : Int) + (C : Int) := by omega
    rw [hcast] at m0
    rw [← hzz]
    clear h1 h2 hB hC hzz hlt hcast
    cases hp : leG z (t : Int)
    · have HPP := Lib.hid hp
      have HE : Hid (((A + outN (sndL (pre ++ [x])) t : Nat) : Int) = (A : Int) + (C : Int) + 1) := Lib.hid (by rw [HSN.out, hp]; simp; omega)
      clear hp
      gi_wp2_with (refine ⟨trivial, ?_⟩; gi_at_call 56; refine (CallsIn.inRound l (callsIn_wide.2 HP.out)).mono ?_; rintro e w' ⟨rfl, rfl⟩; rw [HPP.out])
      refine ⟨(KeepsOthers.setCell _ _ _).from _, (Below.refl _ _).setCell (p := ⟨W2.heap.size, 0, none⟩) (by show w.heap.size ≤ W2.heap.size; exact hl0) _, ⟨HasBlk.far H1.out (show w.heap.size + 1 ≠ W2.heap.size from hl1) _, ?_⟩, HB.out.setCell (p := ⟨W2.heap.size, 0, none⟩) (by show w.heap.size ≤ W2.heap.size; exact hl0) _⟩
      rw [HE.out]
      exact Boxed.set _ H2.out
    · have HPP := Lib.hid hp
      have HE : Hid (outN (sndL (pre ++ [x])) t = C) := Lib.hid (by rw [HSN.out, hp]; simp)
      clear hp
      gi_wp2_with (refine ⟨trivial, ?_⟩; gi_at_call 56; refine (CallsIn.inRound l (callsIn_wide.2 HP.out)).mono ?_; rintro e w' ⟨rfl, rfl⟩; rw [HPP.out])
      exact ⟨KeepsFrom.refl _ _, Below.refl _ _, ⟨H1.out, by rw [HE.out]; exact H2.out⟩, HB.out⟩
  case done =>
    rintro E ys W hE hys ⟨⟨-, h2⟩, hB⟩ hK
    rw [sndL_all hys, ← HLN.out] at h2
    have c0 := (blk_cell h2 0).trans (cell1_0 _)
    have HB := Lib.hid hB
    have HK := Lib.hid hK
    have HEs : Hid (w.heap.size ≤ E) := Lib.hid (by have := HS2.out; have := HS3.out; have := HS4.out; omega)
    clear h2 hB hK hys
    gi_wp2
    refine ⟨by simp, .inl ⟨_, _, rfl, run_takeDeferred HK.out, ?_⟩⟩
    exact ⟨.int .i64 ((linN zs t : Nat) : Int), by simp [results, Tryd.results37, go_sem], rfl, HB.out.trans (belowK_b (w := w) (Nat.le_refl _) W E _ _ HEs.out HK.out rfl rfl)⟩
  case stop =>
    rintro D c pre W _ _ h _
    exact h.elim

end Go.Proofs.YtnkedijlddakbaaDoor
