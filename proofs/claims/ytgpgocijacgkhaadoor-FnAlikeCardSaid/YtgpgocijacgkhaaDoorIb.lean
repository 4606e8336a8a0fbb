/- It is proved what around returns for sets of at most eight members, and what ties a set; conditions: those of each statement. -/
import Derived.RowKit
import Derived.Laws.CopyRow
import Derived.Lib.SlBuf
import Derived.Deep.QuietTactic
import Derived.RangeFuncNested
import Derived.RangeFuncBound
import Derived.RangeFuncCalls
import Derived.RangeFuncLeaves
import Derived.RangeFuncBox
import Derived.RangeFuncWrites
import Derived.StillTailTactics
import Derived.Maps.OwnIn
import Derived.Maps.Ext
import Derived.DeepKeys4
import Derived.MapKept
import Derived.Test.YtgpgocijacgkhaaDoorRows
import Derived.WalkKit
import Derived.WalkSpells
import Derived.ProofKit
import Derived.OpenShut
import Derived.ShutString
import Derived.ChangeOld
import Derived.Below
import Derived.Deep.RegionHeld3
import Derived.BigQuiet
import Derived.Lib.Hide
import Derived.Lib.SmallJoins
import Derived.Outline
import Derived.Laws.MakeOwn
import Derived.Laws.OwnMore
import Derived.IntWalk
import Derived.Lib.AppendZeros
import Derived.Maps.AppendAt
import Derived.Deep.AppendLies
import Derived.OwnWalk
import Derived.Lib.SlicesCompact
import Derived.Lib.OwnBridge
import Derived.OrdersIn
import Derived.TacticsIn
import Derived.Shelf.Sort.Plain
import Derived.Shelf.Slices.In.SortNone
import Derived.Shelf.Slices.CompactI
import Derived.Ground.Names2Prog
import Derived.Lib.SliceRun
import Derived.Laws.BitsAllLaws
import Derived.Shelf.Abstract
import Derived.Shelf.RegionOpen
import Derived.OwnWalkIn
import Derived.TacticsInMore
import Derived.LoopNIn
import Derived.LoopIn
import Derived.StillTail
import Derived.StillTactics
import Derived.Shelf.Spec.TrailingZeros
import Derived.Test.YtgpgocijacgkhaaDoorRaaa
import Derived.Test.YtgpgocijacgkhaaDoorRaan
import Derived.Test.YtgpgocijacgkhaaDoorRaab
import Derived.Test.YtgpgocijacgkhaaDoorRaah
import Derived.Test.YtgpgocijacgkhaaDoorRaao
import Derived.Test.YtgpgocijacgkhaaDoorRaap
import Derived.Test.YtgpgocijacgkhaaDoorRaac
import Derived.Test.YtgpgocijacgkhaaDoorTb
import Derived.Test.YtgpgocijacgkhaaDoorRaae
namespace Go.Proofs.YtgpgocijacgkhaaDoor
open Go.RowKit Go.Shelf

attribute [local go_sem] Oper.semAt_some

set_option maxRecDepth 100000 in
set_option maxHeartbeats 4000000 in
theorem around8_any (k : Nat) (hk8 : k ≤ 8) (a : Option Addr) (c : Nat) (zs : List Int) (t : Nat) (ht : t < 8) (w : World) (ha : Ints w w.heap.size a zs) (h8 : zs.length ≤ 8) (hz : Sets k zs) :
    Calls Tryd.prog 94 #[.agg #[.int .i64 (k : Int), .slice a zs.length c], .int .i64 (t : Int)] w fun e w' => e = .returned (.int .i64 ((arN t zs : Nat) : Int)) ∧ Below w.heap.size w w' := by
  have h16 : 1 ≤ 6 := by omega
  obtain ⟨W2, hW2, q0, q1, hs2, hb2⟩ : ∃ W2, (w.alloc (.cells #[.int .i64 (k : Int), .slice a zs.length c] 25)).alloc (.cells #[.int .i64 (t : Int)] 3) = W2 ∧ HasBlk W2 w.heap.size #[.int .i64 (k : Int), .slice a zs.length c] 25 ∧ HasBlk W2 (w.heap.size + 1) #[.int .i64 (t : Int)] 3 ∧ W2.heap.size = w.heap.size + 1 + 1 ∧ Below w.heap.size w W2 :=
    ⟨_, rfl, alloc2_0 w _ _, alloc2_1 w _ _, by simp, below2 w _ _⟩
  obtain ⟨W3, hW3, p0, p1, p2, hs3, hb3⟩ : ∃ W3, W2.alloc (.cells #[.int .i64 0] 54) = W3 ∧ HasBlk W3 w.heap.size #[.int .i64 (k : Int), .slice a zs.length c] 25 ∧ HasBlk W3 (w.heap.size + 1) #[.int .i64 (t : Int)] 3 ∧ HasBlk W3 W2.heap.size #[.int .i64 0] 54 ∧ W3.heap.size = W2.heap.size + 1 ∧ Below W2.heap.size W2 W3 :=
    ⟨_, rfl, HasBlk.alloc q0 _, HasBlk.alloc q1 _, alloc_new W2 _, by simp, below1 W2 _⟩
  obtain ⟨W4, hW4, r3, hs4, hb4⟩ : ∃ W4, W3.alloc (.cells #[.int .i64 (k : Int), .slice a zs.length c] 25) = W4 ∧ HasBlk W4 W3.heap.size #[.int .i64 (k : Int), .slice a zs.length c] 25 ∧ W4.heap.size = W3.heap.size + 1 ∧ Below W3.heap.size W3 W4 :=
    ⟨_, rfl, alloc_new W3 _, by simp, below1 W3 _⟩
  have hb24 := hb3.trans (hb4.mono (show W2.heap.size ≤ W3.heap.size by omega))
  have hb04 := hb2.trans (hb24.mono (by omega))
  have y0 := (blk_cell p0 0).trans (cell2_0 _ _)
  have y1 := (blk_cell p0 1).trans (cell2_1 _ _)
  rw [← hW3] at y0 y1
  rw [hs3] at r3
  have hst := clubsP_stops (IsSet k) (6 - 1) (by omega) (W2.heap.size + 1) w.heap.size a c zs (by omega) hz.at_ W4 (by omega) (by omega) ((blk_cell r3 1).trans (cell2_1 _ _)) (ha.below hb04)
  have HST := Lib.hid hst
  have HB4 := Lib.hid hb04
  have HQ1 : Hid (HasBlk W4 (w.heap.size + 1) #[.int .i64 (t : Int)] 3) := Lib.hid ((hb4.block _ (by omega)).trans p1)
  have HQ2 : Hid (HasBlk W4 W2.heap.size #[.int .i64 0] 54) := Lib.hid ((hb4.block _ (by omega)).trans p2)
  have HW3 := Lib.hid hW3
  have HW4 := Lib.hid hW4
  have HS2 := Lib.hid hs2
  have HS3 := Lib.hid hs3
  have HS4 := Lib.hid hs4
  clear ha q0 q1 hb2 hW3 p0 p1 p2 hs3 hb3 hW4 r3 hs4 hb4 hb24 hb04 hst hs2 h8
  refine (callsIn_wide (n := 6)).1 ?_
  refine callsIn_of_wp_marks Tryd.func94 rfl trivial ?_ rfl
  simp only [Tryd.ntmps94, List.size_toArray, List.length_cons, List.length_nil, Nat.reduceAdd, Nat.reduceSub, Array.replicate_succ, Array.replicate_zero, List.push_toArray, List.append_toArray, List.nil_append, List.cons_append]
  gi_wp2_with (refine ⟨trivial, ?_⟩; gi_at_call 45; refine (callsIn_wide.2 (clubs_any _ _ _ _ _)).mono ?_; rintro e w' ⟨rfl, rfl⟩)
  rw [HW3.out, HW4.out]
  clear hW2 y0 y1
  refine wpIn_rangeFunc_ownG rfl h16 (gf := 77) (lb := #[.pointer (some ⟨W2.heap.size + 1, 0, none⟩)]) rfl trivial (enters_of Tryd.func77 (by kernel_rfl) rfl)
    HST.out belowK_t (belowK_b (by have := HS2.out; have := HS4.out; have := HS3.out; omega)) (Below.refl _ _) (fun _ => rfl)
    (fun pre W => ((HasBlk W (w.heap.size + 1) #[.int .i64 (t : Int)] 3 ∧ HasBlk W W2.heap.size #[.int .i64 ((arN t (sndL pre) : Nat) : Int)] 54) ∧ arN t (sndL pre) < 256) ∧ Below w.heap.size w W)
    (fun _ _ _ => False)
    ?own (fun _ _ _ _ _ hs _ _ => hs)
    ⟨⟨⟨HQ1.out, HQ2.out⟩, by show 0 < 256; decide⟩, HB4.out⟩
    (fun x => { tmps := #[.agg #[.int .i64 (k : Int), .slice a zs.length c], .int .i64 (t : Int), .pointer (some ⟨w.heap.size, 0, none⟩), .pointer (some ⟨w.heap.size + 1, 0, none⟩), .int .i64 0, .pointer (some ⟨W2.heap.size, 0, none⟩), undef, .int .i64 x.1.2, .agg #[.int .i64 (k : Int), .slice a zs.length c], .func (.func 77) #[] #[.pointer (some ⟨W2.heap.size + 1, 0, none⟩)], .int .i64 (x.1.1 : Int), .int .i64 x.1.2, undef, undef, undef, undef, undef, undef, undef], defers := [] }) ?assign ?body ?done ?stop
  case own =>
    rintro s A' B row ⟨⟨⟨h1, h2⟩, h3⟩, h5⟩ hg hr
    have hr' : ∀ (b : Nat) (cs : Array Value) (t : TypeId), HasBlk A' b cs t → row ≠ some b := fun b cs t hb e => by
      obtain ⟨-, o, ho, hc⟩ := hr b e
      rw [show A'.heap[b]? = _ from hb] at ho; cases ho; cases hc
    exact ⟨⟨⟨h1.kept hg (hr' _ _ _ h1), h2.kept hg (hr' _ _ _ h2)⟩, h3⟩, h5.grown hg (by have := h5.size; omega) (fun r e => by have := (hr r e).1; have := HS2.out; have := HS3.out; have := HS4.out; omega)⟩
  case assign =>
    intro l x W K hK
    gi_wp2
    exact hK
  case body =>
    rintro l pre x W ⟨⟨⟨h1, h2⟩, hlt64⟩, hB⟩ hlt
    obtain ⟨z, hzz⟩ : ∃ z : Nat, x.1.2 = (z : Int) := ⟨x.1.2.toNat, by have := x.2.1; omega⟩
    have hz64 : z < 256 := by have := p256 hk8 x.2.2; rw [hzz] at this; simpa using this
    have HSN : Hid (arN t (sndL (pre ++ [x])) = if z.testBit t = true then arN t (sndL pre) ||| z else arN t (sndL pre)) := Lib.hid (by rw [sndL_snoc, arN_snoc, hzz]; unfold Bt; rw [Int.toNat_natCast])
    obtain ⟨C, hC⟩ : ∃ C, C = arN t (sndL pre) := ⟨_, rfl⟩
    rw [← hC] at HSN h2 hlt64
    have t0 := (blk_cell h1 0).trans (cell1_0 _)
    have m0 := (blk_cell h2 0).trans (cell1_0 _)
    have m1 := blk_frozen h2 0
    have H1 := Lib.hid h1
    have H2 := Lib.hid h2
    have HB := Lib.hid hB
    have HP := Lib.hid (has8_any z t hz64 ht W)
    have hl1 : w.heap.size + 1 ≠ W2.heap.size := by have := HS2.out; omega
    have hl0 : w.heap.size ≤ W2.heap.size := by have := HS2.out; omega
    have hor : bits .or .i64 (C : Int) (z : Int) = ((C ||| z : Nat) : Int) := or_at8 hlt64 hz64
    have hor64 : C ||| z < 256 := Nat.or_lt_two_pow (n := 8) hlt64 hz64
    have HL64 := Lib.hid hlt64
    rw [hzz]
    clear h1 h2 hB hC hlt hlt64
    cases hp : z.testBit t
    · have HPP := Lib.hid hp
      have HE : Hid (arN t (sndL (pre ++ [x])) = C) := Lib.hid (by rw [HSN.out, hp]; simp)
      clear hp
      gi_wp2_with (refine ⟨trivial, ?_⟩; gi_at_call 60; refine (CallsIn.inRound l (callsIn_wide.2 HP.out)).mono ?_; rintro e w' ⟨rfl, rfl⟩; rw [HPP.out])
      exact ⟨KeepsFrom.refl _ _, Below.refl _ _, ⟨⟨H1.out, by rw [HE.out]; exact H2.out⟩, by rw [HE.out]; exact HL64.out⟩, HB.out⟩
    · have HPP := Lib.hid hp
      have HE : Hid (arN t (sndL (pre ++ [x])) = C ||| z) := Lib.hid (by rw [HSN.out, hp]; simp)
      clear hp
      gi_wp2_with (refine ⟨trivial, ?_⟩; gi_at_call 60; refine (CallsIn.inRound l (callsIn_wide.2 HP.out)).mono ?_; rintro e w' ⟨rfl, rfl⟩; rw [HPP.out])
      refine ⟨(KeepsOthers.setCell _ _ _).from _, (Below.refl _ _).setCell (p := ⟨W2.heap.size, 0, none⟩) (by show w.heap.size ≤ W2.heap.size; exact hl0) _, ⟨⟨HasBlk.far H1.out (show w.heap.size + 1 ≠ W2.heap.size from hl1) _, ?_⟩, by rw [HE.out]; exact hor64⟩, HB.out.setCell (p := ⟨W2.heap.size, 0, none⟩) (by show w.heap.size ≤ W2.heap.size; exact hl0) _⟩
      rw [HE.out]
      exact Boxed.set _ H2.out
  case done =>
    rintro E ys W hE hys ⟨⟨⟨-, h2⟩, -⟩, hB⟩ hK
    rw [sndL_all hys] at h2
    have c0 := (blk_cell h2 0).trans (cell1_0 _)
    have HB := Lib.hid hB
    have HK := Lib.hid hK
    have HEs : Hid (w.heap.size ≤ E) := Lib.hid (by have := HS2.out; have := HS3.out; have := HS4.out; omega)
    clear h2 hB hK hys
    gi_wp2
    refine ⟨by simp, .inl ⟨_, _, rfl, run_takeDeferred HK.out, ?_⟩⟩
    exact ⟨.int .i64 ((arN t zs : Nat) : Int), by simp [results, Tryd.results94, go_sem], rfl, HB.out.trans (belowK_b (w := w) (Nat.le_refl _) W E _ _ HEs.out HK.out rfl rfl)⟩
  case stop =>
    rintro D c pre W _ _ h _
    exact h.elim

/-- The clubs of the dual: for each member the places of the clubs with it. -/
def duZ (m : Nat) (zs : List Int) : List Int := dualL m (prsP (pairs zs zs.length))

theorem duZ_len (m : Nat) (zs : List Int) : (duZ m zs).length = m := dualL_length _ _
theorem duZ_mem {m : Nat} {zs : List Int} {z : Int} : z ∈ duZ m zs ↔ ∃ v, v < m ∧ z = ((dualBits (prsP (pairs zs zs.length)) v : Nat) : Int) := by
  unfold duZ dualL
  rw [List.mem_map]
  constructor
  · rintro ⟨v, hv, rfl⟩; exact ⟨v, List.mem_range.1 hv, rfl⟩
  · rintro ⟨v, hv, rfl⟩; exact ⟨v, List.mem_range.2 hv, rfl⟩

theorem duZ_sets (m : Nat) (zs : List Int) : Sets zs.length (duZ m zs) := fun z hz => by
  obtain ⟨v, _, rfl⟩ := duZ_mem.1 hz
  exact ⟨by omega, by rw [Int.toNat_natCast]; exact dualBits_pow _ _ _⟩

theorem du_bit {zs : List Int} {v : Nat} (hv : v < 6) (i : Nat) : (dualBits (prsP (pairs zs zs.length)) v).testBit i = true ↔ i < zs.length ∧ (zs[i]?.getD 0).toNat.testBit v = true := by
  rw [dualBits_test, decide_eq_true_eq, prs_mem, mem_mem]
  constructor
  · exact fun h => ⟨h.1, h.2.2⟩
  · exact fun h => ⟨h.1, hv, h.2⟩

/-- Two clubs have a common member. -/
def metN (zs : List Int) (i k : Nat) : Bool := decide ((zs[i]?.getD 0).toNat &&& (zs[k]?.getD 0).toNat ≠ 0)

theorem met_iff (zs : List Int) (i k : Nat) : metN zs i k = true ↔ ∃ v, (zs[i]?.getD 0).toNat.testBit v = true ∧ (zs[k]?.getD 0).toNat.testBit v = true := by
  unfold metN
  rw [decide_eq_true_eq]
  constructor
  · intro h
    obtain ⟨v, hv⟩ := Nat.exists_testBit_of_ne_zero h
    rw [Nat.testBit_and, Bool.and_eq_true] at hv
    exact ⟨v, hv⟩
  · rintro ⟨v, h1, h2⟩ h
    have := Nat.testBit_and (zs[i]?.getD 0).toNat (zs[k]?.getD 0).toNat v
    rw [h, h1, h2, Nat.zero_testBit] at this
    cases this

theorem met_comm (zs : List Int) (i k : Nat) : metN zs i k = metN zs k i := by unfold metN; rw [Nat.and_comm]
theorem getD_mem {zs : List Int} {i : Nat} (h : i < zs.length) : zs[i]?.getD 0 ∈ zs := by
  rw [List.getElem?_eq_getElem h, Option.getD_some]; exact List.getElem_mem h

theorem du_ar {m : Nat} (hm : m ≤ 6) {zs : List Int} (hS : Sets m zs) (i k : Nat) : (arN i (duZ m zs)).testBit k = true ↔ i < zs.length ∧ k < zs.length ∧ metN zs i k = true := by
  rw [arN_bit, met_iff]
  constructor
  · rintro ⟨z, hz, h1, h2⟩
    obtain ⟨v, hv, rfl⟩ := duZ_mem.1 hz
    unfold Bt at h1 h2
    rw [Int.toNat_natCast] at h1 h2
    have b1 := (du_bit (by omega) i).1 h1
    have b2 := (du_bit (by omega) k).1 h2
    exact ⟨b1.1, b2.1, v, b1.2, b2.2⟩
  · rintro ⟨hi, hk, v, h1, h2⟩
    have hv : v < m := bt_lt (z := zs[i]?.getD 0) (hS _ (getD_mem hi)).2 h1
    refine ⟨_, duZ_mem.2 ⟨v, hv, rfl⟩, ?_, ?_⟩
    · unfold Bt; rw [Int.toNat_natCast]; exact (du_bit (by omega) i).2 ⟨hi, h1⟩
    · unfold Bt; rw [Int.toNat_natCast]; exact (du_bit (by omega) k).2 ⟨hk, h2⟩

/-- A set is tied: each two of its members are in one club. -/
def tieB (zs : List Int) (s : Nat) : Bool := decide (s ≠ 0) && (memK 8 s).all fun v => subN s (arN v zs)

theorem tie_iff {zs : List Int} {s : Nat} (hs : s < 256) : tieB zs s = true ↔ s ≠ 0 ∧ ∀ v u, s.testBit v = true → s.testBit u = true → (arN v zs).testBit u = true := by
  unfold tieB
  rw [Bool.and_eq_true, decide_eq_true_eq, List.all_eq_true]
  constructor
  · rintro ⟨h1, h2⟩
    exact ⟨h1, fun v u hv hu => (subN_iff _ _).1 (h2 v ((mem8_iff hs).2 hv)) u hu⟩
  · rintro ⟨h1, h2⟩
    exact ⟨h1, fun v hv => (subN_iff _ _).2 fun u hu => h2 v u ((mem8_iff hs).1 hv) hu⟩

theorem nat_bit_lt {s k v : Nat} (h : s < 2 ^ k) (hb : s.testBit v = true) : v < k := by
  apply Decidable.byContradiction
  intro hv
  rw [Nat.testBit_lt_two_pow (Nat.lt_of_lt_of_le h (Nat.pow_le_pow_right (by decide) (by omega)))] at hb
  cases hb

theorem du_tie {m : Nat} (hm : m ≤ 6) {zs : List Int} (hS : Sets m zs) (hl : zs.length ≤ 8) {p : Nat} (hp : p < 2 ^ zs.length) : tieB (duZ m zs) p = true ↔ p ≠ 0 ∧ ∀ i k, p.testBit i = true → p.testBit k = true → metN zs i k = true := by
  rw [tie_iff (p256 hl hp)]
  constructor
  · rintro ⟨h1, h2⟩
    exact ⟨h1, fun i k hi hk => ((du_ar hm hS i k).1 (h2 i k hi hk)).2.2⟩
  · rintro ⟨h1, h2⟩
    exact ⟨h1, fun i k hi hk => (du_ar hm hS i k).2 ⟨nat_bit_lt hp hi, nat_bit_lt hp hk, h2 i k hi hk⟩⟩

end Go.Proofs.YtgpgocijacgkhaaDoor
