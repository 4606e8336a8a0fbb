/- It is proved what around returns for sets of at most eight members, and what ties a set; conditions: those of each statement. -/
import Derived.RowKit
import Derived.Laws.CopyRow
import Derived.Lib.SlBuf
import Derived.Deep.QuietTactic
import Derived.RangeFuncNested
import Derived.RangeFuncBound
import Derived.RangeFuncCalls
import Derived.RangeFuncLeaves
import Derived.RangeFuncBox
import Derived.RangeFuncWrites
import Derived.StillTailTactics
import Derived.Maps.OwnIn
import Derived.Maps.Ext
import Derived.DeepKeys4
import Derived.MapKept
import Derived.Test.YtacglafoahmcnaaDoorRows
import Derived.WalkKit
import Derived.WalkSpells
import Derived.ProofKit
import Derived.OpenShut
import Derived.ShutString
import Derived.ChangeOld
import Derived.Below
import Derived.Deep.RegionHeld3
import Derived.BigQuiet
import Derived.Lib.Hide
import Derived.Lib.SmallJoins
import Derived.Outline
import Derived.Laws.MakeOwn
import Derived.Laws.OwnMore
import Derived.IntWalk
import Derived.Lib.AppendZeros
import Derived.Maps.AppendAt
import Derived.Deep.AppendLies
import Derived.OwnWalk
import Derived.Lib.SlicesCompact
import Derived.Lib.OwnBridge
import Derived.OrdersIn
import Derived.TacticsIn
import Derived.Shelf.Sort.Plain
import Derived.Shelf.Slices.In.SortNone
import Derived.Shelf.Slices.CompactI
import Derived.Ground.Names2Prog
import Derived.Lib.SliceRun
import Derived.Laws.BitsAllLaws
import Derived.Shelf.Abstract
import Derived.Shelf.RegionOpen
import Derived.OwnWalkIn
import Derived.TacticsInMore
import Derived.LoopNIn
import Derived.LoopIn
import Derived.StillTail
import Derived.StillTactics
import Derived.Shelf.Spec.TrailingZeros
import Derived.Test.YtacglafoahmcnaaDoorRaaa
import Derived.Test.YtacglafoahmcnaaDoorRaaw
import Derived.Test.YtacglafoahmcnaaDoorRaac
import Derived.Test.YtacglafoahmcnaaDoorRaag
import Derived.Test.YtacglafoahmcnaaDoorRaazxFnMeet
import Derived.Test.YtacglafoahmcnaaDoorRaam
import Derived.Test.YtacglafoahmcnaaDoorRaad
import Derived.Test.YtacglafoahmcnaaDoorRaab
import Derived.Test.YtacglafoahmcnaaDoorTb
import Derived.Test.YtacglafoahmcnaaDoorYa
import Derived.Test.YtacglafoahmcnaaDoorRabaxFnMeet
import Derived.Test.YtacglafoahmcnaaDoorRaae
namespace Go.Proofs.YtacglafoahmcnaaDoor
open Go.RowKit Go.Shelf

attribute [local go_sem] Oper.semAt_some

set_option maxRecDepth 100000 in
set_option maxHeartbeats 4000000 in
theorem around8_any (k : Nat) (hk8 : k ≤ 8) (a : Option Addr) (c : Nat) (zs : List Int) (t : Nat) (ht : t < 8) (w : World) (ha : Ints w w.heap.size a zs) (h8 : zs.length ≤ 8) (hz : Sets k zs) :
    Calls Tryd.prog 126 #[.agg #[.int .i64 (k : Int), .slice a zs.length c], .int .i64 (t : Int)] w fun e w' => e = .returned (.int .i64 ((arN t zs : Nat) : Int)) ∧ Below w.heap.size w w' := by
  have h16 : 1 ≤ 6 := by omega
  obtain ⟨W2, hW2, q0, q1, hs2, hb2⟩ : ∃ W2, (w.alloc (.cells #[.int .i64 (k : Int), .slice a zs.length c] 25)).alloc (.cells #[.int .i64 (t : Int)] 3) = W2 ∧ HasBlk W2 w.heap.size #[.int .i64 (k : Int), .slice a zs.length c] 25 ∧ HasBlk W2 (w.heap.size + 1) #[.int .i64 (t : Int)] 3 ∧ W2.heap.size = w.heap.size + 1 + 1 ∧ Below w.heap.size w W2 :=
    ⟨_, rfl, alloc2_0 w _ _, alloc2_1 w _ _, by simp, below2 w _ _⟩
  obtain ⟨W3, hW3, p0, p1, p2, hs3, hb3⟩ : ∃ W3, W2.alloc (.cells #[.int .i64 0] 50) = W3 ∧ HasBlk W3 w.heap.size #[.int .i64 (k : Int), .slice a zs.length c] 25 ∧ HasBlk W3 (w.heap.size + 1) #[.int .i64 (t : Int)] 3 ∧ HasBlk W3 W2.heap.size #[.int .i64 0] 50 ∧ W3.heap.size = W2.heap.size + 1 ∧ Below W2.heap.size W2 W3 :=
    ⟨_, rfl, HasBlk.alloc q0 _, HasBlk.alloc q1 _, alloc_new W2 _, by simp, below1 W2 _⟩
  obtain ⟨W4, hW4, r3, hs4, hb4⟩ : ∃ W4, W3.alloc (.cells #[.int .i64 (k : Int), .slice a zs.length c] 25) = W4 ∧ HasBlk W4 W3.heap.size #[.int .i64 (k : Int), .slice a zs.length c] 25 ∧ W4.heap.size = W3.heap.size + 1 ∧ Below W3.heap.size W3 W4 :=
    ⟨_, rfl, alloc_new W3 _, by simp, below1 W3 _⟩
  have hb24 := hb3.trans (hb4.mono (show W2.heap.size ≤ W3.heap.size by omega))
  have hb04 := hb2.trans (hb24.mono (by omega))
  have y0 := (blk_cell p0 0).trans (cell2_0 _ _)
  have y1 := (blk_cell p0 1).trans (cell2_1 _ _)
  rw [← hW3] at y0 y1
  rw [hs3] at r3
  have hst := clubsP_stops (IsSet k) (6 - 1) (by omega) (W2.heap.size + 1) w.heap.size a c zs (by omega) hz.at_ W4 (by omega) (by omega) ((blk_cell r3 1).trans (cell2_1 _ _)) (ha.below hb04)
  have HST := Lib.hid hst
  have HB4 := Lib.hid hb04
  have HQ1 : Hid (HasBlk W4 (w.heap.size + 1) #[.int .i64 (t : Int)] 3) := Lib.hid ((hb4.block _ (by omega)).trans p1)
  have HQ2 : Hid (HasBlk W4 W2.heap.size #[.int .i64 0] 50) := Lib.hid ((hb4.block _ (by omega)).trans p2)
  have HW3 := Lib.hid hW3
  have HW4 := Lib.hid hW4
  have HS2 := Lib.hid hs2
  have HS3 := Lib.hid hs3
  have HS4 := Lib.hid hs4
  clear ha q0 q1 hb2 hW3 p0 p1 p2 hs3 hb3 hW4 r3 hs4 hb4 hb24 hb04 hst hs2 h8
  refine (callsIn_wide (n := 6)).1 ?_
  refine callsIn_of_wp_marks Tryd.func126 rfl trivial ?_ rfl
  simp only [Tryd.ntmps126, List.size_toArray, List.length_cons, List.length_nil, Nat.reduceAdd, Nat.reduceSub, Array.replicate_succ, Array.replicate_zero, List.push_toArray, List.append_toArray, List.nil_append, List.cons_append]
  gi_wp2_with (refine ⟨trivial, ?_⟩; gi_at_call 48; refine (callsIn_wide.2 (clubs_any _ _ _ _ _)).mono ?_; rintro e w' ⟨rfl, rfl⟩)
  rw [HW3.out, HW4.out]
  clear hW2 y0 y1
  refine wpIn_rangeFunc_ownG rfl h16 (gf := 88) (lb := #[.pointer (some ⟨W2.heap.size + 1, 0, none⟩)]) rfl trivial (enters_of Tryd.func88 (by kernel_rfl) rfl)
    HST.out belowK_t (belowK_b (by have := HS2.out; have := HS4.out; have := HS3.out; omega)) (Below.refl _ _) (fun _ => rfl)
    (fun pre W => ((HasBlk W (w.heap.size + 1) #[.int .i64 (t : Int)] 3 ∧ HasBlk W W2.heap.size #[.int .i64 ((arN t (sndL pre) : Nat) : Int)] 50) ∧ arN t (sndL pre) < 256) ∧ Below w.heap.size w W)
    (fun _ _ _ => False)
    ?own (fun _ _ _ _ _ hs _ _ => hs)
    ⟨⟨⟨HQ1.out, HQ2.out⟩, by show 0 < 256; decide⟩, HB4.out⟩
    (fun x => { tmps := #[.agg #[.int .i64 (k : Int), .slice a zs.length c], .int .i64 (t : Int), .pointer (some ⟨w.heap.size, 0, none⟩), .pointer (some ⟨w.heap.size + 1, 0, none⟩), .int .i64 0, .pointer (some ⟨W2.heap.size, 0, none⟩), undef, .int .i64 x.1.2, .agg #[.int .i64 (k : Int), .slice a zs.length c], .func (.func 88) #[] #[.pointer (some ⟨W2.heap.size + 1, 0, none⟩)], .int .i64 (x.1.1 : Int), .int .i64 x.1.2, undef, undef, undef, undef, undef, undef, undef], defers := [] }) ?assign ?body ?done ?stop
  case own =>
    rintro s A' B row ⟨⟨⟨h1, h2⟩, h3⟩, h5⟩ hg hr
    have hr' : ∀ (b : Nat) (cs : Array Value) (t : TypeId), HasBlk A' b cs t → row ≠ some b := fun b cs t hb e => by
      obtain ⟨-, o, ho, hc⟩ := hr b e
      rw [show A'.heap[b]? = _ from hb] at ho; cases ho; cases hc
    exact ⟨⟨⟨h1.kept hg (hr' _ _ _ h1), h2.kept hg (hr' _ _ _ h2)⟩, h3⟩, h5.grown hg (by have := h5.size; omega) (fun r e => by have := (hr r e).1; have := HS2.out; have := HS3.out; have := HS4.out; omega)⟩
  case assign =>
    intro l x W K hK
    gi_wp2
    exact hK
  case body =>
    rintro l pre x W ⟨⟨⟨h1, h2⟩, hlt64⟩, hB⟩ hlt
    obtain ⟨z, hzz⟩ : ∃ z : Nat, x.1.2 = (z : Int) := ⟨x.1.2.toNat, by have := x.2.1; omega⟩
    have hz64 : z < 256 := by have := p256 hk8 x.2.2; rw [hzz] at this; simpa using this
    have HSN : Hid (arN t (sndL (pre ++ [x])) = if z.testBit t = true then arN t (sndL pre) ||| z else arN t (sndL pre)) := Lib.hid (by rw [sndL_snoc, arN_snoc, hzz]; unfold Bt; rw [Int.toNat_natCast])
    obtain ⟨C, hC⟩ : ∃ C, C = arN t (sndL pre) := ⟨_, rfl⟩
    rw [← hC] at HSN h2 hlt64
    have t0 := (blk_cell h1 0).trans (cell1_0 _)
    have m0 := (blk_cell h2 0).trans (cell1_0 _)
    have m1 := blk_frozen h2 0
    have H1 := Lib.hid h1
    have H2 := Lib.hid h2
    have HB := Lib.hid hB
    have HP := Lib.hid (has8_any z t hz64 ht W)
    have hl1 : w.heap.size + 1 ≠ W2.heap.size := by have := HS2.out; omega
    have hl0 : w.heap.size ≤ W2.heap.size := by have := HS2.out; omega
    have hor : bits .or .i64 (C : Int) (z : Int) = ((C ||| z : Nat) : Int) := or_at8 hlt64 hz64
    have hor64 : C ||| z < 256 := Nat.or_lt_two_pow (n := 8) hlt64 hz64
    have HL64 := Lib.hid hlt64
    rw [hzz]
    clear h1 h2 hB hC hlt hlt64
    cases hp : z.testBit t
    · have HPP := Lib.hid hp
      have HE : Hid (arN t (sndL (pre ++ [x])) = C) := Lib.hid (by rw [HSN.out, hp]; simp)
      clear hp
      gi_wp2_with (refine ⟨trivial, ?_⟩; gi_at_call 108; refine (CallsIn.inRound l (callsIn_wide.2 HP.out)).mono ?_; rintro e w' ⟨rfl, rfl⟩; rw [HPP.out])
      exact ⟨KeepsFrom.refl _ _, Below.refl _ _, ⟨⟨H1.out, by rw [HE.out]; exact H2.out⟩, by rw [HE.out]; exact HL64.out⟩, HB.out⟩
    · have HPP := Lib.hid hp
      have HE : Hid (arN t (sndL (pre ++ [x])) = C ||| z) := Lib.hid (by rw [HSN.out, hp]; simp)
      clear hp
      gi_wp2_with (refine ⟨trivial, ?_⟩; gi_at_call 108; refine (CallsIn.inRound l (callsIn_wide.2 HP.out)).mono ?_; rintro e w' ⟨rfl, rfl⟩; rw [HPP.out])
      refine ⟨(KeepsOthers.setCell _ _ _).from _, (Below.refl _ _).setCell (p := ⟨W2.heap.size, 0, none⟩) (by show w.heap.size ≤ W2.heap.size; exact hl0) _, ⟨⟨HasBlk.far H1.out (show w.heap.size + 1 ≠ W2.heap.size from hl1) _, ?_⟩, by rw [HE.out]; exact hor64⟩, HB.out.setCell (p := ⟨W2.heap.size, 0, none⟩) (by show w.heap.size ≤ W2.heap.size; exact hl0) _⟩
      rw [HE.out]
      exact Boxed.set _ H2.out
  case done =>
    rintro E ys W hE hys ⟨⟨⟨-, h2⟩, -⟩, hB⟩ hK
    rw [sndL_all hys] at h2
    have c0 := (blk_cell h2 0).trans (cell1_0 _)
    have HB := Lib.hid hB
    have HK := Lib.hid hK
    have HEs : Hid (w.heap.size ≤ E) := Lib.hid (by have := HS2.out; have := HS3.out; have := HS4.out; omega)
    clear h2 hB hK hys
    gi_wp2
    refine ⟨by simp, .inl ⟨_, _, rfl, run_takeDeferred HK.out, ?_⟩⟩
    exact ⟨.int .i64 ((arN t zs : Nat) : Int), by simp [results, Tryd.results126, go_sem], rfl, HB.out.trans (belowK_b (w := w) (Nat.le_refl _) W E _ _ HEs.out HK.out rfl rfl)⟩
  case stop =>
    rintro D c pre W _ _ h _
    exact h.elim

/-- The clubs of the dual: for each member the places of the clubs with it. -/
def duZ (m : Nat) (zs : List Int) : List Int := dualL m (prsP (pairs zs zs.length))

theorem duZ_len (m : Nat) (zs : List Int) : (duZ m zs).length = m := dualL_length _ _
theorem duZ_mem {m : Nat} {zs : List Int} {z : Int} : z ∈ duZ m zs ↔ ∃ v, v < m ∧ z = ((dualBits (prsP (pairs zs zs.length)) v : Nat) : Int) := by
  unfold duZ dualL
  rw [List.mem_map]
  constructor
  · rintro ⟨v, hv, rfl⟩; exact ⟨v, List.mem_range.1 hv, rfl⟩
  · rintro ⟨v, hv, rfl⟩; exact ⟨v, List.mem_range.2 hv, rfl⟩

theorem duZ_sets (m : Nat) (zs : List Int) : Sets zs.length (duZ m zs) := fun z hz => by
  obtain ⟨v, _, rfl⟩ := duZ_mem.1 hz
  exact ⟨by omega, by rw [Int.toNat_natCast]; exact dualBits_pow _ _ _⟩

theorem du_bit {zs : List Int} {v : Nat} (hv : v < 6) (i : Nat) : (dualBits (prsP (pairs zs zs.length)) v).testBit i = true ↔ i < zs.length ∧ (zs[i]?.getD 0).toNat.testBit v = true := by
  rw [dualBits_test, decide_eq_true_eq, prs_mem, mem_mem]
  constructor
  · exact fun h => ⟨h.1, h.2.2⟩
  · exact fun h => ⟨h.1, hv, h.2⟩

/-- Two clubs have a common member. -/
def metN (zs : List Int) (i k : Nat) : Bool := decide ((zs[i]?.getD 0).toNat &&& (zs[k]?.getD 0).toNat ≠ 0)

theorem met_iff (zs : List Int) (i k : Nat) : metN zs i k = true ↔ ∃ v, (zs[i]?.getD 0).toNat.testBit v = true ∧ (zs[k]?.getD 0).toNat.testBit v = true := by
  unfold metN
  rw [decide_eq_true_eq]
  constructor
  · intro h
    obtain ⟨v, hv⟩ := Nat.exists_testBit_of_ne_zero h
    rw [Nat.testBit_and, Bool.and_eq_true] at hv
    exact ⟨v, hv⟩
  · rintro ⟨v, h1, h2⟩ h
    have := Nat.testBit_and (zs[i]?.getD 0).toNat (zs[k]?.getD 0).toNat v
    rw [h, h1, h2, Nat.zero_testBit] at this
    cases this

theorem getD_mem {zs : List Int} {i : Nat} (h : i < zs.length) : zs[i]?.getD 0 ∈ zs := by
  rw [List.getElem?_eq_getElem h, Option.getD_some]; exact List.getElem_mem h

theorem du_ar {m : Nat} (hm : m ≤ 6) {zs : List Int} (hS : Sets m zs) (i k : Nat) : (arN i (duZ m zs)).testBit k = true ↔ i < zs.length ∧ k < zs.length ∧ metN zs i k = true := by
  rw [arN_bit, met_iff]
  constructor
  · rintro ⟨z, hz, h1, h2⟩
    obtain ⟨v, hv, rfl⟩ := duZ_mem.1 hz
    unfold Bt at h1 h2
    rw [Int.toNat_natCast] at h1 h2
    have b1 := (du_bit (by omega) i).1 h1
    have b2 := (du_bit (by omega) k).1 h2
    exact ⟨b1.1, b2.1, v, b1.2, b2.2⟩
  · rintro ⟨hi, hk, v, h1, h2⟩
    have hv : v < m := bt_lt (z := zs[i]?.getD 0) (hS _ (getD_mem hi)).2 h1
    refine ⟨_, duZ_mem.2 ⟨v, hv, rfl⟩, ?_, ?_⟩
    · unfold Bt; rw [Int.toNat_natCast]; exact (du_bit (by omega) i).2 ⟨hi, h1⟩
    · unfold Bt; rw [Int.toNat_natCast]; exact (du_bit (by omega) k).2 ⟨hk, h2⟩

/-- A set is tied: each two of its members are in one club. -/
def tieB (zs : List Int) (s : Nat) : Bool := decide (s ≠ 0) && (memK 8 s).all fun v => subN s (arN v zs)

theorem tie_iff {zs : List Int} {s : Nat} (hs : s < 256) : tieB zs s = true ↔ s ≠ 0 ∧ ∀ v u, s.testBit v = true → s.testBit u = true → (arN v zs).testBit u = true := by
  unfold tieB
  rw [Bool.and_eq_true, decide_eq_true_eq, List.all_eq_true]
  constructor
  · rintro ⟨h1, h2⟩
    exact ⟨h1, fun v u hv hu => (subN_iff _ _).1 (h2 v ((mem8_iff hs).2 hv)) u hu⟩
  · rintro ⟨h1, h2⟩
    exact ⟨h1, fun v hv => (subN_iff _ _).2 fun u hu => h2 v u ((mem8_iff hs).1 hv) hu⟩

/-- A set is a part of a club. -/
def inC (zs : List Int) (s : Nat) : Bool := zs.any fun z => subN s z.toNat

theorem inC_iff {zs : List Int} {s : Nat} : inC zs s = true ↔ ∃ z ∈ zs, ∀ v, s.testBit v = true → Bt v z = true := by
  unfold inC
  rw [List.any_eq_true]
  constructor
  · rintro ⟨z, hz, h⟩; exact ⟨z, hz, (subN_iff _ _).1 h⟩
  · rintro ⟨z, hz, h⟩; exact ⟨z, hz, (subN_iff _ _).2 h⟩

def looB (zs : List Int) (s : Nat) : Bool := tieB zs s && !inC zs s
/-- Each tied set is a part of a club. -/
def tcB (k : Nat) (zs : List Int) : Bool := (List.range (2 ^ k)).all fun s => !looB zs s

theorem tc_iff {k : Nat} (hk : k ≤ 8) {zs : List Int} : tcB k zs = true ↔ ∀ s, s < 2 ^ k → tieB zs s = true → inC zs s = true := by
  unfold tcB looB
  rw [List.all_eq_true]
  constructor
  · intro h s hs ht
    have := h s (List.mem_range.2 hs)
    rw [ht] at this
    simpa using this
  · intro h s hs
    have hs' := List.mem_range.1 hs
    cases ht : tieB zs s
    · rfl
    · rw [h s hs' ht]; rfl

theorem nat_bit_lt {s k v : Nat} (h : s < 2 ^ k) (hb : s.testBit v = true) : v < k := by
  apply Decidable.byContradiction
  intro hv
  rw [Nat.testBit_lt_two_pow (Nat.lt_of_lt_of_le h (Nat.pow_le_pow_right (by decide) (by omega)))] at hb
  cases hb

theorem du_tie {m : Nat} (hm : m ≤ 6) {zs : List Int} (hS : Sets m zs) (hl : zs.length ≤ 8) {p : Nat} (hp : p < 2 ^ zs.length) : tieB (duZ m zs) p = true ↔ p ≠ 0 ∧ ∀ i k, p.testBit i = true → p.testBit k = true → metN zs i k = true := by
  rw [tie_iff (p256 hl hp)]
  constructor
  · rintro ⟨h1, h2⟩
    exact ⟨h1, fun i k hi hk => ((du_ar hm hS i k).1 (h2 i k hi hk)).2.2⟩
  · rintro ⟨h1, h2⟩
    exact ⟨h1, fun i k hi hk => (du_ar hm hS i k).2 ⟨nat_bit_lt hp hi, nat_bit_lt hp hk, h2 i k hi hk⟩⟩

theorem du_in {m : Nat} (hm : m ≤ 6) {zs : List Int} {p : Nat} (hp : p < 2 ^ zs.length) : inC (duZ m zs) p = true ↔ ∃ v, v < m ∧ ∀ i, p.testBit i = true → (zs[i]?.getD 0).toNat.testBit v = true := by
  rw [inC_iff]
  constructor
  · rintro ⟨z, hz, h⟩
    obtain ⟨v, hv, rfl⟩ := duZ_mem.1 hz
    refine ⟨v, hv, fun i hi => ?_⟩
    have := h i hi
    unfold Bt at this
    rw [Int.toNat_natCast] at this
    exact ((du_bit (by omega) i).1 this).2
  · rintro ⟨v, hv, h⟩
    refine ⟨_, duZ_mem.2 ⟨v, hv, rfl⟩, fun i hi => ?_⟩
    unfold Bt
    rw [Int.toNat_natCast]
    exact (du_bit (by omega) i).2 ⟨nat_bit_lt hp hi, h i hi⟩

end Go.Proofs.YtacglafoahmcnaaDoor

/- It is proved that a region that draws its order may be walked one operation at a time where what each operation gives does not hang on the order; conditions: those of each statement. -/
namespace Go
section
variable {F : Fence} {n : Nat} {P : Program} {ops : Array Oper} {Q : Exit → Act → World → Prop} {md : Region.Mode}

/-- Q, but K where nothing jumps. -/
def UponK (K : Act → World → Prop) (Q : Exit → Act → World → Prop) : Exit → Act → World → Prop
  | .normal, a, w => K a w
  | .ret, a, w => Q .ret a w
  | .exit i, a, w => Q (.exit i) a w
  | .goto t, a, w => Q (.goto t) a w
  | .panic c, a, w => Q (.panic c) a w
  | .outgrown, a, w => Q .outgrown a w

theorem Oper.wpIn_uponK {o : Oper} {a : Act} {w : World} {K K' : Act → World → Prop} (hh : o.wpIn F n P a w K (UponK K' Q)) : o.wpIn F n P a w K Q := by
  unfold Oper.wpIn at *
  refine ⟨hh.1, ?_⟩
  have hh := hh.2
  generalize (o.semAt F.round a.eval).run P w = r at *
  cases r with
  | ok x w' =>
    cases x <;> simp only [Oper.uponIn] at hh ⊢ <;>
      first
        | exact hh
        | exact ⟨hh.1, CallsIn.mono hh.2 (fun e w'' he => by cases e <;> exact he)⟩
        | exact ⟨hh.1, RoundIn.mono hh.2 (fun e w'' he => by cases e <;> exact he)⟩
  | halt x w' => cases x <;> simp only [Oper.uponIn] at hh ⊢ <;> exact hh

theorem wpOpIn_of_list {i : Nat} {o : Oper} {a : Act} {w : World} {K : Act → World → Prop} (ho : ops[i]? = some o) (h : wpListIn F n P ops (UponK K Q) [o] a w) : wpOpIn F n P ops Q i K a w := by
  unfold wpOpIn
  simp only [ho]
  unfold wpListIn at h
  split
  · rename_i hw; simp only [hw, if_true] at h; exact Oper.wpIn_uponK h
  · rename_i hw; simp only [hw] at h; exact h

def masks : Nat → List (List Bool)
  | 0 => [[]]
  | k + 1 => (masks k).flatMap fun m => [false :: m, true :: m]

theorem mem_masks : ∀ l : List Bool, l ∈ masks l.length
  | [] => by simp [masks]
  | b :: l => by
    simp only [List.length_cons, masks, List.mem_flatMap]
    exact ⟨l, mem_masks l, by cases b <;> simp⟩

/-- Where no operation may come next, all have come. -/
def Region.endsB (md : Region.Mode) (ops : Array Oper) : Bool := (masks ops.size).all fun l => !(Region.ready md ops l.toArray).isEmpty || l.all id

theorem count_set : ∀ (l : List Bool) (i : Nat), l[i]? = some false → (l.set i true).count false + 1 = l.count false
  | [], i, h => by simp at h
  | b :: l, 0, h => by simp at h; subst h; simp
  | b :: l, i + 1, h => by
    have := count_set l i (by simpa using h)
    cases b <;> simp [List.count_cons] <;> omega

theorem wpAnyIn_held {A : Array Bool → Act} {S : Array Bool → World → Prop} (hends : Region.endsB md ops = true)
    (hstep : ∀ listed w i, listed.size = ops.size → i ∈ Region.ready md ops listed → S listed w → wpOpIn F n P ops Q i (fun a' w' => a' = A (listed.setIfInBounds i true) ∧ S (listed.setIfInBounds i true) w') (A listed) w)
    (hend : ∀ listed w, listed.size = ops.size → (listed.toList.all id) = true → S listed w → Q .normal (A listed) w) :
    ∀ fuel listed w, listed.size = ops.size → listed.toList.count false ≤ fuel → S listed w → wpAnyIn F n P md ops Q fuel listed (A listed) w
  | 0, listed, w, hs, hc, hS => by
    have hall : listed.toList.all id = true := by
      rw [List.all_eq_true]
      intro x hx
      cases x
      · have := List.count_pos_iff.2 hx; omega
      · rfl
    refine ⟨?_, hend listed w hs hall hS⟩
    unfold Region.ready
    rw [List.filter_eq_nil_iff]
    intro i hi
    rw [List.mem_range] at hi
    have hi' : i < listed.size := by omega
    have : listed.getD i true = true := by
      have h1 := List.all_eq_true.1 hall listed[i] (by simp)
      simp only [id] at h1
      simp [Array.getD, hi', h1]
    simp [this]
  | fuel + 1, listed, w, hs, hc, hS => by
    refine ⟨fun h0 => hend listed w hs ?_ hS, fun i hi => ?_⟩
    · have h1 := List.all_eq_true.1 hends listed.toList (by have := mem_masks listed.toList; rwa [Array.length_toList, hs] at this)
      simpa [h0] using h1
    · refine wpOpIn_mono ?_ (hstep listed w i hs hi hS)
      rintro a' w' ⟨rfl, hS'⟩
      refine wpAnyIn_held hends hstep hend fuel _ w' (by simpa using hs) ?_ hS'
      have hu : listed.toList[i]? = some false := by
        unfold Region.ready at hi
        rw [List.mem_filter, Bool.and_eq_true, List.mem_range] at hi
        have hi' : i < listed.size := by omega
        have := hi.2.1
        simp [Array.getD, hi'] at this
        simp [hi', this]
      have := count_set listed.toList i hu
      simp only [Array.toList_setIfInBounds]
      omega

theorem count_rep (k : Nat) : (List.replicate k false).count false = k := by simp
theorem wpIn_region_held {A : Array Bool → Act} {S : Array Bool → World → Prop} {id' : Nat} {a : Act} {w : World} (hm : P.follows .mixedOrders = true) (hends : Region.endsB .any ops = true)
    (ha : A (Array.replicate ops.size false) = a) (hS : S (Array.replicate ops.size false) { w with drawn := w.drawn + 1 })
    (hstep : ∀ listed w i, listed.size = ops.size → i ∈ Region.ready .any ops listed → S listed w → wpOpIn F n P ops Q i (fun a' w' => a' = A (listed.setIfInBounds i true) ∧ S (listed.setIfInBounds i true) w') (A listed) w)
    (hend : ∀ listed w, listed.size = ops.size → (listed.toList.all id) = true → S listed w → Q .normal (A listed) w) : (Code.region id' ops true).wpIn F n P Q a w := by
  subst ha
  exact wpIn_region_any hm (wpAnyIn_held hends hstep hend ops.size _ _ (by simp) (by simp) hS)

end
end Go

/- It is proved what the iterator over a set's parts yields; conditions: those of each statement. -/
namespace Go.Proofs.YtacglafoahmcnaaDoor
open Go.RowKit Go.Shelf

attribute [local go_sem] Oper.semAt_some

/-- What a round must keep: the cell with the set. -/
def CellK (Bs : Nat) (v : Value) (A B : World) : Prop := A.cell? ⟨Bs, 0, none⟩ = some v → B.cell? ⟨Bs, 0, none⟩ = some v

end Go.Proofs.YtacglafoahmcnaaDoor

/- It is proved what the iterators over the members and the parts of a set of places yield; conditions: those of each statement. -/
namespace Go.Proofs.YtacglafoahmcnaaDoor
open Go.RowKit Go.Shelf

attribute [local go_sem] Oper.semAt_some

set_option maxRecDepth 100000 in
theorem memW_cons_fin : ∀ s : Fin 256, s.val ≠ 0 → memK 8 s.val = Lib.ctz 64 s.val :: memK 8 (s.val &&& (s.val - 1)) := by decide +kernel

theorem memW_cons (s : Nat) (hs : s < 256) (h : s ≠ 0) : memK 8 s = Lib.ctz 64 s :: memK 8 (s &&& (s - 1)) := memW_cons_fin ⟨s, hs⟩ h
theorem memK_len (k s : Nat) : (memK k s).length ≤ k := by unfold memK; exact Nat.le_trans (List.length_filter_le _ _) (by simp)
theorem memK_lt {k s v : Nat} (h : v ∈ memK k s) : v < k := List.mem_range.1 (List.mem_filter.1 h).1
theorem memW_is {k s : Nat} (hk : k ≤ 8) (hs : s < 2 ^ k) : memK 8 s = memK k s := by
  unfold memK
  obtain ⟨d, hd⟩ : ∃ d, 8 = k + d := ⟨8 - k, by omega⟩
  rw [hd, List.range_add, List.filter_append]
  have : (List.map (fun x => k + x) (List.range d)).filter (fun i => s.testBit i) = [] := by
    rw [List.filter_eq_nil_iff]
    intro i hi
    obtain ⟨j, -, rfl⟩ := List.mem_map.1 hi
    rw [Nat.testBit_lt_two_pow (Nat.lt_of_lt_of_le hs (Nat.pow_le_pow_right (by decide) (by omega)))]
    decide
  rw [this, List.append_nil]

theorem tzW_any (x : Nat) (hx0 : x ≠ 0) (hx : x < 256) (w : World) (hT : Tab w) :
    Calls Tryd.prog 90 #[.int .u64 x] w fun e w' => e = .returned (.int .i64 (Lib.ctz 64 x : Nat)) ∧ w = w' := by
  obtain ⟨hlow, hk⟩ := Lib.lowest_bit 64 x hx0 (by omega)
  obtain ⟨hi, htab⟩ := Lib.deBruijn64_at _ hk
  have hcell := hT _ hi
  rw [htab] at hcell
  have H := tz64_coreD x _ _ w (by simp; omega) (tz64_key x _ (by omega) hx0 hlow) hi hk hcell
  clear hT hcell htab hi hlow
  go_enter Tryd.func90, Tryd.ntmps90
  go_wp2_with (go_at_call 123; refine H.mono ?_; rintro e w' ⟨rfl, rfl⟩)
  go_ret
  exact ⟨rfl, rfl⟩

theorem lowW_and (t : Nat) (h0 : t ≠ 0) (h : t < 256) : bits BinOp.and IntKind.u64 (t : Int) ((t : Int) - 1) = ((t &&& (t - 1) : Nat) : Int) := by
  rw [show (t : Int) - 1 = ((t - 1 : Nat) : Int) from by omega, bits_and_u64_nat t _ (by omega) (by omega)]

/-- A place of s. -/
abbrev MemW (s : Nat) := { v : Nat // v ∈ memK 8 s }

def valsW {s : Nat} (ys : List (MemW s)) : List Nat := ys.map (·.1)
theorem valsW_snoc {s : Nat} (ys : List (MemW s)) (y : MemW s) : valsW (ys ++ [y]) = valsW ys ++ [y.1] := by simp [valsW]
set_option maxRecDepth 100000 in
set_option maxHeartbeats 2000000 in
theorem membersW1_in (n : Nat) (hn : 1 ≤ n) (l Bs n₀ s : Nat) (hs64 : s < 256) (J Jx : List (MemW s) → World → Prop)
    (hY : ∀ pre x W, J pre W → pre.length < 8 → valsW (pre ++ [x]) <+: memK 8 s → YieldAt Fence.wide (n - 1) Tryd.prog l #[.int .i64 (x.1 : Int)] W fun e W' =>
      (e = .returned (.bool true) ∧ J (pre ++ [x]) W' ∧ Below n₀ W W') ∨ (e = .returned (.bool false) ∧ Jx (pre ++ [x]) W'))
    (W : World) (hBs : W.cell? ⟨Bs, 0, none⟩ = some (.int .i64 (s : Int))) (hT : Tab W) (hn0 : 1 < n₀) (h0 : J [] W) :
    CallsIn Fence.wide n Tryd.prog 89 #[.func (.yield l) #[] #[], .pointer (some ⟨Bs, 0, none⟩)] W fun e W' => (∃ v, e = .returned v) ∧
      ((∃ ys, valsW ys = memK 8 s ∧ J ys W') ∨ (∃ pre, valsW pre <+: memK 8 s ∧ Jx pre W')) := by
  have hss : (s : Int) < 256 := by omega
  refine callsIn_of_wp Tryd.func89 rfl trivial ?_ rfl
  simp only [Tryd.ntmps89, List.size_toArray, List.length_cons, List.length_nil, Nat.reduceAdd, Nat.reduceSub, Array.replicate_succ, Array.replicate_zero, List.push_toArray, List.append_toArray, List.nil_append, List.cons_append]
  gi_wp2
  gi_loopw [3] (fun r wr => ∃ (t : Nat) (pre : List (MemW s)), t < 256 ∧ valsW pre ++ memK 8 t = memK 8 s ∧ r = .int .u64 (t : Int) ∧ J pre wr ∧ Below n₀ W wr)
    (fun r _ => (intOf r).toNat)
  case atStart => exact ⟨s, [], hs64, by simp [valsW], rfl, h0, Below.refl _ _⟩
  case round =>
    obtain ⟨t, pre, ht, hpre, rfl, hJs, hnx⟩ := hrel
    by_cases h0 : t = 0
    · subst h0
      rw [show memK 8 0 = [] from rfl, List.append_nil] at hpre
      gi_wp2
      go_end0
      exact ⟨⟨_, rfl⟩, .inl ⟨pre, hpre, hJs⟩⟩
    · have hc := memW_cons t ht h0
      rw [hc] at hpre
      have hk : Lib.ctz 64 t ∈ memK 8 s := by rw [← hpre]; simp
      have hlen : pre.length < 8 := by
        have h1 := memK_len 8 s
        rw [← hpre] at h1
        simp [valsW] at h1
        omega
      have HA := Lib.hid (lowW_and t h0 ht)
      have hT2 : Tab wr := hT.below hnx hn0
      have hpre' : valsW (pre ++ [(⟨Lib.ctz 64 t, hk⟩ : MemW s)]) ++ memK 8 (t &&& (t - 1)) = memK 8 s := (by rw [valsW_snoc, List.append_assoc]; exact hpre)
      have hlt : t &&& (t - 1) < t := by have := @Nat.and_le_right t (t - 1); omega
      obtain ⟨fn, tmps, assign, body, hy, hR⟩ := hY _ ⟨Lib.ctz 64 t, hk⟩ wr hJs hlen ⟨_, hpre'⟩
      dsimp only at hy
      have ht0 : (0 : Int) < (t : Int) := by omega
      clear hc hpre
      gi_wp2
      refine ⟨trivial, (callsIn_wide.2 (tzW_any t h0 ht _ hT2)).mono ?_⟩
      rintro e w' ⟨rfl, rfl⟩
      gi_wp2
      refine hR.mono ?_
      rintro e W3 (⟨rfl, hJ3, hk3⟩ | ⟨rfl, hJx3⟩)
      · gi_wp2
        go_roundw
        case rel => exact ⟨t &&& (t - 1), _, by omega, hpre', by rw [HA.out], hJ3, hnx.trans hk3⟩
        case measure => rw [HA.out]; simp only [intOf]; omega
      · gi_wp2
        refine bodyPost_ret (results_none rfl _ _ _) rfl ?_
        exact ⟨⟨_, rfl⟩, .inr ⟨_, ⟨memK 8 (t &&& (t - 1)), hpre'⟩, hJx3⟩⟩

theorem membersW_stops (n : Nat) (hn : 1 ≤ n) (Bs n₀ s : Nat) (hs : s < 256) (w : World) (hBs : Bs < w.heap.size) (hn₀ : n₀ ≤ w.heap.size) (hn1 : 1 < n₀)
    (hc : w.cell? ⟨Bs, 0, none⟩ = some (.int .i64 (s : Int))) (hT : Tab w) :
    SeqStopsK Fence.wide n Tryd.prog 89 #[.pointer (some ⟨Bs, 0, none⟩)] (fun x : MemW s => #[Value.int .i64 (x.1 : Int)]) (Below n₀) (fun ys => valsW ys = memK 8 s)
      (fun pre => valsW pre <+: memK 8 s) 8 w := fun l J Jx W hW _ _ hY h0 =>
  membersW1_in n hn l Bs n₀ s hs J Jx (fun pre x W h1 h2 _ => hY pre x W h1 h2) W ((hW.cell (p := ⟨Bs, 0, none⟩) hBs).trans hc) (hT.below hW (by omega)) hn1 h0

/-- A number below N. -/
abbrev PrtF (N : Nat) := { s : Nat // s < N }

def valsF {N : Nat} (ys : List (PrtF N)) : List Nat := ys.map (·.1)
theorem valsF_snoc {N : Nat} (ys : List (PrtF N)) (y : PrtF N) : valsF (ys ++ [y]) = valsF ys ++ [y.1] := by simp [valsF]
set_option maxRecDepth 100000 in
theorem nextF_fin : ∀ k : Fin 9, ∀ t : Fin 256, t.val < 2 ^ k.val - 1 → bits .and .i64 ((t.val : Int) - (2 ^ k.val - 1)) (2 ^ k.val - 1) = (t.val : Int) + 1 := by decide +kernel

theorem full_lt {k : Nat} (hk : k ≤ 8) : 1 ≤ 2 ^ k ∧ 2 ^ k ≤ 256 := ⟨Nat.one_le_two_pow, Nat.pow_le_pow_right (n := 2) (by decide) hk⟩
theorem cast_full (k : Nat) : ((2 ^ k - 1 : Nat) : Int) = 2 ^ k - 1 := by
  have : 1 ≤ 2 ^ k := Nat.one_le_two_pow
  have h2 : ((2 ^ k : Nat) : Int) = (2 : Int) ^ k := by norm_cast
  omega

set_option maxRecDepth 100000 in
set_option maxHeartbeats 2000000 in
theorem partsF1_in (n : Nat) (hn : 1 ≤ n) (l Bs k N : Nat) (hN : N = 2 ^ k) (hk8 : k ≤ 8) (c : Int) (hc : c = ((2 ^ k - 1 : Nat) : Int)) (J Jx : List (PrtF N) → World → Prop)
    (hY : ∀ pre x W, J pre W → pre.length < N → valsF pre = List.range x.1 → YieldAt Fence.wide (n - 1) Tryd.prog l #[.int .i64 (x.1 : Int)] W fun e W' =>
      (e = .returned (.bool true) ∧ J (pre ++ [x]) W' ∧ CellK Bs (.int .i64 c) W W') ∨ (e = .returned (.bool false) ∧ Jx (pre ++ [x]) W'))
    (W : World) (hBs : W.cell? ⟨Bs, 0, none⟩ = some (.int .i64 c)) (h0 : J [] W) :
    CallsIn Fence.wide n Tryd.prog 140 #[.func (.yield l) #[] #[], .pointer (some ⟨Bs, 0, none⟩)] W fun e W' => (∃ v, e = .returned v) ∧
      ((∃ ys, valsF ys = List.range N ∧ J ys W') ∨ (∃ pre, (∃ j, j ≤ N ∧ valsF pre = List.range j) ∧ Jx pre W')) := by
  obtain ⟨hk1, hk2⟩ := full_lt hk8
  have hcN : c = (N : Int) - 1 := by rw [hc, ← hN]; omega
  have HNX : Hid (∀ t : Nat, t < N - 1 → bits .and .i64 ((t : Int) - c) c = (t : Int) + 1) := Lib.hid (fun t ht => by
    have h := nextF_fin ⟨k, by omega⟩ ⟨t, by omega⟩ (by rw [← hN]; exact ht)
    have e : (2 : Int) ^ k - 1 = c := by rw [hc, cast_full]
    simp only [e] at h
    exact h)
  have hcA : c ≤ (N : Int) - 1 := by omega
  have hcB : (N : Int) - 1 ≤ c := by omega
  have HNK := Lib.hid hN
  rw [← hN] at hk1 hk2
  clear hN hc hcN
  refine callsIn_of_wp Tryd.func140 rfl trivial ?_ rfl
  simp only [Tryd.ntmps140, List.size_toArray, List.length_cons, List.length_nil, Nat.reduceAdd, Nat.reduceSub, Array.replicate_succ, Array.replicate_zero, List.push_toArray, List.append_toArray, List.nil_append, List.cons_append]
  gi_wp2
  gi_loopw [3] (fun r wr => ∃ (t : Nat) (pre : List (PrtF N)), t < N ∧ valsF pre = List.range t ∧ r = .int .i64 (t : Int) ∧ J pre wr ∧ wr.cell? ⟨Bs, 0, none⟩ = some (.int .i64 c))
    (fun r _ => N - (intOf r).toNat)
  case atStart => exact ⟨0, [], by omega, rfl, rfl, h0, hBs⟩
  case round =>
    obtain ⟨t, pre, ht, hpre, rfl, hJs, hcl⟩ := hrel
    have hlen : pre.length < N := by
      have := congrArg List.length hpre
      simp [valsF] at this
      omega
    obtain ⟨x, hx⟩ : ∃ x : PrtF N, x.1 = t := ⟨⟨t, ht⟩, rfl⟩
    have HPX : Hid (valsF (pre ++ [x]) = List.range (t + 1)) := Lib.hid (by rw [valsF_snoc, hx, hpre, List.range_succ])
    obtain ⟨fn, tmps, assign, body, hy, hR⟩ := hY _ x wr hJs hlen (by rw [hx]; exact hpre)
    rw [hx] at hy
    have HX := Lib.hid hx
    have HC := Lib.hid hcl
    clear hx hpre
    have ht0 : (0 : Int) ≤ (t : Int) := by omega
    have ht1 : (t : Int) < 256 := by omega
    have hc0 : (0 : Int) ≤ c := by omega
    have hc1 : c < 256 := by omega
    gi_wp2
    refine hR.mono ?_
    rintro e W3 (⟨rfl, hJ3, hk3⟩ | ⟨rfl, hJx3⟩)
    · have hc3 := hk3 HC.out
      clear hk3
      by_cases e : t + 1 = N
      · have heI : ((t : Int) == c) = true := by rw [beq_iff_eq]; omega
        have HE := Lib.hid e
        clear e
        gi_wp2
        go_end0
        exact ⟨⟨_, rfl⟩, .inl ⟨_, by rw [HPX.out, HE.out], hJ3⟩⟩
      · have heI : ((t : Int) == c) = false := by rw [beq_eq_false_iff_ne]; omega
        have HN1 := Lib.hid (HNX.out t (by omega))
        have HT1 : Hid (t + 1 < N) := Lib.hid (by omega)
        clear e
        gi_wp2
        go_roundw
        case rel => exact ⟨t + 1, _, HT1.out, HPX.out, by rw [HN1.out]; rfl, hJ3, hc3⟩
        case measure => rw [HN1.out]; have := HT1.out; simp only [intOf]; omega
    · gi_wp2
      go_end0
      exact ⟨⟨_, rfl⟩, .inr ⟨_, ⟨t + 1, by omega, HPX.out⟩, hJx3⟩⟩

theorem partsF_stops (n : Nat) (hn : 1 ≤ n) (Bs k : Nat) (hk8 : k ≤ 8) (c : Int) (hc : c = ((2 ^ k - 1 : Nat) : Int)) (w : World) (hBs : Bs < w.heap.size) (hcl : w.cell? ⟨Bs, 0, none⟩ = some (.int .i64 c)) :
    SeqStopsK Fence.wide n Tryd.prog 140 #[.pointer (some ⟨Bs, 0, none⟩)] (fun x : PrtF (2 ^ k) => #[Value.int .i64 (x.1 : Int)]) (CellK Bs (.int .i64 c)) (fun ys => valsF ys = List.range (2 ^ k))
      (fun pre => ∃ j, j ≤ 2 ^ k ∧ valsF pre = List.range j) (2 ^ k) w := fun l J Jx W hW _ _ hY h0 =>
  partsF1_in n hn l Bs k (2 ^ k) rfl hk8 c hc J Jx (fun pre x W h1 h2 _ => hY pre x W h1 h2) W ((hW.cell (p := ⟨Bs, 0, none⟩) hBs).trans hcl) h0

theorem partsW_any (c : Int) (w : World) : Calls Tryd.prog 120 #[.int .i64 c] w fun e w' => e = .returned (.func (.func 140) #[] #[.pointer (some ⟨w.heap.size, 0, none⟩)]) ∧ w' = w.alloc (.cells #[.int .i64 c] 50) := by
  go_enter Tryd.func120, Tryd.ntmps120
  go_wp2
  go_ret
  exact ⟨rfl, rfl⟩

set_option maxRecDepth 100000 in
theorem sizeW_any (z : Nat) (w : World) (h : z < 256) : Calls Tryd.prog 53 #[.int .i64 (z : Int)] w fun e w' => e = .returned (.int .i64 ((memK 8 z).length : Int)) ∧ w = w' := by
  go_enter Tryd.func53, Tryd.ntmps53
  go_wp2
  go_ret
  refine ⟨ret_int ?_, rfl⟩
  obtain ⟨i, rfl⟩ : ∃ i : Fin 256, z = i.val := ⟨⟨z, h⟩, rfl⟩
  clear h
  revert i
  decide +kernel

end Go.Proofs.YtacglafoahmcnaaDoor
