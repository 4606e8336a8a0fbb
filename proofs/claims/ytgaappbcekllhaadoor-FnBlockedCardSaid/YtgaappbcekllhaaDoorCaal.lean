/- It is proved what pairs returns; conditions: those of each statement. -/
import Derived.Shelf.RegionOpen
import Derived.RowKit
import Derived.Laws.CopyRow
import Derived.Lib.SlBuf
import Derived.Deep.QuietTactic
import Derived.RangeFuncNested
import Derived.RangeFuncBound
import Derived.RangeFuncCalls
import Derived.RangeFuncLeaves
import Derived.RangeFuncBox
import Derived.RangeFuncWrites
import Derived.StillTailTactics
import Derived.Maps.OwnIn
import Derived.Maps.Ext
import Derived.DeepKeys4
import Derived.MapKept
import Derived.Test.YtgaappbcekllhaaDoorRows
import Derived.WalkKit
import Derived.WalkSpells
import Derived.ProofKit
import Derived.OpenShut
import Derived.ShutString
import Derived.ChangeOld
import Derived.Below
import Derived.Deep.RegionHeld3
import Derived.BigQuiet
import Derived.Lib.Hide
import Derived.Lib.SmallJoins
import Derived.Outline
import Derived.Laws.MakeOwn
import Derived.Laws.OwnMore
import Derived.IntWalk
import Derived.Lib.AppendZeros
import Derived.Maps.AppendAt
import Derived.Deep.AppendLies
import Derived.OwnWalk
import Derived.Lib.SlicesCompact
import Derived.Lib.OwnBridge
import Derived.OrdersIn
import Derived.TacticsIn
import Derived.Shelf.Sort.Plain
import Derived.Shelf.Slices.In.SortNone
import Derived.Shelf.Slices.CompactI
import Derived.Ground.Names2Prog
import Derived.Lib.SliceRun
import Derived.Shelf.Abstract
import Derived.OwnWalkIn
import Derived.TacticsInMore
import Derived.LoopNIn
import Derived.LoopIn
import Derived.StillTail
import Derived.StillTactics
import Derived.Shelf.Spec.TrailingZeros
import Derived.Test.YtgaappbcekllhaaDoorCaaa
import Derived.Test.YtgaappbcekllhaaDoorCaab
import Derived.Test.YtgaappbcekllhaaDoorCaac
import Derived.Test.YtgaappbcekllhaaDoorCaad
import Derived.Test.YtgaappbcekllhaaDoorCaaf
import Derived.Test.YtgaappbcekllhaaDoorCaag
import Derived.Test.YtgaappbcekllhaaDoorCaaj
import Derived.Test.YtgaappbcekllhaaDoorMa
import Derived.Test.YtgaappbcekllhaaDoorMb
import Derived.Test.YtgaappbcekllhaaDoorCaae
namespace Go.Proofs.YtgaappbcekllhaaDoor
open Go.RowKit Go.Shelf

attribute [local go_sem] Oper.semAt_some

/-- The worst of some sets of places, 0 at least. -/
def wrstP (zs : List Int) (qs : List Nat) : Int := qs.foldl (fun b q => max b (overP zs q)) 0

theorem wrstP_snoc (zs : List Int) (qs : List Nat) (q : Nat) : wrstP zs (qs ++ [q]) = max (wrstP zs qs) (overP zs q) := by simp [wrstP]
theorem wrstP_range (zs : List Int) : ∀ n : Nat, (0 ≤ wrstP zs (List.range n) ∧ wrstP zs (List.range n) ≤ 8) ∧ (∀ q, q < n → overP zs q ≤ wrstP zs (List.range n)) ∧ (wrstP zs (List.range n) = 0 ∨ ∃ q, q < n ∧ wrstP zs (List.range n) = overP zs q)
  | 0 => ⟨by simp [wrstP], fun q h => by omega, .inl rfl⟩
  | n + 1 => by
    obtain ⟨⟨h1, h2⟩, h3, h4⟩ := wrstP_range zs n
    have hb := overP_bound zs n
    rw [List.range_succ, wrstP_snoc]
    refine ⟨by omega, fun q hq => ?_, ?_⟩
    · by_cases e : q = n
      · subst e; omega
      · have := h3 q (by omega); omega
    · by_cases e : wrstP zs (List.range n) ≤ overP zs n
      · exact .inr ⟨n, by omega, by omega⟩
      · rcases h4 with h4 | ⟨q, hq, h4⟩
        · exact .inl (by omega)
        · exact .inr ⟨q, by omega, by omega⟩

theorem wrstP_bound (zs : List Int) : ∀ qs : List Nat, 0 ≤ wrstP zs qs ∧ wrstP zs qs ≤ 8 := by
  intro qs
  unfold wrstP
  suffices h : ∀ (qs : List Nat) (b : Int), 0 ≤ b ∧ b ≤ 8 → 0 ≤ qs.foldl (fun b q => max b (overP zs q)) b ∧ qs.foldl (fun b q => max b (overP zs q)) b ≤ 8 from h qs 0 (by omega)
  intro qs
  induction qs with
  | nil => intro b h; exact h
  | cons q qs ih => intro b h; exact ih _ (by have := overP_bound zs q; dsimp only; omega)

theorem memK_zero (k : Nat) : memK k 0 = [] := by
  unfold memK
  rw [List.filter_eq_nil_iff]
  simp

theorem overK_is {m : Nat} {zs : List Int} (hz : Sets m zs) (h8 : zs.length ≤ 8) {p : Nat} (hp : p < 2 ^ zs.length) : overK zs (2 ^ m - 1) p = overP zs p := by
  have h1 : cntK zs.length p = cntK 8 p := by unfold cntK; rw [memW_is h8 hp]
  have h2 : togK zs p &&& (2 ^ m - 1) = togK zs p := by
    apply Nat.eq_of_testBit_eq
    intro v
    rw [Nat.testBit_and, Nat.testBit_two_pow_sub_one]
    cases hv : (togK zs p).testBit v
    · rfl
    · obtain ⟨i, hi, -, hb⟩ := tog_bit.1 hv
      have hzi := (hz _ (at_in hi)).2
      have : v < m := Classical.byContradiction fun h => by
        have : (zs[i]?.getD 0).toNat.testBit v = false := Nat.testBit_lt_two_pow (Nat.lt_of_lt_of_le hzi (Nat.pow_le_pow_right (by decide) (by omega)))
        rw [this] at hb; cases hb
      simp [this]
  unfold overK overP
  rw [h1, h2]

/-- All clubs but the worst is the most that get a member. -/
theorem pairs_is {m : Nat} (hm : m ≤ 6) {zs : List Int} (hz : Sets m zs) (h8 : zs.length ≤ 8) : (zs.length : Int) - wrstP zs (List.range (2 ^ zs.length)) = ((matM zs (2 ^ m - 1) : Nat) : Int) := by
  have hm64 : 2 ^ m - 1 < 64 := by have := Nat.pow_le_pow_right (n := 2) (by decide) hm; have := Nat.two_pow_pos m; omega
  obtain ⟨u, p, hp, e⟩ := ore zs (2 ^ m - 1) hm64
  obtain ⟨-, w2, w3⟩ := wrstP_range zs (2 ^ zs.length)
  have h0 := u 0 (Nat.two_pow_pos _)
  have e0 : overK zs (2 ^ m - 1) 0 = 0 := by
    have h1 : cntK zs.length 0 = 0 := by unfold cntK; rw [memK_zero]; rfl
    have h2 : togK zs 0 = 0 := by unfold togK; rw [memK_zero]; rfl
    unfold overK
    rw [h1, h2, Nat.zero_and]
    unfold cntK
    rw [memK_zero]
    rfl
  rw [overK_is hz h8 hp] at e
  have := w2 p hp
  rcases w3 with w3 | ⟨q, hq, w3⟩
  · omega
  · have h2 := u q hq
    rw [overK_is hz h8 hq] at h2
    omega

set_option maxRecDepth 100000 in
set_option maxHeartbeats 4000000 in
theorem pairs_any (k : Nat) (hk6 : k ≤ 6) (a : Option Addr) (c : Nat) (zs : List Int) (w : World) (ha : Ints w w.heap.size a zs) (h8 : zs.length ≤ 8) (hz : Sets k zs) (hT : Tab w) :
    Calls Tryd.prog 17 #[.agg #[.int .i64 (k : Int), .slice a zs.length c]] w fun e w' => e = .returned (.int .i64 ((matM zs (2 ^ k - 1) : Nat) : Int)) ∧ Below w.heap.size w w' := by
  have HZ := Lib.hid (pairs_is hk6 hz h8)
  have HSET := Lib.hid hz
  obtain ⟨n, hn⟩ : ∃ n, n = zs.length := ⟨_, rfl⟩
  have HN := Lib.hid hn
  have hT1 := hT.lt
  have HT := Lib.hid hT
  have h16 : 1 ≤ 6 := by omega
  have hmx : Tryd.prog.follows .mixedOrders = true := by kernel_rfl
  have hn8 : n ≤ 8 := by omega
  have HI0 := Lib.hid ha
  rw [← hn] at HZ ⊢
  clear hz hn hT ha
  obtain ⟨W2, hW2, q0, q1, hs2, hb2⟩ : ∃ W2, (w.alloc (.cells #[.int .i64 (k : Int), .slice a n c] 25)).alloc (.cells #[.int .i64 0] 3) = W2 ∧ HasBlk W2 w.heap.size #[.int .i64 (k : Int), .slice a n c] 25 ∧ HasBlk W2 (w.heap.size + 1) #[.int .i64 0] 3 ∧ W2.heap.size = w.heap.size + 1 + 1 ∧ Below w.heap.size w W2 :=
    ⟨_, rfl, alloc2_0 w _ _, alloc2_1 w _ _, by simp, below2 w _ _⟩
  obtain ⟨W4, hW4, r1, hs4, hb4⟩ : ∃ W4, (W2.alloc (.cells #[.int .i64 (k : Int), .slice a n c] 25)).alloc (.cells #[.int .i64 ((2 ^ n - 1 : Nat) : Int)] 40) = W4 ∧ HasBlk W4 (w.heap.size + 1 + 1 + 1) #[.int .i64 ((2 ^ n - 1 : Nat) : Int)] 40 ∧ W4.heap.size = W2.heap.size + 1 + 1 ∧ Below W2.heap.size W2 W4 :=
    ⟨_, rfl, by have := alloc2_1 W2 (.cells #[.int .i64 (k : Int), .slice a n c] 25) (.cells #[.int .i64 ((2 ^ n - 1 : Nat) : Int)] 40); rwa [hs2] at this, by simp, below2 W2 _ _⟩
  have hb04 := hb2.trans (hb4.mono (show w.heap.size ≤ W2.heap.size by omega))
  have hst := partsF_stops (6 - 1) (by omega) (w.heap.size + 1 + 1 + 1) n hn8 ((2 ^ n - 1 : Nat) : Int) rfl W4 (by omega) ((blk_cell r1 0).trans (cell1_0 _))
  have HST := Lib.hid hst
  have HQ0 : Hid (HasBlk W4 w.heap.size #[.int .i64 (k : Int), .slice a n c] 25) := Lib.hid ((hb4.block _ (by omega)).trans q0)
  have HQ1 : Hid (HasBlk W4 (w.heap.size + 1) #[.int .i64 0] 3) := Lib.hid ((hb4.block _ (by omega)).trans q1)
  have HQ2 := Lib.hid r1
  have HB4 := Lib.hid hb04
  have HW2 := Lib.hid hW2
  have HW4 := Lib.hid hW4
  have HS2 := Lib.hid hs2
  have HS4 := Lib.hid hs4
  clear hW2 q0 q1 hs2 hb2 hW4 r1 hs4 hb4 hb04 hst
  refine (callsIn_wide (n := 6)).1 ?_
  refine callsIn_of_wp_marks Tryd.func17 rfl trivial ?_ rfl
  simp only [Tryd.ntmps17, List.size_toArray, List.length_cons, List.length_nil, Nat.reduceAdd, Nat.reduceSub, Array.replicate_succ, Array.replicate_zero, List.push_toArray, List.append_toArray, List.nil_append, List.cons_append]
  gi_wp2_with (first
    | (refine ⟨trivial, ?_⟩; gi_at_call 26; refine (callsIn_wide.2 (places_any _ _ _ _ _ hn8)).mono ?_; rintro e w' ⟨rfl, rfl⟩)
    | (refine ⟨trivial, ?_⟩; gi_at_call 35; refine (callsIn_wide.2 (partsW_any _ _)).mono ?_; rintro e w' ⟨rfl, rfl⟩))
  rw [HW2.out, HW4.out]
  refine wpIn_rangeFunc_ownG rfl h16 (gf := 44) (lb := #[.pointer (some ⟨w.heap.size + 1 + 1 + 1, 0, none⟩)]) rfl trivial (enters_of Tryd.func44 (by kernel_rfl) rfl)
    HST.out (fun h k e => k (h e)) ?keepc (Below.refl _ _) (fun _ => rfl)
    (fun pre W => (HasBlk W (w.heap.size + 1) #[.int .i64 (wrstP zs (valsF pre))] 3 ∧ HasBlk W w.heap.size #[.int .i64 (k : Int), .slice a n c] 25 ∧ HasBlk W (w.heap.size + 1 + 1 + 1) #[.int .i64 ((2 ^ n - 1 : Nat) : Int)] 40) ∧ Below w.heap.size w W)
    (fun _ _ _ => False)
    ?own
    (fun _ _ _ _ _ hs _ _ => hs)
    ⟨⟨HQ1.out, HQ0.out, HQ2.out⟩, HB4.out⟩
    (fun x => { tmps := #[.agg #[.int .i64 (k : Int), .slice a n c], .pointer (some ⟨w.heap.size, 0, none⟩), .int .i64 0, .pointer (some ⟨w.heap.size + 1, 0, none⟩), .int .i64 (x.1 : Int), .agg #[.int .i64 (k : Int), .slice a n c], .int .i64 ((2 ^ n - 1 : Nat) : Int), .func (.func 44) #[] #[.pointer (some ⟨w.heap.size + 1 + 1 + 1, 0, none⟩)], .int .i64 (x.1 : Int), undef, undef, undef, undef, undef, undef, undef, undef, undef, undef], defers := [] }) ?assign ?body ?done ?stop
  case keepc =>
    intro W' l' o o' hl' ho hoc _ hc
    have hne : w.heap.size + 1 + 1 + 1 ≠ l' := by have := HS4.out; have := HS2.out; omega
    rw [← hc]
    exact World.cell?_of_block (World.putObj_heap_other hne)
  case own =>
    rintro s A B row ⟨⟨h1, h2, h3⟩, h5⟩ hg hr
    have hr' : ∀ (b : Nat) (cs : Array Value) (t : TypeId), HasBlk A b cs t → row ≠ some b := fun b cs t hb e => by
      obtain ⟨-, o, ho, hc⟩ := hr b e
      rw [show A.heap[b]? = _ from hb] at ho; cases ho; cases hc
    exact ⟨⟨h1.kept hg (hr' _ _ _ h1), h2.kept hg (hr' _ _ _ h2), h3.kept hg (hr' _ _ _ h3)⟩, h5.grown hg (by have := h5.size; omega) (fun r e => by have := (hr r e).1; have := HS2.out; have := HS4.out; omega)⟩
  case assign =>
    intro l x W K hK
    gi_wp2
    exact hK
  case body =>
    rintro l pre ⟨x, hxN⟩ W ⟨⟨h1, h2, h3⟩, hB⟩ hlt
    obtain ⟨xx, hxx⟩ : ∃ xx : PrtF (2 ^ n), xx = ⟨x, hxN⟩ := ⟨_, rfl⟩
    have hov := over_any k hk6 a c zs x W.drew (show Ints W W.heap.size a zs from (HI0.out.below hB).mono hB.size) (by rw [← HN.out]; exact hn8) HSET.out (by rw [← HN.out]; exact hxN) (show Tab W from HT.out.below hB hT1)
    rw [← HN.out] at hov
    have HOV := Lib.hid hov
    have HSN : Hid (wrstP zs (valsF (pre ++ [xx])) = max (wrstP zs (valsF pre)) (overP zs x)) := Lib.hid (by rw [valsF_snoc, hxx, wrstP_snoc])
    obtain ⟨hw0, hw8⟩ := wrstP_bound zs (valsF pre)
    obtain ⟨ho0, ho8⟩ := overP_bound zs x
    obtain ⟨M, hM⟩ : ∃ M, M = wrstP zs (valsF pre) := ⟨_, rfl⟩
    obtain ⟨V, hV⟩ : ∃ V, V = overP zs x := ⟨_, rfl⟩
    rw [← hM] at HSN hw0 hw8 h1
    rw [← hV] at HSN ho0 ho8 HOV
    have x0 := (blk_cell h2 0).trans (cell2_0 _ _)
    have x1 := (blk_cell h2 1).trans (cell2_1 _ _)
    have y0 := (blk_cell h1 0).trans (cell1_0 _)
    have H1 := Lib.hid h1
    have H2 := Lib.hid h2
    have H3 := Lib.hid h3
    have HB := Lib.hid hB
    dsimp only
    rw [← hxx]
    clear h1 h2 h3 hB hxx hov hM hV
    have m1 := blk_frozen H1.out 0
    have hlt1 : w.heap.size + 1 < W.drew.heap.size := lt_of_some H1.out
    gi_wp2
    gi_region_with_o (refine ⟨trivial, ?_⟩; gi_at_call 36; refine (CallsIn.inRound l (callsIn_wide.2 HOV.out)).mono ?_; rintro e w2 ⟨rfl, hb2⟩; have e1 := (hb2.cell (p := ⟨w.heap.size + 1, 0, none⟩) hlt1).trans y0; have ef1 := (hb2.frozen (p := ⟨w.heap.size + 1, 0, none⟩) hlt1).trans m1)
    all_goals
      have HB2 : Hid (Below W.heap.size W w2) := Lib.hid ⟨hb2.os, hb2.tape, hb2.output, hb2.size, hb2.block⟩
      have ef2 := (hb2.frozen (p := ⟨w.heap.size + 1, 0, none⟩) hlt1).trans m1
      clear hb2
      gi_wp2
      have h1' : HasBlk w2 (w.heap.size + 1) #[.int .i64 M] 3 := (HB2.out.block _ (lt_of_some H1.out)).trans H1.out
      have h3' : HasBlk w2 (w.heap.size + 1 + 1 + 1) #[.int .i64 ((2 ^ n - 1 : Nat) : Int)] 40 := (HB2.out.block _ (lt_of_some H3.out)).trans H3.out
      have h3s : HasBlk (w2.setCell ⟨w.heap.size + 1, 0, none⟩ (.int .i64 (max M V))) (w.heap.size + 1 + 1 + 1) #[.int .i64 ((2 ^ n - 1 : Nat) : Int)] 40 := HasBlk.far h3' (show w.heap.size + 1 + 1 + 1 ≠ w.heap.size + 1 by omega) _
      have h2' : HasBlk w2 w.heap.size #[.int .i64 (k : Int), .slice a n c] 25 := (HB2.out.block _ (lt_of_some H2.out)).trans H2.out
      have hks : KeepsFrom W4.heap.size W w2 := ⟨HB2.out.size, fun k o _ hk _ => (HB2.out.block k (lt_of_some hk)).trans hk⟩
      refine ⟨hks.trans ((KeepsOthers.setCell _ _ _).from _), fun _ => (blk_cell h3s 0).trans (cell1_0 _), ⟨?_, HasBlk.far h2' (show w.heap.size ≠ w.heap.size + 1 by omega) _, h3s⟩, (HB.out.trans (HB2.out.mono HB.out.size)).setCell (p := ⟨w.heap.size + 1, 0, none⟩) (by show w.heap.size ≤ w.heap.size + 1; omega) _⟩
      rw [HSN.out]
      exact Boxed.set _ h1'
  case done =>
    rintro E ys W hE hys ⟨⟨h1, h2, -⟩, hB⟩ hK
    rw [hys] at h1
    obtain ⟨hw0, hw8⟩ := wrstP_bound zs (List.range (2 ^ n))
    have hz := HZ.out
    obtain ⟨V, hV⟩ : ∃ V, V = wrstP zs (List.range (2 ^ n)) := ⟨_, rfl⟩
    rw [← hV] at h1 hw0 hw8 hz
    have c0 := (blk_cell h1 0).trans (cell1_0 _)
    have x1 := (blk_cell h2 1).trans (cell2_1 _ _)
    have HV := Lib.hid hz
    have HB := Lib.hid hB
    have HK := Lib.hid hK
    have hnI : (n : Int) ≤ 8 := by omega
    have hn0 : (0 : Int) ≤ (n : Int) := by omega
    have HEs : Hid (w.heap.size ≤ E) := Lib.hid (by have := HS2.out; have := HS4.out; omega)
    clear h1 h2 hB hK hys hV hz
    gi_wp2
    refine ⟨by simp, .inl ⟨_, _, rfl, run_takeDeferred HK.out, ?_⟩⟩
    exact ⟨.int .i64 ((n : Int) - V), by simp [results, Tryd.results17, go_sem], by rw [HV.out], HB.out.trans (belowK_b (w := w) (Nat.le_refl _) W E _ _ HEs.out HK.out rfl rfl)⟩
  case stop =>
    rintro D c pre W _ _ h _
    exact h.elim

end Go.Proofs.YtgaappbcekllhaaDoor

/- It is proved what FamilyDegrees of the model returns; conditions: those of each statement. -/
namespace Go.Proofs.YtgaappbcekllhaaDoor
open Go.RowKit

set_option maxRecDepth 100000 in
theorem bit_fin : ∀ s : Fin 64, ∀ v : Fin 6, bits BinOp.and IntKind.i64 ((s.val : Int) / 2 ^ v.val) 1 = (((s.val >>> v.val) &&& 1 : Nat) : Int) := by decide +kernel

theorem bit_at (s v : Nat) (hs : s < 64) (hv : v < 6) : bits BinOp.and IntKind.i64 ((s : Int) / 2 ^ v) 1 = (((s >>> v) &&& 1 : Nat) : Int) := bit_fin ⟨s, hs⟩ ⟨v, hv⟩
end Go.Proofs.YtgaappbcekllhaaDoor

/- It is proved how sums of degrees, sizes, unions and meetings of clubs count their members; conditions: those of each statement. -/
namespace Go.Proofs.YtgaappbcekllhaaDoor
open Go.RowKit

theorem bit_val {S v : Nat} (hS : S < 64) (hv : v < 6) : bits BinOp.and IntKind.i64 ((S : Int) / 2 ^ v) 1 = if S.testBit v then 1 else 0 := by
  rw [bit_at S v hS hv]
  have h1 : (S >>> v) &&& 1 = if S.testBit v then 1 else 0 := by
    rw [Nat.testBit, Nat.and_comm]
    have : 1 &&& (S >>> v) ≤ 1 := Nat.and_le_left
    by_cases h0 : 1 &&& (S >>> v) = 0
    · rw [h0]; rfl
    · rw [show 1 &&& (S >>> v) = 1 by omega]; rfl
  rw [h1]
  cases S.testBit v <;> rfl

end Go.Proofs.YtgaappbcekllhaaDoor
