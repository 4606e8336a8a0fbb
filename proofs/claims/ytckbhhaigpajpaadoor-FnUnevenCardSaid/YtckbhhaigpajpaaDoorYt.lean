/- It is proved what EarForest of the program returns; conditions: those of each statement. -/
import Derived.RowKit
import Derived.Laws.CopyRow
import Derived.Lib.SlBuf
import Derived.Deep.QuietTactic
import Derived.RangeFuncNested
import Derived.RangeFuncBound
import Derived.RangeFuncCalls
import Derived.RangeFuncLeaves
import Derived.RangeFuncBox
import Derived.RangeFuncWrites
import Derived.StillTailTactics
import Derived.Maps.OwnIn
import Derived.Maps.Ext
import Derived.DeepKeys4
import Derived.MapKept
import Derived.Test.YtckbhhaigpajpaaDoorRows
import Derived.WalkKit
import Derived.WalkSpells
import Derived.ProofKit
import Derived.OpenShut
import Derived.ShutString
import Derived.ChangeOld
import Derived.Below
import Derived.Deep.RegionHeld3
import Derived.BigQuiet
import Derived.Lib.Hide
import Derived.Lib.SmallJoins
import Derived.Outline
import Derived.Laws.MakeOwn
import Derived.Laws.OwnMore
import Derived.IntWalk
import Derived.Lib.AppendZeros
import Derived.Maps.AppendAt
import Derived.Deep.AppendLies
import Derived.OwnWalk
import Derived.Lib.SlicesCompact
import Derived.Lib.OwnBridge
import Derived.OrdersIn
import Derived.TacticsIn
import Derived.Shelf.Sort.Plain
import Derived.Shelf.Slices.In.SortNone
import Derived.Shelf.Slices.CompactI
import Derived.Ground.Names2Prog
import Derived.Lib.SliceRun
import Derived.Shelf.Abstract
import Derived.Shelf.RegionOpen
import Derived.OwnWalkIn
import Derived.TacticsInMore
import Derived.LoopNIn
import Derived.LoopIn
import Derived.StillTail
import Derived.StillTactics
import Derived.Shelf.Spec.TrailingZeros
import Derived.Deep.LoopGhost
import Derived.Test.YtckbhhaigpajpaaDoorRaaa
import Derived.Test.YtckbhhaigpajpaaDoorRaab
import Derived.Test.YtckbhhaigpajpaaDoorRaad
import Derived.Test.YtckbhhaigpajpaaDoorRaaf
import Derived.Test.YtckbhhaigpajpaaDoorRaal
import Derived.Test.YtckbhhaigpajpaaDoorRaae
import Derived.Test.YtckbhhaigpajpaaDoorRaag
import Derived.Test.YtckbhhaigpajpaaDoorRaah
import Derived.Test.YtckbhhaigpajpaaDoorRaam
import Derived.Test.YtckbhhaigpajpaaDoorRaak
namespace Go.Proofs.YtckbhhaigpajpaaDoor
open Go.RowKit Go.Shelf

attribute [local go_sem] Oper.semAt_some

/-- The links of some clubs, and a part for each club with none. -/
def sizN (zs : List Int) : Nat := (zs.map fun z => (memK 8 z.toNat).length + if z = 0 then 1 else 0).sum

theorem sizN_snoc (zs : List Int) (z : Int) : sizN (zs ++ [z]) = sizN zs + ((memK 8 z.toNat).length + if z = 0 then 1 else 0) := by
  simp [sizN]

theorem sizN_le (zs : List Int) : sizN zs ≤ 9 * zs.length := by
  induction zs with
  | nil => simp [sizN]
  | cons z zs ih =>
    have h1 := memK_len 8 z.toNat
    have : sizN (z :: zs) = ((memK 8 z.toNat).length + if z = 0 then 1 else 0) + sizN zs := by simp [sizN]
    rw [this, List.length_cons]
    split <;> omega

theorem filt_cut {p k : Nat} (hp : p < 2 ^ k) : ∀ n, k ≤ n → ((List.range n).filter fun i => p.testBit i) = (List.range k).filter fun i => p.testBit i
  | 0, h => by obtain rfl : k = 0 := by omega
               rfl
  | n + 1, h => by
    by_cases e : k = n + 1
    · subst e; rfl
    · have hb : p.testBit n = false := Nat.testBit_lt_two_pow (Nat.lt_of_lt_of_le hp (Nat.pow_le_pow_right (by decide) (by omega)))
      rw [List.range_succ, List.filter_append, filt_cut hp n (by omega)]
      simp [hb]

theorem siz_links {k : Nat} {zs : List Int} (hk6 : k ≤ 6) (hz : Sets k zs) : ∀ i, i ≤ zs.length → sizN (zs.take i) = empL (ksOf (zs.take i)) + (linksL k (ksOf zs) i).length
  | 0, _ => by simp [sizN, empL, ksOf, linksL]
  | i + 1, h => by
    have ih := siz_links hk6 hz i (by omega)
    have hi : i < zs.length := by omega
    obtain ⟨h0, h1⟩ := hz _ (List.getElem_mem hi)
    rw [List.take_succ_eq_append_getElem hi, sizN_snoc, ih, linksL_succ, List.length_append, List.length_map, ksOf_at, List.getElem?_eq_getElem hi, Option.getD_some]
    have e1 : ksOf (zs.take i ++ [zs[i]]) = ksOf (zs.take i) ++ [zs[i].toNat] := by simp only [ksOf, List.map_append, List.map_cons, List.map_nil]
    have e2 : (memK 8 zs[i].toNat).length = (bitsL zs[i].toNat k).length := by
      unfold memK bitsL
      rw [filt_cut h1 8 (by omega)]
    have e3 : empL (ksOf (zs.take i) ++ [zs[i].toNat]) = empL (ksOf (zs.take i)) + if zs[i] = 0 then 1 else 0 := by
      unfold empL
      rw [List.countP_append, List.countP_singleton]
      by_cases e : zs[i] = 0
      · simp [e]
      · have : ¬ zs[i].toNat = 0 := by omega
        simp [e, this]
    rw [e1, e2, e3]
    omega

theorem forest_tell {k : Nat} {zs : List Int} (hf : famIn (k : Int) zs = true) (hk6 : k ≤ 6) (hz : Sets k zs) : forestB (k : Int) zs = decide (cntP k (ksOf zs) k + sizN zs = k + zs.length) := by
  have h := forest_count (ksm_of hf)
  have hl : (ksOf zs).length = zs.length := by simp [ksOf]
  have hs := siz_links hk6 hz zs.length (Nat.le_refl _)
  rw [List.take_length] at hs
  rw [hl] at h
  unfold forestB
  rw [hf, Bool.true_and, Int.toNat_natCast, h, hs]
  congr 1
  rw [Nat.add_assoc]

set_option maxRecDepth 100000 in
set_option maxHeartbeats 4000000 in
theorem implForest_yes (k : Nat) (a : Option Addr) (c : Nat) (zs : List Int) (w : World) (ha : Ints w w.heap.size a zs) (hT : Tab w) (hx : zs.length ≤ 1048576) (hf : famIn (k : Int) zs = true) (hk6 : k ≤ 6) (h8 : zs.length ≤ 8) (hz : Sets k zs) :
    Calls Tryd.prog 19 #[.agg #[.int .i64 (k : Int), .slice a zs.length c]] w fun e w' => e = .returned (.bool (forestB (k : Int) zs)) ∧ Below w.heap.size w w' := by
  have h16 : 1 ≤ 6 := by omega
  have hmx : Tryd.prog.follows .mixedOrders = true := by kernel_rfl
  have HTELL := Lib.hid (forest_tell hf hk6 hz)
  have HB0 := Lib.hid (below1 w (.cells #[.int .i64 (k : Int), .slice a zs.length c] 25))
  have HA := Lib.hid (ha.below HB0.out)
  have HI := Lib.hid ha
  have HS := Lib.hid hz
  have HPT : Hid (∀ W, Ints W W.heap.size a zs → Tab W → Calls Tryd.prog 49 #[.agg #[.int .i64 (k : Int), .slice a zs.length c]] W (RetIB W ((cntP k (ksOf zs) k : Nat) : Int) true)) := Lib.hid fun W h h' => by
    have := implParts_any (k : Int) a c zs W h h' hx
    rw [hf, show partsZ (k : Int) zs = ((cntP k (ksOf zs) k : Nat) : Int) from by simp [partsZ, hf]] at this
    exact this
  have hPle := cntP_le k (ksOf zs) k
  obtain ⟨P, hP⟩ : ∃ P, P = cntP k (ksOf zs) k := ⟨_, rfl⟩
  rw [← hP] at HTELL HPT hPle
  have HT := Lib.hid hT
  have HF := Lib.hid hf
  clear ha hT hf hz hP
  refine (callsIn_wide (n := 6)).1 ?_
  refine callsIn_of_wp_marks Tryd.func19 rfl trivial ?_ rfl
  simp only [Tryd.ntmps19, List.size_toArray, List.length_cons, List.length_nil, Nat.reduceAdd, Nat.reduceSub, Array.replicate_succ, Array.replicate_zero, List.push_toArray, List.append_toArray, List.nil_append, List.cons_append]
  gi_wp2_with fail
  refine ⟨trivial, (callsIn_wide.2 (HPT.out _ (HA.out.mono (by simp)) (HT.out.below HB0.out HT.out.lt))).mono ?_⟩
  rintro e w1 ⟨rfl, hb⟩
  have q0 : HasBlk w1 w.heap.size #[.int .i64 (k : Int), .slice a zs.length c] 25 := (hb.block _ (by simp)).trans (alloc_new w _)
  have xs : w.heap.size < w1.heap.size := lt_of_some q0
  have HB1 := Lib.hid (HB0.out.trans (hb.mono (by simp)))
  obtain ⟨W2, hW2, p0, p1, hs2, hb2⟩ : ∃ W2, w1.alloc (.cells #[.int .i64 (P : Int)] 3) = W2 ∧ HasBlk W2 w.heap.size #[.int .i64 (k : Int), .slice a zs.length c] 25 ∧ HasBlk W2 w1.heap.size #[.int .i64 (P : Int)] 3 ∧ W2.heap.size = w1.heap.size + 1 ∧ Below w1.heap.size w1 W2 :=
    ⟨_, rfl, HasBlk.alloc q0 _, alloc_new w1 _, by simp, below1 w1 _⟩
  obtain ⟨W3, hW3, r0, r1, r2, hs3, hb3⟩ : ∃ W3, W2.alloc (.cells #[.int .i64 (k : Int), .slice a zs.length c] 25) = W3 ∧ HasBlk W3 w.heap.size #[.int .i64 (k : Int), .slice a zs.length c] 25 ∧ HasBlk W3 w1.heap.size #[.int .i64 (P : Int)] 3 ∧ HasBlk W3 W2.heap.size #[.int .i64 (k : Int), .slice a zs.length c] 25 ∧ W3.heap.size = W2.heap.size + 1 ∧ Below W2.heap.size W2 W3 :=
    ⟨_, rfl, HasBlk.alloc p0 _, HasBlk.alloc p1 _, alloc_new W2 _, by simp, below1 W2 _⟩
  have HB3 := Lib.hid (HB1.out.trans ((hb2.trans (hb3.mono (by omega))).mono (by omega)))
  have y0 := (blk_cell p0 0).trans (cell2_0 _ _)
  have y1 := (blk_cell p0 1).trans (cell2_1 _ _)
  have hst := clubsP_stops (IsSet k) (6 - 1) (by omega) W2.heap.size w.heap.size a c zs hx HS.out.at_ W3 (by omega) (by omega) ((blk_cell r2 1).trans (cell2_1 _ _)) (HI.out.below HB3.out)
  have HST := Lib.hid hst
  have HR0 := Lib.hid r0
  have HR1 := Lib.hid r1
  have HS2 := Lib.hid hs2
  have HS3 := Lib.hid hs3
  have HW3 := Lib.hid hW3
  have HN8 := Lib.hid h8
  clear q0 hb hb2 hb3 p0 p1 r0 r1 r2 hst hs2 hs3 hW3 h8
  gi_wp2_with (refine ⟨trivial, ?_⟩; gi_at_call 50; refine (callsIn_wide.2 (clubs_any _ _ _ _ _)).mono ?_; rintro e w' ⟨rfl, rfl⟩)
  rw [HW3.out]
  clear hW2 y0 y1
  refine wpIn_rangeFunc_ownG rfl h16 (gf := 86) (lb := #[.pointer (some ⟨W2.heap.size, 0, none⟩)]) rfl trivial (enters_of Tryd.func86 (by kernel_rfl) rfl)
    HST.out belowK_t (belowK_b (by have := HS2.out; have := HS3.out; omega)) (Below.refl _ _) (fun _ => rfl)
    (fun pre W => (HasBlk W w.heap.size #[.int .i64 (k : Int), .slice a zs.length c] 25 ∧ HasBlk W w1.heap.size #[.int .i64 ((P + sizN (sndL pre) : Nat) : Int)] 3) ∧ Below w.heap.size w W)
    (fun _ _ _ => False)
    ?own (fun _ _ _ _ _ hs _ _ => hs)
    ⟨⟨HR0.out, HR1.out⟩, HB3.out⟩
    (fun x => { tmps := #[.agg #[.int .i64 (k : Int), .slice a zs.length c], .pointer (some ⟨w.heap.size, 0, none⟩), .bool false, .pointer (some ⟨w1.heap.size, 0, none⟩), .bool true, undef, .int .i64 x.1.2, .tuple #[.int .i64 (P : Int), .bool true], .agg #[.int .i64 (k : Int), .slice a zs.length c], .tuple #[.int .i64 (P : Int), .bool true], .int .i64 (P : Int), .bool true, .bool true, .bool false, .agg #[.int .i64 (k : Int), .slice a zs.length c], .func (.func 86) #[] #[.pointer (some ⟨W2.heap.size, 0, none⟩)], .int .i64 (x.1.1 : Int), .int .i64 x.1.2, undef, undef, undef, undef, undef, undef, undef, undef, undef, undef, undef, undef, undef, undef, undef, undef], defers := [] }) ?assign ?body ?done ?stop
  case own =>
    rintro s A' B row ⟨⟨h1, h2⟩, h5⟩ hg hr
    have hr' : ∀ (b : Nat) (cs : Array Value) (t : TypeId), HasBlk A' b cs t → row ≠ some b := fun b cs t hb e => by
      obtain ⟨-, o, ho, hc⟩ := hr b e
      rw [show A'.heap[b]? = _ from hb] at ho; cases ho; cases hc
    exact ⟨⟨h1.kept hg (hr' _ _ _ h1), h2.kept hg (hr' _ _ _ h2)⟩, h5.grown hg (by have := h5.size; omega) (fun r e => by have := (hr r e).1; have := HS2.out; have := HS3.out; omega)⟩
  case assign =>
    intro l x W K hK
    gi_wp2
    exact hK
  case body =>
    rintro l pre x W ⟨⟨h1, h2⟩, hB⟩ hlt
    obtain ⟨t, ht⟩ : ∃ t : Nat, x.1.2 = (t : Int) := ⟨x.1.2.toNat, by have := x.2.1; omega⟩
    have ht64 : t < 64 := by have := p64 hk6 x.2.2; rw [ht] at this; simpa using this
    have HSN : Hid (sizN (sndL (pre ++ [x])) = sizN (sndL pre) + ((memK 8 t).length + if t = 0 then 1 else 0)) := Lib.hid (by rw [sndL_snoc, sizN_snoc, ht]; simp)
    have hle : sizN (sndL pre) ≤ 72 := by have := sizN_le (sndL pre); rw [sndL_len] at this; have := HN8.out; omega
    have HSZ : Hid (∀ W, Calls Tryd.prog 51 #[.int .i64 (t : Int)] W fun e w' => e = .returned (.int .i64 ((memK 8 t).length : Int)) ∧ W = w') := Lib.hid fun W => sizeW_any t W (by omega)
    have hA8 := memK_len 8 t
    obtain ⟨A, hA⟩ : ∃ A, A = (memK 8 t).length := ⟨_, rfl⟩
    obtain ⟨C, hC⟩ : ∃ C, C = P + sizN (sndL pre) := ⟨_, rfl⟩
    rw [← hA] at HSN HSZ hA8
    rw [← hC] at h2
    have hC78 : C ≤ 78 := by omega
    have m0 := (blk_cell h2 0).trans (cell1_0 _)
    have m1 := blk_frozen h2 0
    have H1 := Lib.hid h1
    have H2 := Lib.hid h2
    have HB := Lib.hid hB
    have hl1 : w.heap.size ≠ w1.heap.size := by omega
    have hl0 : w.heap.size ≤ w1.heap.size := by omega
    have hwr : IntKind.i64.wrap ((C : Int) + (A : Int)) = (C : Int) + (A : Int) := IntWalk.i64_in _ (by omega)
    have hwr2 : IntKind.i64.wrap ((C : Int) + (A : Int) + 1) = (C : Int) + (A : Int) + 1 := IntWalk.i64_in _ (by omega)
    have HCC := Lib.hid hC
    rw [ht]
    clear h1 h2 hB hA hC ht hlt
    gi_wp2
    gi_region_with_o (refine ⟨trivial, ?_⟩; gi_at_call 51; refine (CallsIn.inRound l (callsIn_wide.2 (HSZ.out _))).mono ?_; rintro e w2 ⟨rfl, rfl⟩)
    all_goals
      by_cases ht0 : t = 0
      · subst ht0
        have HE : Hid (((P + sizN (sndL (pre ++ [x])) : Nat) : Int) = (C : Int) + (A : Int) + 1) := Lib.hid (by rw [HSN.out, if_pos rfl]; have := HCC.out; omega)
        have HE2 : Hid ((P : Int) + ((sizN (sndL (pre ++ [x])) : Nat) : Int) = (C : Int) + (A : Int) + 1) := Lib.hid (by have := HE.out; omega)
        gi_wp2
        have hk : KeepsFrom W3.heap.size W ((W.setCell ⟨w1.heap.size, 0, none⟩ (.int .i64 ((C : Int) + (A : Int)))).setCell ⟨w1.heap.size, 0, none⟩ (.int .i64 ((C : Int) + (A : Int) + 1))) := ((KeepsOthers.setCell _ _ _).from _).trans ((KeepsOthers.setCell _ _ _).from _)
        have h1' : HasBlk ((W.setCell ⟨w1.heap.size, 0, none⟩ (.int .i64 ((C : Int) + (A : Int)))).setCell ⟨w1.heap.size, 0, none⟩ (.int .i64 ((C : Int) + (A : Int) + 1))) w.heap.size #[.int .i64 (k : Int), .slice a zs.length c] 25 := HasBlk.far (HasBlk.far H1.out (show w.heap.size ≠ w1.heap.size from hl1) _) (show w.heap.size ≠ w1.heap.size from hl1) _
        have h2' : HasBlk ((W.setCell ⟨w1.heap.size, 0, none⟩ (.int .i64 ((C : Int) + (A : Int)))).setCell ⟨w1.heap.size, 0, none⟩ (.int .i64 ((C : Int) + (A : Int) + 1))) w1.heap.size #[.int .i64 ((C : Int) + (A : Int) + 1)] 3 := Boxed.set _ (Boxed.set _ H2.out)
        refine ⟨⟨hk.1, hk.2⟩, (((Below.refl _ _).setCell (p := ⟨w1.heap.size, 0, none⟩) hl0 _).setCell (p := ⟨w1.heap.size, 0, none⟩) hl0 _).drew, ⟨h1', ?_⟩, ((HB.out.setCell (p := ⟨w1.heap.size, 0, none⟩) hl0 _).setCell (p := ⟨w1.heap.size, 0, none⟩) hl0 _).drew⟩
        first | rw [HE.out] | rw [HE2.out]
        exact h2'
      · have hb1 : ((t : Int) == 0) = false := by rw [beq_eq_false_iff_ne]; omega
        have hb2 : (t == 0) = false := by rw [beq_eq_false_iff_ne]; exact ht0
        have HE : Hid (((P + sizN (sndL (pre ++ [x])) : Nat) : Int) = (C : Int) + (A : Int)) := Lib.hid (by rw [HSN.out, if_neg ht0]; have := HCC.out; omega)
        clear ht0
        have HE2 : Hid ((P : Int) + ((sizN (sndL (pre ++ [x])) : Nat) : Int) = (C : Int) + (A : Int)) := Lib.hid (by have := HE.out; omega)
        gi_wp2
        have hk : KeepsFrom W3.heap.size W (W.setCell ⟨w1.heap.size, 0, none⟩ (.int .i64 ((C : Int) + (A : Int)))) := (KeepsOthers.setCell _ _ _).from _
        have h1' : HasBlk (W.setCell ⟨w1.heap.size, 0, none⟩ (.int .i64 ((C : Int) + (A : Int)))) w.heap.size #[.int .i64 (k : Int), .slice a zs.length c] 25 := HasBlk.far H1.out (show w.heap.size ≠ w1.heap.size from hl1) _
        have h2' : HasBlk (W.setCell ⟨w1.heap.size, 0, none⟩ (.int .i64 ((C : Int) + (A : Int)))) w1.heap.size #[.int .i64 ((C : Int) + (A : Int))] 3 := Boxed.set _ H2.out
        refine ⟨⟨hk.1, hk.2⟩, ((Below.refl _ _).setCell (p := ⟨w1.heap.size, 0, none⟩) hl0 _).drew, ⟨h1', ?_⟩, (HB.out.setCell (p := ⟨w1.heap.size, 0, none⟩) hl0 _).drew⟩
        first | rw [HE.out] | rw [HE2.out]
        exact h2'
  case done =>
    rintro E ys W hE hys ⟨⟨h1, h2⟩, hB⟩ hK
    rw [sndL_all hys] at h2
    have c0 := (blk_cell h2 0).trans (cell1_0 _)
    have x0 := (blk_cell h1 0).trans (cell2_0 _ _)
    have x1 := (blk_cell h1 1).trans (cell2_1 _ _)
    have HB := Lib.hid hB
    have HK := Lib.hid hK
    have HEs : Hid (w.heap.size ≤ E) := Lib.hid (by have := HS2.out; have := HS3.out; omega)
    have hwk : IntKind.i64.wrap ((k : Int) + (zs.length : Int)) = (k : Int) + (zs.length : Int) := IntWalk.i64_in _ (by have := HN8.out; omega)
    have HRB : Hid ((((P + sizN zs : Nat) : Int) == (k : Int) + (zs.length : Int)) = forestB (k : Int) zs) := Lib.hid (by
      rw [HTELL.out, Bool.eq_iff_iff, beq_iff_eq, decide_eq_true_eq]
      omega)
    obtain ⟨S, hS⟩ : ∃ S, S = ((P + sizN zs : Nat) : Int) := ⟨_, rfl⟩
    rw [← hS] at c0 HRB
    clear h1 h2 hB hK hys hS
    gi_wp2
    refine ⟨by simp, .inl ⟨_, _, rfl, run_takeDeferred HK.out, ?_⟩⟩
    exact ⟨.bool (forestB (k : Int) zs), by simp [results, Tryd.results19, go_sem, HRB.out], rfl, HB.out.trans (belowK_b (w := w) (Nat.le_refl _) W E _ _ HEs.out HK.out rfl rfl)⟩
  case stop =>
    rintro D c pre W _ _ h _
    exact h.elim

set_option maxRecDepth 100000 in
set_option maxHeartbeats 1600000 in
theorem implForest_any (m : Int) (a : Option Addr) (c : Nat) (zs : List Int) (w : World) (ha : Ints w w.heap.size a zs) (hT : Tab w) (hx : zs.length ≤ 1048576) :
    Calls Tryd.prog 19 #[.agg #[.int .i64 m, .slice a zs.length c]] w fun e w' => e = .returned (.bool (forestB m zs)) ∧ Below w.heap.size w w' := by
  cases hf : famIn m zs
  · have HFB : Hid (forestB m zs = false) := Lib.hid (by unfold forestB; rw [hf]; rfl)
    have HB0 := Lib.hid (below1 w (.cells #[.int .i64 m, .slice a zs.length c] 25))
    have HA := Lib.hid (ha.below HB0.out)
    have HT1 := Lib.hid (hT.below HB0.out hT.lt)
    have HPT : Hid (∀ W, Ints W W.heap.size a zs → Tab W → Calls Tryd.prog 49 #[.agg #[.int .i64 m, .slice a zs.length c]] W (RetIB W 0 false)) := Lib.hid fun W h h' => by
      have := implParts_any m a c zs W h h' hx
      rw [hf, show partsZ m zs = 0 from by simp [partsZ, hf]] at this
      exact this
    clear hf ha hT
    go_enter Tryd.func19, Tryd.ntmps19
    go_wp2_with fail
    refine (HPT.out _ (HA.out.mono (by simp)) HT1.out).mono ?_
    rintro e w1 ⟨rfl, hb⟩
    have HB := Lib.hid (HB0.out.trans (hb.mono (by simp)))
    have hsz := HB.out.size
    clear hb
    go_wp2
    go_ret
    exact ⟨by rw [HFB.out]; rfl, HB.out.alloc hsz _⟩
  · obtain ⟨k, rfl, hk1, hk6, hset, hl8⟩ := fam_nat2 hf
    exact implForest_yes k a c zs w ha hT hx hf hk6 hl8 hset

end Go.Proofs.YtckbhhaigpajpaaDoor
