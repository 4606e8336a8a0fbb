/- It is proved what listBy returns; conditions: those of each statement. -/
import Derived.Laws.CopyRow
import Derived.Lib.SlBuf
import Derived.Test.YtijpgbkjgjpmmaaDoorRows
import Derived.WalkKit
import Derived.WalkSpells
import Derived.ProofKit
import Derived.OpenShut
import Derived.ShutString
import Derived.ChangeOld
import Derived.Below
import Derived.Deep.RegionHeld3
import Derived.Deep.QuietTactic
import Derived.BigQuiet
import Derived.Lib.Hide
import Derived.Lib.SmallJoins
import Derived.Outline
import Derived.Laws.MakeOwn
import Derived.Laws.OwnMore
import Derived.IntWalk
import Derived.Lib.AppendZeros
import Derived.Maps.AppendAt
import Derived.Deep.AppendLies
import Derived.OwnWalk
import Derived.Lib.SlicesCompact
import Derived.Lib.OwnBridge
import Derived.Shelf.Sort.Plain
import Derived.Shelf.Slices.In.SortNone
import Derived.Shelf.Slices.CompactI
import Derived.Ground.Names2Prog
import Derived.RangeFuncNested
import Derived.RangeFuncBound
import Derived.RangeFuncCalls
import Derived.RangeFuncLeaves
import Derived.RangeFuncBox
import Derived.Shelf.Abstract
import Derived.Shelf.RegionOpen
import Derived.OwnWalkIn
import Derived.TacticsInMore
import Derived.LoopNIn
import Derived.LoopIn
import Derived.StillTail
import Derived.StillTactics
import Derived.OrdersIn
import Derived.TacticsIn
import Derived.Shelf.Spec.TrailingZeros
import Derived.StillTailTactics
import Derived.Test.YtijpgbkjgjpmmaaDoorMrad
import Derived.Test.YtijpgbkjgjpmmaaDoorMrae
import Derived.Test.YtijpgbkjgjpmmaaDoorMraa
import Derived.Test.YtijpgbkjgjpmmaaDoorMraf
import Derived.Test.YtijpgbkjgjpmmaaDoorMrac
import Derived.RowKit
import Derived.RangeFuncWrites
import Derived.Test.YtijpgbkjgjpmmaaDoorMrab
namespace Go.Proofs.YtijpgbkjgjpmmaaDoor
open Go.RowKit Go.Shelf

attribute [local go_sem] Oper.semAt_some

def z8 : List Int := List.replicate 8 0
/-- The places and clubs that have come. -/
def valsC {P : Nat × Int → Prop} (pre : List { p // P p }) : List (Nat × Int) := pre.map (·.1)

theorem valsC_snoc {P : Nat × Int → Prop} (pre : List { p // P p }) (x : { p // P p }) : valsC (pre ++ [x]) = valsC pre ++ [x.1] := by simp [valsC]
theorem store8 {W : World} {R t : Nat} {L : List Int} (hl : L.length = 8) (h : Nums W R t z8) : ∃ W', ((((((((W.setCell ⟨R, 0, none⟩ (.int .i64 (L[0]?.getD 0))).setCell ⟨R, 1, none⟩ (.int .i64 (L[1]?.getD 0))).setCell ⟨R, 2, none⟩ (.int .i64 (L[2]?.getD 0))).setCell ⟨R, 3, none⟩ (.int .i64 (L[3]?.getD 0))).setCell ⟨R, 4, none⟩ (.int .i64 (L[4]?.getD 0))).setCell ⟨R, 5, none⟩ (.int .i64 (L[5]?.getD 0))).setCell ⟨R, 6, none⟩ (.int .i64 (L[6]?.getD 0))).setCell ⟨R, 7, none⟩ (.int .i64 (L[7]?.getD 0))) = W' ∧ Nums W' R t L ∧ KeepsOthers W W' ∧ ∀ (B : Nat), B ≤ R → Below B W W' := by
  refine ⟨_, rfl, ?_, ?_, fun B hB => ?_⟩
  · obtain ⟨x0, x1, x2, x3, x4, x5, x6, x7, rfl⟩ : ∃ x0 x1 x2 x3 x4 x5 x6 x7 : Int, L = [x0, x1, x2, x3, x4, x5, x6, x7] := by
      match L, hl with
      | [x0, x1, x2, x3, x4, x5, x6, x7], _ => exact ⟨_, _, _, _, _, _, _, _, rfl⟩
    exact (((((((h.set 0 x0).set 1 x1).set 2 x2).set 3 x3).set 4 x4).set 5 x5).set 6 x6).set 7 x7
  · exact ((((((((KeepsOthers.setCell _ _ _).trans (KeepsOthers.setCell _ _ _)).trans (KeepsOthers.setCell _ _ _)).trans (KeepsOthers.setCell _ _ _)).trans (KeepsOthers.setCell _ _ _)).trans (KeepsOthers.setCell _ _ _)).trans (KeepsOthers.setCell _ _ _)).trans (KeepsOthers.setCell _ _ _))
  · have st : ∀ (W1 : World) (i : Nat) (v : Value), Below B W W1 → Below B W (W1.setCell ⟨R, i, none⟩ v) := fun W1 i v h => h.setCell (p := ⟨R, i, none⟩) hB v
    exact st _ _ _ (st _ _ _ (st _ _ _ (st _ _ _ (st _ _ _ (st _ _ _ (st _ _ _ (st _ _ _ (Below.refl _ _))))))))

theorem below_keeps {W W' : World} (h : Below W.heap.size W W') : KeepsOthers W W' := ⟨h.size, fun k o hk _ => (h.block k (lt_of_some hk)).trans hk⟩
theorem alloc5 (w : World) (o0 o1 o2 o3 o4 : Obj) : ∃ W, ((((w.alloc o0).alloc o1).alloc o2).alloc o3).alloc o4 = W ∧ W.heap[w.heap.size]? = some o0 ∧ W.heap[w.heap.size + 1]? = some o1 ∧ W.heap[w.heap.size + 1 + 1]? = some o2 ∧
    W.heap[w.heap.size + 1 + 1 + 1]? = some o3 ∧ W.heap[w.heap.size + 1 + 1 + 1 + 1]? = some o4 ∧ W.heap.size = w.heap.size + 1 + 1 + 1 + 1 + 1 ∧ Below w.heap.size w W := by
  refine ⟨_, rfl, ?_, ?_, ?_, ?_, ?_, by simp, ((below3 w o0 o1 o2).alloc (by simp; omega) _).alloc (by simp; omega) _⟩
  · exact (alloc_old _ _ _ (by simp <;> omega)).trans ((alloc_old _ _ _ (by simp <;> omega)).trans (alloc3_0 w o0 o1 o2))
  · exact (alloc_old _ _ _ (by simp <;> omega)).trans ((alloc_old _ _ _ (by simp <;> omega)).trans (alloc3_1 w o0 o1 o2))
  · exact (alloc_old _ _ _ (by simp <;> omega)).trans ((alloc_old _ _ _ (by simp <;> omega)).trans (alloc3_2 w o0 o1 o2))
  · exact (alloc_old _ _ _ (by simp <;> omega)).trans (by rw [show w.heap.size + 1 + 1 + 1 = (((w.alloc o0).alloc o1).alloc o2).heap.size from by simp]; exact alloc_new _ _)
  · rw [show w.heap.size + 1 + 1 + 1 + 1 = ((((w.alloc o0).alloc o1).alloc o2).alloc o3).heap.size from by simp]; exact alloc_new _ _

set_option maxRecDepth 100000 in
set_option maxHeartbeats 4000000 in
theorem listBy_any (m : Nat) (a : Option Addr) (c : Nat) (zs : List Int) (pa : Option Addr) (pc : Nat) (ps : List Int) (hp : Okp m ps) (w : World) (ha : Ints w w.heap.size a zs) (hpi : Ints w w.heap.size pa ps) (hT : Tab w) (hf : famIn (m : Int) zs = true) :
    Calls Tryd.prog 56 #[.agg #[.int .i64 (m : Int), .slice a zs.length c], .slice pa ps.length pc] w fun e w' => e = .returned (.agg (iv (keyL zs ps))) ∧ Below w.heap.size w w' := by
  have HI := Lib.hid ha
  have HPI := Lib.hid hpi
  have HPc := Lib.hid (isClub_all hf)
  obtain ⟨hm1, hm6, hl8, -⟩ := famIn_out hf
  have hm6' : m ≤ 6 := by omega
  have HT := Lib.hid hT
  have HOK := Lib.hid hp
  obtain ⟨n, hn⟩ : ∃ n, n = zs.length := ⟨_, rfl⟩
  have HN := Lib.hid hn
  obtain ⟨pn, hpn⟩ : ∃ pn, pn = ps.length := ⟨_, rfl⟩
  have HPN := Lib.hid hpn
  have hx : n ≤ 8 := by omega
  rw [← hn, ← hpn]
  clear ha hf hn hl8 hpi hT hp hpn
  refine (callsIn_wide (n := 6)).1 ?_
  refine callsIn_of_wp_marks Tryd.func56 rfl trivial ?_ rfl
  simp only [Tryd.ntmps56, List.size_toArray, List.length_cons, List.length_nil, Nat.reduceAdd, Nat.reduceSub, Array.replicate_succ, Array.replicate_zero, List.push_toArray, List.append_toArray, List.nil_append, List.cons_append]
  gi_wp2_with (refine ⟨trivial, ?_⟩; gi_at_call 28; refine (callsIn_wide.2 (clubs_any _ _ _ _ _)).mono ?_; rintro e w' ⟨rfl, rfl⟩)
  have h16 : 1 ≤ 6 := by omega
  obtain ⟨W0, hW0, q0, q1, q2, q3, q4, hso, hb0⟩ := alloc5 w (.cells #[.int .i64 (m : Int), .slice a n c] 25) (.cells #[.slice pa pn pc] 23) (.cells #[Value.int IntKind.i64 0, Value.int IntKind.i64 0, Value.int IntKind.i64 0, Value.int IntKind.i64 0, Value.int IntKind.i64 0, Value.int IntKind.i64 0, Value.int IntKind.i64 0, Value.int IntKind.i64 0] 50) (.cells #[Value.int IntKind.i64 0, Value.int IntKind.i64 0, Value.int IntKind.i64 0, Value.int IntKind.i64 0, Value.int IntKind.i64 0, Value.int IntKind.i64 0, Value.int IntKind.i64 0, Value.int IntKind.i64 0] 50) (.cells #[.int .i64 (m : Int), .slice a n c] 25)
  rw [hW0]
  obtain ⟨M, hM⟩ : ∃ M, M = w.heap.size + 1 + 1 + 1 := ⟨_, rfl⟩
  rw [← hM] at q3 q4 hso ⊢
  obtain ⟨R, hR⟩ : ∃ R, R = w.heap.size + 1 + 1 := ⟨_, rfl⟩
  rw [← hR] at q2 ⊢
  have HSO := Lib.hid hso
  have HB0 := Lib.hid hb0
  have Q0 : Hid (HasBlk W0 w.heap.size #[.int .i64 (m : Int), .slice a n c] 25) := Lib.hid q0
  have Q1 : Hid (HasBlk W0 (w.heap.size + 1) #[.slice pa pn pc] 23) := Lib.hid q1
  have Q2 : Hid (Nums W0 R 50 z8) := Lib.hid q2
  have Q3 : Hid (Nums W0 M 50 (madeL ps (valsC ([] : List { p // IsClub m p })))) := Lib.hid q3
  have hMR : R < M := by omega
  have hM1 : w.heap.size + 1 < M := by omega
  have hhR : w.heap.size ≤ R := by omega
  have hst := clubsP_stops (IsClub m) (6 - 1) (by omega) (M + 1) w.heap.size a c zs (by have := HN.out; omega) HPc.out W0 (by omega) (by omega) (by rw [← HN.out]; exact (blk_cell q4 1).trans (cell2_1 _ _)) (HI.out.below HB0.out)
  rw [← HN.out] at hst
  clear hW0 q0 q1 q2 q3 q4 hso hb0 hM hR
  refine wpIn_rangeFunc_ownG rfl h16 (gf := 49) (lb := #[.pointer (some ⟨M + 1, 0, none⟩)]) rfl trivial (enters_of Tryd.func49 (by kernel_rfl) rfl)
    hst belowK_t (belowK_b (by have := HSO.out; omega)) (Below.refl _ _) (fun _ => rfl)
    (fun pre Wr => Nums Wr M 50 (madeL ps (valsC pre)) ∧ Below M W0 Wr)
    (fun _ _ _ => False)
    (OwnFrom.and (Own.from (nums_own _ _ (fun pre : List { p // IsClub m p } => madeL ps (valsC pre))) _) (ownFrom_below (by have := HSO.out; omega) (by have := HSO.out; omega)))
    (fun _ _ _ _ _ hs _ _ => hs)
    ⟨Q3.out, Below.refl _ _⟩
    (fun x => { tmps := #[.agg #[.int .i64 (m : Int), .slice a n c], .slice pa pn pc, .pointer (some ⟨w.heap.size, 0, none⟩), .pointer (some ⟨w.heap.size + 1, 0, none⟩), .pointer (some ⟨R, 0, none⟩), .pointer (some ⟨M, 0, none⟩), .int .i64 (x.1.1 : Int), .int .i64 x.1.2, .agg #[.int .i64 (m : Int), .slice a n c], .func (.func 49) #[] #[.pointer (some ⟨M + 1, 0, none⟩)], .int .i64 (x.1.1 : Int), .int .i64 x.1.2, undef, undef, undef, undef, undef, undef, undef, undef, undef, undef, undef], defers := [] }) ?assign ?body ?done ?stop
  case assign =>
    intro l x Wr K hK
    gi_wp2
    exact hK
  case body =>
    rintro l pre x Wr ⟨hv, hB⟩ hlt
    obtain ⟨q, hq⟩ : ∃ q : Nat, x.1.2 = (q : Int) := ⟨x.1.2.toNat, by have := x.2.2.1; omega⟩
    have hq2 : q < 2 ^ m := by have := x.2.2.2; rw [hq] at this; simpa using this
    have h8 : x.1.1 < 8 := x.2.1
    obtain ⟨k, hk⟩ : ∃ k, k = x.1.1 := ⟨_, rfl⟩
    have HMK : Hid (madeL ps (valsC (pre ++ [x])) = (madeL ps (valsC pre)).set k ((called ps q : Nat) : Int)) := Lib.hid (by rw [valsC_snoc, madeL_snoc, hk, callZ, hq]; rfl)
    rw [hq, ← hk]
    rw [← hk] at h8
    have c1 := (blk_cell (show HasBlk Wr (w.heap.size + 1) #[.slice pa pn pc] 23 from (hB.block _ hM1).trans Q1.out) 0).trans (cell1_0 _)
    have hBw : Below w.heap.size w Wr := HB0.out.trans (hB.mono (by omega))
    have HPr : Hid (Ints Wr Wr.heap.size pa ps) := Lib.hid ((HPI.out.below hBw).mono hBw.size)
    have HTr : Hid (Tab Wr) := Lib.hid (HT.out.below hBw HT.out.lt)
    have HV := Lib.hid hv
    have HB := Lib.hid hB
    have hML : M < Wr.heap.size := hv.lt
    have hk8 : (k : Int) < 8 := by omega
    have hk0 : (0 : Int) ≤ (k : Int) := by omega
    clear hv hB hk hq hBw
    have HNM := fun W' => named_any m q hm6' hq2 pa pc ps HOK.out W'
    rw [← HPN.out] at HNM
    gi_wp2_with (refine ⟨trivial, ?_⟩; gi_at_call 69; refine (CallsIn.inRound l (callsIn_wide.2 (HNM _ HPr.out HTr.out))).mono ?_; rintro e w' ⟨rfl, hb'⟩; have HV' := Lib.hid (HV.out.below hb' hML); have c3 := HV'.out.cell k (by rw [madeL_len]; omega); have f3 := HV'.out.frozen k; have HBB := Lib.hid hb'; clear hb')
    have hbM : Below M Wr ((w'.setCell ⟨M, k, none⟩ (.int .i64 ((called ps q : Nat) : Int)))) := (HBB.out.mono (show M ≤ Wr.heap.size by omega)).setCell (p := ⟨M, k, none⟩) (Nat.le_refl _) _
    refine ⟨((below_keeps HBB.out).trans (KeepsOthers.setCell _ _ _)).from _, (hbM.mono (by omega)), ?_, HB.out.trans hbM⟩
    rw [HMK.out]
    exact HV'.out.set _ _
  case done =>
    rintro D ys Wr hD hys ⟨hv, hB⟩ hK
    have hz8 : zs.length ≤ 8 := by have := HN.out; omega
    have hvv : valsC ys = pairs zs zs.length := by rw [← HN.out]; exact hys
    have x1 := (blk_cell (show HasBlk Wr w.heap.size #[.int .i64 (m : Int), .slice a n c] 25 from (hB.block _ (by omega)).trans Q0.out) 1).trans (cell2_1 _ _)
    have HV := Lib.hid hv
    have HK := Lib.hid hK
    have HB := Lib.hid hB
    have hML : M < Wr.heap.size := hv.lt
    have hn8 : (n : Int) ≤ 8 := by omega
    have hDM : D ≠ M := by have := HSO.out; omega
    have hDR : D ≠ R := by have := HSO.out; omega
    have hDl : D < Wr.heap.size := lt_of_some hK
    have HKE : Hid (((madeL ps (valsC ys)).take n).mergeSort leZ ++ (madeL ps (valsC ys)).drop n = keyL zs ps) := Lib.hid (by rw [hvv, HN.out]; exact keyL_made zs ps hz8)
    clear hv hB hK hvv hys
    gi_wp2_with (refine ⟨trivial, ?_⟩; gi_at_call 70; refine (callsIn_wide.2 (sort_nums M n 8 50 _ Wr HV.out (by rw [madeL_len]; exact hx) hx (by rw [madeL_len]; omega))).mono ?_; rw [HKE.out]; rintro e w' ⟨rfl, hN2, hg2⟩; have HN2 := Lib.hid hN2; have HR2 : Hid (Nums w' R 50 z8) := Lib.hid (((show Nums Wr R 50 z8 from (HB.out.block R hMR).trans Q2.out)).kept hg2 (fun e => by injection e; omega)); have HG2 := Lib.hid hg2; clear hN2 hg2; have d0 := HN2.out.cell 0 (by rw [keyL_len _ _ hz8]; omega); have d1 := HN2.out.cell 1 (by rw [keyL_len _ _ hz8]; omega); have d2 := HN2.out.cell 2 (by rw [keyL_len _ _ hz8]; omega); have d3 := HN2.out.cell 3 (by rw [keyL_len _ _ hz8]; omega); have d4 := HN2.out.cell 4 (by rw [keyL_len _ _ hz8]; omega); have d5 := HN2.out.cell 5 (by rw [keyL_len _ _ hz8]; omega); have d6 := HN2.out.cell 6 (by rw [keyL_len _ _ hz8]; omega); have d7 := HN2.out.cell 7 (by rw [keyL_len _ _ hz8]; omega); have e0 := HR2.out.cell 0 (by simp [z8]); have g0 := HR2.out.frozen 0; have e1 := HR2.out.cell 1 (by simp [z8]); have g1 := HR2.out.frozen 1; have e2 := HR2.out.cell 2 (by simp [z8]); have g2 := HR2.out.frozen 2; have e3 := HR2.out.cell 3 (by simp [z8]); have g3 := HR2.out.frozen 3; have e4 := HR2.out.cell 4 (by simp [z8]); have g4 := HR2.out.frozen 4; have e5 := HR2.out.cell 5 (by simp [z8]); have g5 := HR2.out.frozen 5; have e6 := HR2.out.cell 6 (by simp [z8]); have g6 := HR2.out.frozen 6; have e7 := HR2.out.cell 7 (by simp [z8]); have g7 := HR2.out.frozen 7; simp only [z8, List.replicate, List.getElem?_cons_zero, List.getElem?_cons_succ, Option.getD_some] at e0 e1 e2 e3 e4 e5 e6 e7)
    obtain ⟨Wf, hWf, hF, hKf, hBf⟩ := store8 (keyL_len zs ps hz8) HR2.out
    rw [hWf]
    have hK1 : Wf.heap[D]? = some (.deferred (some [])) := hKf.same _ _ ((HG2.out.block D hDl (fun e => by injection e; omega)).trans HK.out) rfl
    refine ⟨by simp, .inl ⟨_, _, rfl, run_takeDeferred hK1, ?_⟩⟩
    have HF2 : Nums (Wf.putObj D (.deferred none)) R 50 (keyL zs ps) := (World.putObj_heap_other (by omega)).trans hF
    have r0 := HF2.cell 0 (by rw [keyL_len _ _ hz8]; omega)
    have r1 := HF2.cell 1 (by rw [keyL_len _ _ hz8]; omega)
    have r2 := HF2.cell 2 (by rw [keyL_len _ _ hz8]; omega)
    have r3 := HF2.cell 3 (by rw [keyL_len _ _ hz8]; omega)
    have r4 := HF2.cell 4 (by rw [keyL_len _ _ hz8]; omega)
    have r5 := HF2.cell 5 (by rw [keyL_len _ _ hz8]; omega)
    have r6 := HF2.cell 6 (by rw [keyL_len _ _ hz8]; omega)
    have r7 := HF2.cell 7 (by rw [keyL_len _ _ hz8]; omega)
    refine ⟨.agg (iv (keyL zs ps)), ?_, rfl, ?_⟩
    · rw [← iv8 (keyL_len zs ps hz8)]
      simp [results, Tryd.results56, go_sem, r0, r1, r2, r3, r4, r5, r6, r7]
    · have hb1 : Below w.heap.size w Wf := (HB0.out.trans (HB.out.mono (by omega))).trans (((Below.refl w.heap.size Wr).grown HG2.out (by omega) (fun j e => by cases e; omega)).trans (hBf _ hhR))
      exact hb1.trans (belowK_b (w := w) (Nat.le_refl _) Wf D _ _ (by have := HSO.out; omega) hK1 rfl rfl)
  case stop =>
    rintro D c pre W _ _ h _
    exact h.elim

end Go.Proofs.YtijpgbkjgjpmmaaDoor

/- It is proved what goOn does where no member is left; conditions: those of each statement. -/
namespace Go.Proofs.YtijpgbkjgjpmmaaDoor
open Go.RowKit Go.Shelf

attribute [local go_sem] Oper.semAt_some

/-- What allNames keeps: what it is to call, the names so far, the function itself. -/
structure OS (By Bp Bg Br l m : Nat) (W : World) (p : List Nat) : Prop where
  y : Boxed W By 112 (.func (.yield l) #[] #[])
  g : Boxed W Bg 113 (.func (.func 73) #[] #[.pointer (some ⟨By, 0, none⟩), .pointer (some ⟨Bp, 0, none⟩), .pointer (some ⟨Bg, 0, none⟩)])
  q : Boxed W Bp 23 (.slice (some ⟨Br, 0, none⟩) p.length m)
  r : ∃ R : List Int, R.length = m ∧ R.take p.length = nI p ∧ Nums W Br 3 R
  t : Tab W

/-- The blocks that may turn. -/
def Xg (Bp Br l b : Nat) : Nat → Prop := fun k => k = l ∨ k = b ∨ k = Bp ∨ k = Br

/-- Where they lie. -/
structure Lies (By Bp Bg Br l b n₁ : Nat) : Prop where
  l1 : 1 < l
  l2 : l < n₁
  b1 : 1 < b
  b2 : b < n₁
  y : n₁ ≤ By
  p : n₁ ≤ Bp
  g : n₁ ≤ Bg
  r : n₁ ≤ Br
  yp : By ≠ Bp
  yr : By ≠ Br
  gp : Bg ≠ Bp
  gr : Bg ≠ Br
  pr : Bp ≠ Br

theorem tab_but {X : Nat → Prop} {W W' : World} (h : Tab W) (hb : But X W W') (hX : ∀ k, X k → 1 < k) : Tab W' :=
  h.below (hb.below (B := 2) h.lt (fun k hk => hX k hk)) (by omega)

theorem OS.but {By Bp Bg Br l m b n₁ : Nat} {W W' : World} {p : List Nat} (h : OS By Bp Bg Br l m W p) (L : Lies By Bp Bg Br l b n₁) (hb : But (fun k => k = l ∨ k = b) W W') : OS By Bp Bg Br l m W' p := by
  have hn : ∀ k, n₁ ≤ k → ¬ (k = l ∨ k = b) := fun k hk => by have := L.l2; have := L.b2; omega
  obtain ⟨R, hR1, hR2, hR3⟩ := h.r
  exact ⟨hb.keep (hn _ L.y) h.y, hb.keep (hn _ L.g) h.g, hb.keep (hn _ L.p) h.q, ⟨R, hR1, hR2, hb.keep (hn _ L.r) hR3⟩, tab_but h.t hb (fun k hk => by have := L.l1; have := L.b1; omega)⟩

theorem OS.alloc {By Bp Bg Br l m : Nat} {W : World} {p : List Nat} (h : OS By Bp Bg Br l m W p) (o : Obj) : OS By Bp Bg Br l m (W.alloc o) p := by
  obtain ⟨R, hR1, hR2, hR3⟩ := h.r
  exact ⟨h.y.alloc _, h.g.alloc _, h.q.alloc _, ⟨R, hR1, hR2, hR3.alloc _⟩, tab_but (X := fun _ => False) h.t (But.alloc _ _) (by simp)⟩

/-- Other blocks are written. -/
theorem OS.far {By Bp Bg Br l m : Nat} {W : World} {p : List Nat} (h : OS By Bp Bg Br l m W p) {B : Nat} (hy : By ≠ B) (hp : Bp ≠ B) (hg : Bg ≠ B) (hr : Br ≠ B) (h1 : 1 < B) (v : Value) : OS By Bp Bg Br l m (W.setCell ⟨B, 0, none⟩ v) p := by
  obtain ⟨R, hR1, hR2, hR3⟩ := h.r
  exact ⟨HasBlk.far h.y (show By ≠ B from hy) v, HasBlk.far h.g (show Bg ≠ B from hg) v, HasBlk.far h.q (show Bp ≠ B from hp) v, ⟨R, hR1, hR2, hR3.far (show Br ≠ B from hr) v⟩, tab_but (X := fun k => k = B) h.t (But.setCell _ _ _ _ (fun _ => rfl)) (fun k e => by omega)⟩

/-- What a round finds of what it is handed. -/
def OkN (m : Nat) (x : Value × List Nat) (W : World) : Prop := (x.2.length = m ∧ ∀ v ∈ x.2, v < m) ∧ ∃ a c, x.1 = .slice a x.2.length c ∧ Ints W W.heap.size a (nI x.2)

theorem OS.ok {By Bp Bg Br l m : Nat} {W : World} {p : List Nat} (h : OS By Bp Bg Br l m W p) (hp : p.length = m) (hv : ∀ v ∈ p, v < m) : OkN m (.slice (some ⟨Br, 0, none⟩) p.length m, p) W := by
  obtain ⟨R, hR1, hR2, hR3⟩ := h.r
  refine ⟨⟨hp, hv⟩, _, _, rfl, .inr ⟨Br, 0, rfl, hR3.lt, fun j hj => ?_⟩⟩
  have hj : j < p.length := by simpa [nI_len] using hj
  rw [Nat.zero_add, hR3.cell j (by omega), ← hR2, List.getElem?_take, if_pos hj]

set_option maxRecDepth 100000 in
set_option maxHeartbeats 2000000 in
theorem goOn0 (By Bp Bg Br l m b n₁ N : Nat) (L : Lies By Bp Bg Br l b n₁) (J : List (Value × List Nat) → World → Prop) (hJ : OwnAll n₁ J)
    (hY : ∀ k pre x W1, J pre W1 → OkN m x W1 → pre.length < N → YieldAt Fence.wide k Tryd.prog l #[x.1] W1 fun e W' => e = .returned (.bool true) ∧ J (pre ++ [x]) W' ∧ But (fun k => k = l ∨ k = b) W1 W')
    (p : List Nat) (hp : p.length = m) (hpv : ∀ v ∈ p, v < m) (pre : List (Value × List Nat)) (hpN : pre.length < N) (W : World) (hn : n₁ ≤ W.heap.size) (h0 : J pre W) (hO : OS By Bp Bg Br l m W p) :
    Calls Tryd.prog 73 #[.int .i64 0, .pointer (some ⟨By, 0, none⟩), .pointer (some ⟨Bp, 0, none⟩), .pointer (some ⟨Bg, 0, none⟩)] W fun e W' => e = .returned (.bool true) ∧
      (∃ xs : List (Value × List Nat), xs.map (·.2) = [p] ∧ J (pre ++ xs) W') ∧ OS By Bp Bg Br l m W' p ∧ But (Xg Bp Br l b) W W' := by
  have hO2 := (hO.alloc (.cells #[.int .i64 0] 57)).alloc (.cells #[.bool false] 4)
  have hJ2 : J pre ((W.alloc (.cells #[.int .i64 0] 57)).alloc (.cells #[.bool false] 4)) := hJ _ _ _ none (hJ _ _ _ none h0 (World.grownBy_alloc _ _ _) (by simp)) (World.grownBy_alloc _ _ _) (by simp)
  have hbt : But (Xg Bp Br l b) W ((W.alloc (.cells #[.int .i64 0] 57)).alloc (.cells #[.bool false] 4)) := (But.alloc _ _).trans (But.alloc _ _)
  have q1 := alloc2_1 W (.cells #[.int .i64 0] 57) (.cells #[.bool false] 4)
  obtain ⟨fn, tmps, assign, body, hy, hR⟩ := hY 5 pre (.slice (some ⟨Br, 0, none⟩) p.length m, p) _ hJ2 (hO2.ok hp hpv) hpN
  dsimp only at hy
  have cy := hO2.y.cell
  have cp := hO2.q.cell
  obtain ⟨k, hk⟩ : ∃ k, k = p.length := ⟨_, rfl⟩
  have HK := Lib.hid hk
  rw [← hk] at hy cp
  have HO2 := Lib.hid hO2
  have HBT := Lib.hid hbt
  have HL := Lib.hid L
  have Q1 := Lib.hid q1
  clear hk hO2 hbt q1 hJ2 hY h0 L
  refine (callsIn_wide (n := 6)).1 ?_
  refine callsIn_of_wp Tryd.func73 rfl trivial ?_ rfl
  simp only [Tryd.ntmps73, List.size_toArray, List.length_cons, List.length_nil, Nat.reduceAdd, Nat.reduceSub, Array.replicate_succ, Array.replicate_zero, List.push_toArray, List.append_toArray, List.nil_append, List.cons_append]
  gi_wp2
  refine hR.mono ?_
  rintro e W3 ⟨rfl, hJ3, hb3⟩
  have q3 : HasBlk W3 (W.heap.size + 1) #[.bool false] 4 := hb3.keep (by have := HL.out.l2; have := HL.out.b2; omega) Q1.out
  have c3 := (blk_cell q3 0).trans (cell1_0 _)
  have f3 := blk_frozen q3 0
  have hs3 := hb3.size
  have hO3 := HO2.out.but HL.out hb3
  have HO3 := Lib.hid (hO3.far (B := W.heap.size + 1) (by have := hO.y.lt; omega) (by have := hO.q.lt; omega) (by have := hO.g.lt; omega) (by obtain ⟨_, _, _, h⟩ := hO.r; have := h.lt; omega) (by have := HL.out.l1; have := HL.out.l2; omega) (.bool true))
  have HB3 := Lib.hid (HBT.out.trans ((hb3.mono (Y := Xg Bp Br l b) (fun k _ e => by unfold Xg; rcases e with h | h <;> simp [h]))))
  have HJ3 := Lib.hid hJ3
  clear hb3 hO3 hJ3 q3
  gi_wp2
  refine bodyPost_ret (v := .bool true) (by simp [results, Tryd.results73, go_sem, c3]) rfl ?_
  refine ⟨rfl, ⟨[(.slice (some ⟨Br, 0, none⟩) k m, p)], rfl, ?_⟩, HO3.out, ?_⟩
  · rw [HK.out]
    exact hJ _ _ _ (some (W.heap.size + 1)) HJ3.out (only_setCell (p := ⟨W.heap.size + 1, 0, none⟩) (World.grownBy.refl _ _) rfl _) (fun r e => by injection e; omega)
  · refine ⟨HB3.out.os, HB3.out.tape, HB3.out.output, by have := HB3.out.size; simpa using this, fun i hi hX => ?_⟩
    exact (Below.heap_setCell W3 ⟨W.heap.size + 1, 0, none⟩ _ i (show i ≠ W.heap.size + 1 by omega)).trans (HB3.out.same i hi hX)

end Go.Proofs.YtijpgbkjgjpmmaaDoor

/- It is proved what goOn does; conditions: those of each statement. -/
namespace Go.Proofs.YtijpgbkjgjpmmaaDoor
open Go.RowKit Go.Shelf

attribute [local go_sem] Oper.semAt_some

theorem OS.drew {By Bp Bg Br l m : Nat} {W : World} {p : List Nat} (h : OS By Bp Bg Br l m W p) : OS By Bp Bg Br l m W.drew p := ⟨h.y, h.g, h.q, h.r, h.t⟩
theorem OS.grown {By Bp Bg Br l m : Nat} {W W' : World} {p : List Nat} {row : Option Nat} (h : OS By Bp Bg Br l m W p) (hg : W.grownBy W' row) (hr : ∀ r, row = some r → r ≠ By ∧ r ≠ Bp ∧ r ≠ Bg ∧ r ≠ Br ∧ 1 < r) : OS By Bp Bg Br l m W' p := by
  obtain ⟨R, hR1, hR2, hR3⟩ := h.r
  have hb : But (fun k => row = some k) W W' := But.of_grownBy hg (fun r e _ => e)
  exact ⟨hb.keep (fun e => (hr _ e).1 rfl) h.y, hb.keep (fun e => (hr _ e).2.2.1 rfl) h.g, hb.keep (fun e => (hr _ e).2.1 rfl) h.q, ⟨R, hR1, hR2, hb.keep (fun e => (hr _ e).2.2.2.1 rfl) hR3⟩, tab_but h.t hb (fun k e => (hr k e).2.2.2.2)⟩

theorem Lies.x1 {By Bp Bg Br l b n₁ : Nat} (L : Lies By Bp Bg Br l b n₁) : ∀ k, Xg Bp Br l b k → 1 < k := by
  intro k h
  have := L.l1; have := L.l2; have := L.b1; have := L.p; have := L.r
  unfold Xg at h; omega

theorem mem_none (s : Nat) (hs : s < 64) (h : mem s = []) : s = 0 := by
  by_cases h0 : s = 0
  · exact h0
  · rw [mem_cons s hs h0] at h; cases h

/-- A name is put behind the names so far: what that leaves. -/
theorem put_name {By Bp Bg Br l m b n₁ : Nat} (L : Lies By Bp Bg Br l b n₁) {W : World} {p : List Nat} (hO : OS By Bp Bg Br l m W p) (hp : p.length < m) (v : Nat) :
    ∃ E, ((W.alloc (.cells #[.int .i64 (v : Int)] 3)).setCell ⟨Br, p.length, none⟩ (.int .i64 (v : Int))).setCell ⟨Bp, 0, none⟩ (.slice (some ⟨Br, 0, none⟩) (p.length + 1) m) = E ∧ OS By Bp Bg Br l m E (p ++ [v]) ∧ But (Xg Bp Br l b) W E ∧ W.heap.size ≤ E.heap.size := by
  obtain ⟨R, hR1, hR2, hR3⟩ := hO.r
  have hgr := L.gr; have hyr := L.yr; have hyp := L.yp; have hgp := L.gp; have hpr := L.pr
  refine ⟨_, rfl, ⟨?_, ?_, ?_, ⟨R.set p.length (v : Int), by rw [List.length_set, hR1], ?_, ?_⟩, ?_⟩, ?_, by simp⟩
  · exact HasBlk.far (HasBlk.far (HasBlk.alloc hO.y _) (show By ≠ Br from hyr) _) (show By ≠ Bp from hyp) _
  · exact HasBlk.far (HasBlk.far (HasBlk.alloc hO.g _) (show Bg ≠ Br from hgr) _) (show Bg ≠ Bp from hgp) _
  · rw [List.length_append]
    exact (show Boxed _ Bp 23 _ from HasBlk.far (HasBlk.alloc hO.q (.cells #[.int .i64 (v : Int)] 3)) (show Bp ≠ Br from hpr) (.int .i64 (v : Int))).set _
  · rw [List.length_append, List.length_singleton, List.take_succ_eq_append_getElem (by rw [List.length_set]; omega), List.take_set_of_le (Nat.le_refl _), hR2, nI_snoc]
    simp
  · exact ((hR3.alloc _).set p.length (v : Int)).far (show Br ≠ Bp from fun e => hpr e.symm) _
  · exact tab_but (X := Xg Bp Br l b) hO.t (((But.alloc _ _).trans (But.setCell _ _ _ _ (fun _ => .inr (.inr (.inr rfl))))).trans (But.setCell _ _ _ _ (fun _ => .inr (.inr (.inl rfl))))) L.x1
  · exact ((But.alloc _ _).trans (But.setCell _ _ _ _ (fun _ => .inr (.inr (.inr rfl))))).trans (But.setCell _ _ _ _ (fun _ => .inr (.inr (.inl rfl))))

/-- The last name is taken off again. -/
theorem off_name {By Bp Bg Br l m b n₁ : Nat} (L : Lies By Bp Bg Br l b n₁) {W : World} {p : List Nat} {v : Nat} (hO : OS By Bp Bg Br l m W (p ++ [v])) :
    OS By Bp Bg Br l m (W.setCell ⟨Bp, 0, none⟩ (.slice (some ⟨Br, 0, none⟩) p.length m)) p ∧ But (Xg Bp Br l b) W (W.setCell ⟨Bp, 0, none⟩ (.slice (some ⟨Br, 0, none⟩) p.length m)) := by
  obtain ⟨R, hR1, hR2, hR3⟩ := hO.r
  have hgr := L.gr; have hyr := L.yr; have hyp := L.yp; have hgp := L.gp; have hpr := L.pr
  have hbt : But (Xg Bp Br l b) W (W.setCell ⟨Bp, 0, none⟩ (.slice (some ⟨Br, 0, none⟩) p.length m)) := But.setCell _ _ _ _ (fun _ => .inr (.inr (.inl rfl)))
  refine ⟨⟨HasBlk.far hO.y (show By ≠ Bp from hyp) _, HasBlk.far hO.g (show Bg ≠ Bp from hgp) _, hO.q.set _, ⟨R, hR1, ?_, hR3.far (show Br ≠ Bp from fun e => hpr e.symm) _⟩, tab_but hO.t hbt L.x1⟩, hbt⟩
  have := congrArg (List.take p.length) hR2
  rw [List.take_take, nI_snoc, List.length_append, Nat.min_eq_left (by simp)] at this
  rw [this, List.take_left' (nI_len p)]

end Go.Proofs.YtijpgbkjgjpmmaaDoor

/- It is proved what without returns; conditions: those of each statement. -/
namespace Go.Proofs.YtijpgbkjgjpmmaaDoor
open Go.RowKit Go.Shelf

/-- A set without a member. -/
def woP (s v : Nat) : Nat := s &&& (63 - 2 ^ v)

set_option maxRecDepth 100000 in
theorem wo_fin : ∀ x : Fin 64, ∀ p : Fin 6, bits BinOp.andNot IntKind.i64 (x.val : Int) (2 ^ p.val) = ((woP x.val p.val : Nat) : Int) := by decide +kernel

theorem wo_at (x p : Nat) (hx : x < 64) (hp : p < 6) : bits BinOp.andNot IntKind.i64 (x : Int) (2 ^ p) = ((woP x p : Nat) : Int) := wo_fin ⟨x, hx⟩ ⟨p, hp⟩
set_option maxRecDepth 100000 in
theorem wo_mem_fin : ∀ x : Fin 64, ∀ p : Fin 6, mem (woP x.val p.val) = (mem x.val).erase p.val := by decide +kernel

theorem wo_mem (x p : Nat) (hx : x < 64) (hp : p < 6) : mem (woP x p) = (mem x).erase p := wo_mem_fin ⟨x, hx⟩ ⟨p, hp⟩
theorem wo_le (x p : Nat) : woP x p ≤ x := Nat.and_le_left
theorem without_any (x p : Nat) (hx : x < 64) (hp : p < 6) (w : World) :
    Calls Tryd.prog 74 #[.int .i64 (x : Int), .int .i64 (p : Int)] w fun e w' => e = .returned (.int .i64 ((woP x p : Nat) : Int)) ∧ w = w' := by
  have hp8 : (p : Int) < 8 := by omega
  obtain ⟨h1, h2⟩ := p2_small p (by omega)
  have HO := Lib.hid (wo_at x p hx hp)
  go_enter Tryd.func74, Tryd.ntmps74
  go_wp2
  go_ret
  exact ⟨by rw [HO.out]; rfl, rfl⟩

end Go.Proofs.YtijpgbkjgjpmmaaDoor

/- It is proved that the dual of a dual is the family; conditions: those of each statement. -/
namespace Go.Proofs.YtijpgbkjgjpmmaaDoor
open Go.RowKit

theorem mem_mem (s v : Nat) : v ∈ mem s ↔ v < 6 ∧ s.testBit v = true := by simp [mem]
end Go.Proofs.YtijpgbkjgjpmmaaDoor
