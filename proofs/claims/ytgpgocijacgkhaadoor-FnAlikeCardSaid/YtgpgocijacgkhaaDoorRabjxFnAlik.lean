/- It is proved what listBy returns; conditions: those of each statement. -/
import Derived.Laws.CopyRow
import Derived.Lib.SlBuf
import Derived.Test.YtgpgocijacgkhaaDoorRows
import Derived.WalkKit
import Derived.WalkSpells
import Derived.ProofKit
import Derived.OpenShut
import Derived.ShutString
import Derived.ChangeOld
import Derived.Below
import Derived.Deep.RegionHeld3
import Derived.Deep.QuietTactic
import Derived.BigQuiet
import Derived.Lib.Hide
import Derived.Lib.SmallJoins
import Derived.Outline
import Derived.Laws.MakeOwn
import Derived.Laws.OwnMore
import Derived.IntWalk
import Derived.Lib.AppendZeros
import Derived.Maps.AppendAt
import Derived.Deep.AppendLies
import Derived.OwnWalk
import Derived.Lib.SlicesCompact
import Derived.Lib.OwnBridge
import Derived.Shelf.Sort.Plain
import Derived.Shelf.Slices.In.SortNone
import Derived.Shelf.Slices.CompactI
import Derived.Ground.Names2Prog
import Derived.RangeFuncNested
import Derived.RangeFuncBound
import Derived.RangeFuncCalls
import Derived.RangeFuncLeaves
import Derived.RangeFuncBox
import Derived.Shelf.Abstract
import Derived.Shelf.RegionOpen
import Derived.OwnWalkIn
import Derived.TacticsInMore
import Derived.LoopNIn
import Derived.LoopIn
import Derived.StillTail
import Derived.StillTactics
import Derived.OrdersIn
import Derived.TacticsIn
import Derived.Shelf.Spec.TrailingZeros
import Derived.StillTailTactics
import Derived.Test.YtgpgocijacgkhaaDoorRabdxFnAlik
import Derived.Test.YtgpgocijacgkhaaDoorRabexFnAlik
import Derived.Test.YtgpgocijacgkhaaDoorRaaa
import Derived.Test.YtgpgocijacgkhaaDoorRaab
import Derived.Test.YtgpgocijacgkhaaDoorRaah
import Derived.Test.YtgpgocijacgkhaaDoorRaac
import Derived.Test.YtgpgocijacgkhaaDoorTb
import Derived.RowKit
import Derived.RangeFuncWrites
import Derived.Maps.OwnIn
import Derived.Maps.Ext
import Derived.DeepKeys4
import Derived.MapKept
import Derived.Test.YtgpgocijacgkhaaDoorRaao
import Derived.Test.YtgpgocijacgkhaaDoorRabgxFnAlik
namespace Go.Proofs.YtgpgocijacgkhaaDoor
open Go.RowKit Go.Shelf

attribute [local go_sem] Oper.semAt_some

def z8 : List Int := List.replicate 8 0
/-- The places and clubs that have come. -/
def valsC {P : Nat × Int → Prop} (pre : List { p // P p }) : List (Nat × Int) := pre.map (·.1)

theorem valsC_snoc {P : Nat × Int → Prop} (pre : List { p // P p }) (x : { p // P p }) : valsC (pre ++ [x]) = valsC pre ++ [x.1] := by simp [valsC]
theorem store8 {W : World} {R t : Nat} {L : List Int} (hl : L.length = 8) (h : Nums W R t z8) : ∃ W', ((((((((W.setCell ⟨R, 0, none⟩ (.int .i64 (L[0]?.getD 0))).setCell ⟨R, 1, none⟩ (.int .i64 (L[1]?.getD 0))).setCell ⟨R, 2, none⟩ (.int .i64 (L[2]?.getD 0))).setCell ⟨R, 3, none⟩ (.int .i64 (L[3]?.getD 0))).setCell ⟨R, 4, none⟩ (.int .i64 (L[4]?.getD 0))).setCell ⟨R, 5, none⟩ (.int .i64 (L[5]?.getD 0))).setCell ⟨R, 6, none⟩ (.int .i64 (L[6]?.getD 0))).setCell ⟨R, 7, none⟩ (.int .i64 (L[7]?.getD 0))) = W' ∧ Nums W' R t L ∧ KeepsOthers W W' ∧ ∀ (B : Nat), B ≤ R → Below B W W' := by
  refine ⟨_, rfl, ?_, ?_, fun B hB => ?_⟩
  · obtain ⟨x0, x1, x2, x3, x4, x5, x6, x7, rfl⟩ : ∃ x0 x1 x2 x3 x4 x5 x6 x7 : Int, L = [x0, x1, x2, x3, x4, x5, x6, x7] := by
      match L, hl with
      | [x0, x1, x2, x3, x4, x5, x6, x7], _ => exact ⟨_, _, _, _, _, _, _, _, rfl⟩
    exact (((((((h.set 0 x0).set 1 x1).set 2 x2).set 3 x3).set 4 x4).set 5 x5).set 6 x6).set 7 x7
  · exact ((((((((KeepsOthers.setCell _ _ _).trans (KeepsOthers.setCell _ _ _)).trans (KeepsOthers.setCell _ _ _)).trans (KeepsOthers.setCell _ _ _)).trans (KeepsOthers.setCell _ _ _)).trans (KeepsOthers.setCell _ _ _)).trans (KeepsOthers.setCell _ _ _)).trans (KeepsOthers.setCell _ _ _))
  · have st : ∀ (W1 : World) (i : Nat) (v : Value), Below B W W1 → Below B W (W1.setCell ⟨R, i, none⟩ v) := fun W1 i v h => h.setCell (p := ⟨R, i, none⟩) hB v
    exact st _ _ _ (st _ _ _ (st _ _ _ (st _ _ _ (st _ _ _ (st _ _ _ (st _ _ _ (st _ _ _ (Below.refl _ _))))))))

theorem below_keeps {W W' : World} (h : Below W.heap.size W W') : KeepsOthers W W' := ⟨h.size, fun k o hk _ => (h.block k (lt_of_some hk)).trans hk⟩
theorem alloc5 (w : World) (o0 o1 o2 o3 o4 : Obj) : ∃ W, ((((w.alloc o0).alloc o1).alloc o2).alloc o3).alloc o4 = W ∧ W.heap[w.heap.size]? = some o0 ∧ W.heap[w.heap.size + 1]? = some o1 ∧ W.heap[w.heap.size + 1 + 1]? = some o2 ∧
    W.heap[w.heap.size + 1 + 1 + 1]? = some o3 ∧ W.heap[w.heap.size + 1 + 1 + 1 + 1]? = some o4 ∧ W.heap.size = w.heap.size + 1 + 1 + 1 + 1 + 1 ∧ Below w.heap.size w W := by
  refine ⟨_, rfl, ?_, ?_, ?_, ?_, ?_, by simp, ((below3 w o0 o1 o2).alloc (by simp; omega) _).alloc (by simp; omega) _⟩
  · exact (alloc_old _ _ _ (by simp <;> omega)).trans ((alloc_old _ _ _ (by simp <;> omega)).trans (alloc3_0 w o0 o1 o2))
  · exact (alloc_old _ _ _ (by simp <;> omega)).trans ((alloc_old _ _ _ (by simp <;> omega)).trans (alloc3_1 w o0 o1 o2))
  · exact (alloc_old _ _ _ (by simp <;> omega)).trans ((alloc_old _ _ _ (by simp <;> omega)).trans (alloc3_2 w o0 o1 o2))
  · exact (alloc_old _ _ _ (by simp <;> omega)).trans (by rw [show w.heap.size + 1 + 1 + 1 = (((w.alloc o0).alloc o1).alloc o2).heap.size from by simp]; exact alloc_new _ _)
  · rw [show w.heap.size + 1 + 1 + 1 + 1 = ((((w.alloc o0).alloc o1).alloc o2).alloc o3).heap.size from by simp]; exact alloc_new _ _

set_option maxRecDepth 100000 in
set_option maxHeartbeats 4000000 in
theorem listBy_any (m : Nat) (a : Option Addr) (c : Nat) (zs : List Int) (pa : Option Addr) (pc : Nat) (ps : List Int) (hp : Okp m ps) (w : World) (ha : Ints w w.heap.size a zs) (hpi : Ints w w.heap.size pa ps) (hT : Tab w) (hf : famIn (m : Int) zs = true) :
    Calls Tryd.prog 99 #[.agg #[.int .i64 (m : Int), .slice a zs.length c], .slice pa ps.length pc] w fun e w' => e = .returned (.agg (iv (keyL zs ps))) ∧ Below w.heap.size w w' := by
  have HI := Lib.hid ha
  have HPI := Lib.hid hpi
  have HPc := Lib.hid (isClub_all hf)
  obtain ⟨hm1, hm6, hl8, -⟩ := famIn_out hf
  have hm6' : m ≤ 6 := by omega
  have HT := Lib.hid hT
  have HOK := Lib.hid hp
  obtain ⟨n, hn⟩ : ∃ n, n = zs.length := ⟨_, rfl⟩
  have HN := Lib.hid hn
  obtain ⟨pn, hpn⟩ : ∃ pn, pn = ps.length := ⟨_, rfl⟩
  have HPN := Lib.hid hpn
  have hx : n ≤ 8 := by omega
  rw [← hn, ← hpn]
  clear ha hf hn hl8 hpi hT hp hpn
  refine (callsIn_wide (n := 6)).1 ?_
  refine callsIn_of_wp_marks Tryd.func99 rfl trivial ?_ rfl
  simp only [Tryd.ntmps99, List.size_toArray, List.length_cons, List.length_nil, Nat.reduceAdd, Nat.reduceSub, Array.replicate_succ, Array.replicate_zero, List.push_toArray, List.append_toArray, List.nil_append, List.cons_append]
  gi_wp2_with (refine ⟨trivial, ?_⟩; gi_at_call 45; refine (callsIn_wide.2 (clubs_any _ _ _ _ _)).mono ?_; rintro e w' ⟨rfl, rfl⟩)
  have h16 : 1 ≤ 6 := by omega
  obtain ⟨W0, hW0, q0, q1, q2, q3, q4, hso, hb0⟩ := alloc5 w (.cells #[.int .i64 (m : Int), .slice a n c] 25) (.cells #[.slice pa pn pc] 23) (.cells #[Value.int IntKind.i64 0, Value.int IntKind.i64 0, Value.int IntKind.i64 0, Value.int IntKind.i64 0, Value.int IntKind.i64 0, Value.int IntKind.i64 0, Value.int IntKind.i64 0, Value.int IntKind.i64 0] 77) (.cells #[Value.int IntKind.i64 0, Value.int IntKind.i64 0, Value.int IntKind.i64 0, Value.int IntKind.i64 0, Value.int IntKind.i64 0, Value.int IntKind.i64 0, Value.int IntKind.i64 0, Value.int IntKind.i64 0] 77) (.cells #[.int .i64 (m : Int), .slice a n c] 25)
  rw [hW0]
  obtain ⟨M, hM⟩ : ∃ M, M = w.heap.size + 1 + 1 + 1 := ⟨_, rfl⟩
  rw [← hM] at q3 q4 hso ⊢
  obtain ⟨R, hR⟩ : ∃ R, R = w.heap.size + 1 + 1 := ⟨_, rfl⟩
  rw [← hR] at q2 ⊢
  have HSO := Lib.hid hso
  have HB0 := Lib.hid hb0
  have Q0 : Hid (HasBlk W0 w.heap.size #[.int .i64 (m : Int), .slice a n c] 25) := Lib.hid q0
  have Q1 : Hid (HasBlk W0 (w.heap.size + 1) #[.slice pa pn pc] 23) := Lib.hid q1
  have Q2 : Hid (Nums W0 R 77 z8) := Lib.hid q2
  have Q3 : Hid (Nums W0 M 77 (madeL ps (valsC ([] : List { p // IsClub m p })))) := Lib.hid q3
  have hMR : R < M := by omega
  have hM1 : w.heap.size + 1 < M := by omega
  have hhR : w.heap.size ≤ R := by omega
  have hst := clubsP_stops (IsClub m) (6 - 1) (by omega) (M + 1) w.heap.size a c zs (by have := HN.out; omega) HPc.out W0 (by omega) (by omega) (by rw [← HN.out]; exact (blk_cell q4 1).trans (cell2_1 _ _)) (HI.out.below HB0.out)
  rw [← HN.out] at hst
  clear hW0 q0 q1 q2 q3 q4 hso hb0 hM hR
  refine wpIn_rangeFunc_ownG rfl h16 (gf := 77) (lb := #[.pointer (some ⟨M + 1, 0, none⟩)]) rfl trivial (enters_of Tryd.func77 (by kernel_rfl) rfl)
    hst belowK_t (belowK_b (by have := HSO.out; omega)) (Below.refl _ _) (fun _ => rfl)
    (fun pre Wr => Nums Wr M 77 (madeL ps (valsC pre)) ∧ Below M W0 Wr)
    (fun _ _ _ => False)
    (OwnFrom.and (Own.from (nums_own _ _ (fun pre : List { p // IsClub m p } => madeL ps (valsC pre))) _) (ownFrom_below (by have := HSO.out; omega) (by have := HSO.out; omega)))
    (fun _ _ _ _ _ hs _ _ => hs)
    ⟨Q3.out, Below.refl _ _⟩
    (fun x => { tmps := #[.agg #[.int .i64 (m : Int), .slice a n c], .slice pa pn pc, .pointer (some ⟨w.heap.size, 0, none⟩), .pointer (some ⟨w.heap.size + 1, 0, none⟩), .pointer (some ⟨R, 0, none⟩), .pointer (some ⟨M, 0, none⟩), .int .i64 (x.1.1 : Int), .int .i64 x.1.2, .agg #[.int .i64 (m : Int), .slice a n c], .func (.func 77) #[] #[.pointer (some ⟨M + 1, 0, none⟩)], .int .i64 (x.1.1 : Int), .int .i64 x.1.2, undef, undef, undef, undef, undef, undef, undef, undef, undef, undef, undef], defers := [] }) ?assign ?body ?done ?stop
  case assign =>
    intro l x Wr K hK
    gi_wp2
    exact hK
  case body =>
    rintro l pre x Wr ⟨hv, hB⟩ hlt
    obtain ⟨q, hq⟩ : ∃ q : Nat, x.1.2 = (q : Int) := ⟨x.1.2.toNat, by have := x.2.2.1; omega⟩
    have hq2 : q < 2 ^ m := by have := x.2.2.2; rw [hq] at this; simpa using this
    have h8 : x.1.1 < 8 := x.2.1
    obtain ⟨k, hk⟩ : ∃ k, k = x.1.1 := ⟨_, rfl⟩
    have HMK : Hid (madeL ps (valsC (pre ++ [x])) = (madeL ps (valsC pre)).set k ((called ps q : Nat) : Int)) := Lib.hid (by rw [valsC_snoc, madeL_snoc, hk, callZ, hq]; rfl)
    rw [hq, ← hk]
    rw [← hk] at h8
    have c1 := (blk_cell (show HasBlk Wr (w.heap.size + 1) #[.slice pa pn pc] 23 from (hB.block _ hM1).trans Q1.out) 0).trans (cell1_0 _)
    have hBw : Below w.heap.size w Wr := HB0.out.trans (hB.mono (by omega))
    have HPr : Hid (Ints Wr Wr.heap.size pa ps) := Lib.hid ((HPI.out.below hBw).mono hBw.size)
    have HTr : Hid (Tab Wr) := Lib.hid (HT.out.below hBw HT.out.lt)
    have HV := Lib.hid hv
    have HB := Lib.hid hB
    have hML : M < Wr.heap.size := hv.lt
    have hk8 : (k : Int) < 8 := by omega
    have hk0 : (0 : Int) ≤ (k : Int) := by omega
    clear hv hB hk hq hBw
    have HNM := fun W' => named_any m q hm6' hq2 pa pc ps HOK.out W'
    rw [← HPN.out] at HNM
    gi_wp2_with (refine ⟨trivial, ?_⟩; gi_at_call 55; refine (CallsIn.inRound l (callsIn_wide.2 (HNM _ HPr.out HTr.out))).mono ?_; rintro e w' ⟨rfl, hb'⟩; have HV' := Lib.hid (HV.out.below hb' hML); have c3 := HV'.out.cell k (by rw [madeL_len]; omega); have f3 := HV'.out.frozen k; have HBB := Lib.hid hb'; clear hb')
    have hbM : Below M Wr ((w'.setCell ⟨M, k, none⟩ (.int .i64 ((called ps q : Nat) : Int)))) := (HBB.out.mono (show M ≤ Wr.heap.size by omega)).setCell (p := ⟨M, k, none⟩) (Nat.le_refl _) _
    refine ⟨((below_keeps HBB.out).trans (KeepsOthers.setCell _ _ _)).from _, (hbM.mono (by omega)), ?_, HB.out.trans hbM⟩
    rw [HMK.out]
    exact HV'.out.set _ _
  case done =>
    rintro D ys Wr hD hys ⟨hv, hB⟩ hK
    have hz8 : zs.length ≤ 8 := by have := HN.out; omega
    have hvv : valsC ys = pairs zs zs.length := by rw [← HN.out]; exact hys
    have x1 := (blk_cell (show HasBlk Wr w.heap.size #[.int .i64 (m : Int), .slice a n c] 25 from (hB.block _ (by omega)).trans Q0.out) 1).trans (cell2_1 _ _)
    have HV := Lib.hid hv
    have HK := Lib.hid hK
    have HB := Lib.hid hB
    have hML : M < Wr.heap.size := hv.lt
    have hn8 : (n : Int) ≤ 8 := by omega
    have hDM : D ≠ M := by have := HSO.out; omega
    have hDR : D ≠ R := by have := HSO.out; omega
    have hDl : D < Wr.heap.size := lt_of_some hK
    have HKE : Hid (((madeL ps (valsC ys)).take n).mergeSort leZ ++ (madeL ps (valsC ys)).drop n = keyL zs ps) := Lib.hid (by rw [hvv, HN.out]; exact keyL_made zs ps hz8)
    clear hv hB hK hvv hys
    gi_wp2_with (refine ⟨trivial, ?_⟩; gi_at_call 109; refine (callsIn_wide.2 (sort_nums M n 8 77 _ Wr HV.out (by rw [madeL_len]; exact hx) hx (by rw [madeL_len]; omega))).mono ?_; rw [HKE.out]; rintro e w' ⟨rfl, hN2, hg2⟩; have HN2 := Lib.hid hN2; have HR2 : Hid (Nums w' R 77 z8) := Lib.hid (((show Nums Wr R 77 z8 from (HB.out.block R hMR).trans Q2.out)).kept hg2 (fun e => by injection e; omega)); have HG2 := Lib.hid hg2; clear hN2 hg2; have d0 := HN2.out.cell 0 (by rw [keyL_len _ _ hz8]; omega); have d1 := HN2.out.cell 1 (by rw [keyL_len _ _ hz8]; omega); have d2 := HN2.out.cell 2 (by rw [keyL_len _ _ hz8]; omega); have d3 := HN2.out.cell 3 (by rw [keyL_len _ _ hz8]; omega); have d4 := HN2.out.cell 4 (by rw [keyL_len _ _ hz8]; omega); have d5 := HN2.out.cell 5 (by rw [keyL_len _ _ hz8]; omega); have d6 := HN2.out.cell 6 (by rw [keyL_len _ _ hz8]; omega); have d7 := HN2.out.cell 7 (by rw [keyL_len _ _ hz8]; omega); have e0 := HR2.out.cell 0 (by simp [z8]); have g0 := HR2.out.frozen 0; have e1 := HR2.out.cell 1 (by simp [z8]); have g1 := HR2.out.frozen 1; have e2 := HR2.out.cell 2 (by simp [z8]); have g2 := HR2.out.frozen 2; have e3 := HR2.out.cell 3 (by simp [z8]); have g3 := HR2.out.frozen 3; have e4 := HR2.out.cell 4 (by simp [z8]); have g4 := HR2.out.frozen 4; have e5 := HR2.out.cell 5 (by simp [z8]); have g5 := HR2.out.frozen 5; have e6 := HR2.out.cell 6 (by simp [z8]); have g6 := HR2.out.frozen 6; have e7 := HR2.out.cell 7 (by simp [z8]); have g7 := HR2.out.frozen 7; simp only [z8, List.replicate, List.getElem?_cons_zero, List.getElem?_cons_succ, Option.getD_some] at e0 e1 e2 e3 e4 e5 e6 e7)
    obtain ⟨Wf, hWf, hF, hKf, hBf⟩ := store8 (keyL_len zs ps hz8) HR2.out
    rw [hWf]
    have hK1 : Wf.heap[D]? = some (.deferred (some [])) := hKf.same _ _ ((HG2.out.block D hDl (fun e => by injection e; omega)).trans HK.out) rfl
    refine ⟨by simp, .inl ⟨_, _, rfl, run_takeDeferred hK1, ?_⟩⟩
    have HF2 : Nums (Wf.putObj D (.deferred none)) R 77 (keyL zs ps) := (World.putObj_heap_other (by omega)).trans hF
    have r0 := HF2.cell 0 (by rw [keyL_len _ _ hz8]; omega)
    have r1 := HF2.cell 1 (by rw [keyL_len _ _ hz8]; omega)
    have r2 := HF2.cell 2 (by rw [keyL_len _ _ hz8]; omega)
    have r3 := HF2.cell 3 (by rw [keyL_len _ _ hz8]; omega)
    have r4 := HF2.cell 4 (by rw [keyL_len _ _ hz8]; omega)
    have r5 := HF2.cell 5 (by rw [keyL_len _ _ hz8]; omega)
    have r6 := HF2.cell 6 (by rw [keyL_len _ _ hz8]; omega)
    have r7 := HF2.cell 7 (by rw [keyL_len _ _ hz8]; omega)
    refine ⟨.agg (iv (keyL zs ps)), ?_, rfl, ?_⟩
    · rw [← iv8 (keyL_len zs ps hz8)]
      simp [results, Tryd.results99, go_sem, r0, r1, r2, r3, r4, r5, r6, r7]
    · have hb1 : Below w.heap.size w Wf := (HB0.out.trans (HB.out.mono (by omega))).trans (((Below.refl w.heap.size Wr).grown HG2.out (by omega) (fun j e => by cases e; omega)).trans (hBf _ hhR))
      exact hb1.trans (belowK_b (w := w) (Nat.le_refl _) Wf D _ _ (by have := HSO.out; omega) hK1 rfl rfl)
  case stop =>
    rintro D c pre W _ _ h _
    exact h.elim

end Go.Proofs.YtgpgocijacgkhaaDoor

/- It is proved what the method ask leaves in its map; conditions: those of each statement. -/
namespace Go.Proofs.YtgpgocijacgkhaaDoor
open Go.RowKit Go.Shelf Go.Maps

attribute [local go_sem] Oper.semAt_some

/-- allNames(members): the number is boxed; the function value holds the box. -/
theorem allNames_any (m : Int) (w : World) :
    Calls Tryd.prog 98 #[.int .i64 m] w fun e w' => e = .returned (.func (.func 106) #[] #[.pointer (some ⟨w.heap.size, 0, none⟩)]) ∧ w' = w.alloc (.cells #[.int .i64 m] 3) := by
  have hmf : ∀ (fn : Fn) (first cap : Array Value) (w : World), (Instr.makeFunc fn first cap).run Tryd.prog w = .ok (.func fn first cap) w := fun _ _ _ _ => rfl
  go_enter Tryd.func98, Tryd.ntmps98
  go_wp2
  go_ret
  exact ⟨rfl, rfl⟩

/-- The map of namings. -/
abbrev OwnT (W : World) (b n : Nat) (D : DataW Unit) : Prop := W.ownsMap Tryd.prog 77 rowR b n D

theorem OwnT.but {W W' : World} {b n : Nat} {D : DataW Unit} {X : Nat → Prop} (h : OwnT W b n D) (hb : But X W W') (hX : ¬ X b) : OwnT W' b n D := by
  obtain ⟨es, clock, hB, F, hs, hD⟩ := h
  exact ⟨es, clock, hb.keep hX hB, F, hs, hD⟩

theorem OwnT.blk {W : World} {b n : Nat} {D : DataW Unit} (h : OwnT W b n D) : ∃ es clock, W.heap[b]? = some (.map es clock) := by
  obtain ⟨es, clock, hB, _⟩ := h; exact ⟨es, clock, hB⟩

theorem ints_but {W W' : World} {b B : Nat} {a : Option Addr} {zs : List Int} (h : Ints W B a zs) (hB : B ≤ W.heap.size) (hb : But (fun k => k = b) W W') (hm : ∃ es clock, W.heap[b]? = some (.map es clock)) : Ints W' B a zs := by
  rcases h with h | ⟨g, off, e, hg, hc⟩
  · exact .inl h
  · by_cases hz : zs = []
    · exact .inl hz
    · refine .inr ⟨g, off, e, hg, fun j hj => ?_⟩
      have hne : g ≠ b := by
        rintro rfl
        obtain ⟨es, clock, hm⟩ := hm
        have := hc 0 (List.length_pos_iff.2 hz)
        simp [World.cell?, hm] at this
      exact (World.cell?_of_block (a := ⟨g, off + j, none⟩) (hb.same g (by omega) hne)).trans (hc j hj)

theorem clear_own {W : World} {b n : Nat} {D : DataW Unit} (h : OwnT W b n D) : ∃ W', (∀ ty, (Builtin.clear_ #[75] ty #[.map (some b)]).run Tryd.prog W = .ok (.tuple #[]) W') ∧ OwnT W' b 0 (.map []) ∧ W.grownBy W' (some b) := by
  obtain ⟨es, clock, hb, F, hs, hD⟩ := h
  refine ⟨ChangeMaps.setBlock W b (.map #[] clock), fun ty => ?_, ⟨#[], clock, ChangeMaps.heap_setBlock_same hb _, ⟨by simp, MapKept.stamped_empty _, by simp⟩, Nat.le_refl _, rfl⟩, ⟨rfl, rfl, rfl, by simp [ChangeMaps.setBlock], fun i _ hi => ChangeMaps.heap_setBlock_other hb _ (fun e => hi (by rw [e]))⟩⟩
  simp [Builtin.clear_, run_underlying Tryd.underlying75, MapKept.run_getObj_map hb, MapKept.run_setObj_map _ hb, Result.andThen]
  rfl

end Go.Proofs.YtgpgocijacgkhaaDoor

/- It is proved what the method and of a naming returns; conditions: those of each statement. -/
namespace Go.Proofs.YtgpgocijacgkhaaDoor
open Go.RowKit Go.Shelf

def z13 : Array Value := #[Value.int IntKind.i64 0, Value.int IntKind.i64 0, Value.int IntKind.i64 0, Value.int IntKind.i64 0, Value.int IntKind.i64 0, Value.int IntKind.i64 0, Value.int IntKind.i64 0, Value.int IntKind.i64 0, Value.int IntKind.i64 0, Value.int IntKind.i64 0, Value.int IntKind.i64 0, Value.int IntKind.i64 0, Value.int IntKind.i64 0]
theorem copy_first (xs ps : List Int) (hl : xs.length = 13) (hp : ps.length ≤ 6) (h0 : 1 ≤ ps.length) (a : Option Addr) (c : Nat) (w : World) (ha : Ints w w.heap.size a ps) :
    ∃ W3, (∀ ty, (Builtin.copy_ #[23, 23] ty #[.slice (some ⟨w.heap.size, 0, none⟩) 6 6, .slice a ps.length c]).run Tryd.prog ((w.alloc (.cells (iv xs) 102)).alloc (.cells z13 102)) = .ok (.int .i64 (ps.length : Int)) W3) ∧
      Nums W3 w.heap.size 102 (ps ++ xs.drop ps.length) ∧ HasBlk W3 (w.heap.size + 1) z13 102 ∧ Below w.heap.size w W3 := by
  have hb2 := below2 w (.cells (iv xs) 102) (.cells z13 102)
  have q0 := alloc2_0 w (.cells (iv xs) 102) (.cells z13 102)
  have q1 := alloc2_1 w (.cells (iv xs) 102) (.cells z13 102)
  obtain ⟨W, hW⟩ : ∃ W, (w.alloc (.cells (iv xs) 102)).alloc (.cells z13 102) = W := ⟨_, rfl⟩
  rw [hW] at hb2 q0 q1 ⊢
  obtain ⟨b, off, rfl, hbb, hcc⟩ := ha.at_ (k := 0) (by omega)
  have hA := (ha.below hb2).add_
  have hr := fun ty => run_copy_row (P := Tryd.prog) W 23 23 ty 3 w.heap.size 0 6 6 ⟨b, off, none⟩ ps.length c (iv xs) 102 (ps.map (Value.int .i64)) Tryd.underlying23 (by
    obtain ⟨i0, hi0, hz0, hz1, hz2⟩ := info_parts Tryd.info3
    simp [hi0, hz1]) q0 (by simp [Nat.min_def]; omega) hA (by rw [iv_size]; simp; omega) (by simp [Value.oneCell'])
  refine ⟨W.setRow w.heap.size (((iv xs).toList.take 0 ++ ps.map (Value.int .i64) ++ (iv xs).toList.drop (0 + (ps.map (Value.int .i64)).length)).toArray), fun ty => (hr ty).trans ?_, ?_, ?_, ?_⟩
  · simp [goInt]
  · have := setRow_heap W w.heap.size (iv xs) (((iv xs).toList.take 0 ++ ps.map (Value.int .i64) ++ (iv xs).toList.drop (0 + (ps.map (Value.int .i64)).length)).toArray) 102 _ q0
    unfold Nums HasBlk
    rw [this]
    simp [iv, List.map_drop]
  · exact (setRow_other W w.heap.size (w.heap.size + 1) _ (by omega)).trans q1
  · exact hb2.grown (row := some w.heap.size) ⟨rfl, rfl, rfl, by simp, fun k _ hk => setRow_other _ _ _ _ (fun e => hk (by rw [e]))⟩ hb2.size (fun j e => by cases e; exact Nat.le_refl _)

end Go.Proofs.YtgpgocijacgkhaaDoor
