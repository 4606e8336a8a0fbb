/- It is proved what keeping returns; conditions: those of each statement. -/
import Derived.RowKit
import Derived.Laws.CopyRow
import Derived.Lib.SlBuf
import Derived.Deep.QuietTactic
import Derived.RangeFuncNested
import Derived.RangeFuncBound
import Derived.RangeFuncCalls
import Derived.RangeFuncLeaves
import Derived.RangeFuncBox
import Derived.RangeFuncWrites
import Derived.StillTailTactics
import Derived.Maps.OwnIn
import Derived.Maps.Ext
import Derived.DeepKeys4
import Derived.MapKept
import Derived.Test.YtijpgbkjgjpmmaaDoorRows
import Derived.WalkKit
import Derived.WalkSpells
import Derived.ProofKit
import Derived.OpenShut
import Derived.ShutString
import Derived.ChangeOld
import Derived.Below
import Derived.Deep.RegionHeld3
import Derived.BigQuiet
import Derived.Lib.Hide
import Derived.Lib.SmallJoins
import Derived.Outline
import Derived.Laws.MakeOwn
import Derived.Laws.OwnMore
import Derived.IntWalk
import Derived.Lib.AppendZeros
import Derived.Maps.AppendAt
import Derived.Deep.AppendLies
import Derived.OwnWalk
import Derived.Lib.SlicesCompact
import Derived.Lib.OwnBridge
import Derived.OrdersIn
import Derived.TacticsIn
import Derived.Shelf.Sort.Plain
import Derived.Shelf.Slices.In.SortNone
import Derived.Shelf.Slices.CompactI
import Derived.Ground.Names2Prog
import Derived.Shelf.Abstract
import Derived.Shelf.RegionOpen
import Derived.OwnWalkIn
import Derived.TacticsInMore
import Derived.LoopNIn
import Derived.LoopIn
import Derived.StillTail
import Derived.StillTactics
import Derived.Shelf.Spec.TrailingZeros
import Derived.Test.YtijpgbkjgjpmmaaDoorMrab
import Derived.Test.YtijpgbkjgjpmmaaDoorMrad
import Derived.Test.YtijpgbkjgjpmmaaDoorMraf
import Derived.Test.YtijpgbkjgjpmmaaDoorMrae
import Derived.Test.YtijpgbkjgjpmmaaDoorMrag
import Derived.Test.YtijpgbkjgjpmmaaDoorMrah
import Derived.Test.YtijpgbkjgjpmmaaDoorMraj
import Derived.Test.YtijpgbkjgjpmmaaDoorMraa
import Derived.Test.YtijpgbkjgjpmmaaDoorMrac
namespace Go.Proofs.YtijpgbkjgjpmmaaDoor
open Go.RowKit Go.Shelf Go.Maps

theorem lookup_eq {W : World} {b n : Nat} {D : DataW Unit} {zs : List Int} {L : List (List Nat)} (hown : OwnT W b n D) (hT : TabD zs D L) {c : List Int} (hc : WfK c) :
    (Instr.lookup 48 (.map (some b)) (.agg (iv c)) false).run Tryd.prog W = .ok (.agg (iv (nmL zs L c))) W := by
  obtain ⟨v, ps, hrun, hv⟩ := hown.lookup keyLaw Tryd.underlying48 (zeroNm W) (rowR_mk zero13) (keyLit_key hc)
  rw [hT.at_ c hc] at hv
  obtain rfl := rowR_inv hv
  exact hrun

theorem store13 {W : World} {R t : Nat} {L : List Int} (x0 x1 x2 x3 x4 x5 x6 x7 x8 x9 x10 x11 x12 : Int) (h : HasBlk W R z13 t) : ∃ W', (((((((((((((W.setCell ⟨R, 0, none⟩ (.int .i64 x0)).setCell ⟨R, 1, none⟩ (.int .i64 x1)).setCell ⟨R, 2, none⟩ (.int .i64 x2)).setCell ⟨R, 3, none⟩ (.int .i64 x3)).setCell ⟨R, 4, none⟩ (.int .i64 x4)).setCell ⟨R, 5, none⟩ (.int .i64 x5)).setCell ⟨R, 6, none⟩ (.int .i64 x6)).setCell ⟨R, 7, none⟩ (.int .i64 x7)).setCell ⟨R, 8, none⟩ (.int .i64 x8)).setCell ⟨R, 9, none⟩ (.int .i64 x9)).setCell ⟨R, 10, none⟩ (.int .i64 x10)).setCell ⟨R, 11, none⟩ (.int .i64 x11)).setCell ⟨R, 12, none⟩ (.int .i64 x12)) = W' ∧ Nums W' R t [x0, x1, x2, x3, x4, x5, x6, x7, x8, x9, x10, x11, x12] ∧ ∀ (B : Nat), B ≤ R → Below B W W' := by
  refine ⟨_, rfl, ?_, fun B hB => ?_⟩
  · have h' : Nums W R t (List.replicate 13 0) := h
    exact ((((((((((((h'.set 0 x0).set 1 x1).set 2 x2).set 3 x3).set 4 x4).set 5 x5).set 6 x6).set 7 x7).set 8 x8).set 9 x9).set 10 x10).set 11 x11).set 12 x12
  · have st : ∀ (W1 : World) (i : Nat) (v : Value), Below B W W1 → Below B W (W1.setCell ⟨R, i, none⟩ v) := fun W1 i v h => h.setCell (p := ⟨R, i, none⟩) hB v
    exact st _ _ _ (st _ _ _ (st _ _ _ (st _ _ _ (st _ _ _ (st _ _ _ (st _ _ _ (st _ _ _ (st _ _ _ (st _ _ _ (st _ _ _ (st _ _ _ (st _ _ _ (Below.refl _ _)))))))))))))

set_option maxRecDepth 100000 in
set_option maxHeartbeats 8000000 in
theorem keeping_any (m : Nat) (hm0 : 1 ≤ m) (hm : m ≤ 6) (a : Option Addr) (c : Nat) (zs : List Int) (w : World) (ha : Ints w w.heap.size a zs) (hT : Tab w) (hf : famIn (m : Int) zs = true) (b n0 : Nat) (D0 : DataW Unit) (hb1 : 1 < b) (hown : OwnT w b n0 D0) :
    Calls Tryd.prog 33 #[.map (some b), .agg #[.int .i64 (m : Int), .slice a zs.length c]] w fun e w' => e = .returned (.agg (iv (nmL zs (permsL m (List.range m)) (keyL zs (nI (List.range m)))))) ∧ But (fun k => k = b) w w' := by
  have hbw : b < w.heap.size := hown.lt
  obtain ⟨hm1, hm6, hl8, hz4⟩ := famIn_out hf
  obtain ⟨es0, clk0, hblk⟩ := hown.blk
  have hown2 : OwnT ((w.alloc (.cells #[.int .i64 (m : Int), .slice a zs.length c] 25)).alloc (.cells z13 66)) b n0 D0 := (hown.alloc _).alloc _
  have hb2 := below2 w (.cells #[.int .i64 (m : Int), .slice a zs.length c] 25) (.cells z13 66)
  have q0 := alloc2_0 w (.cells #[.int .i64 (m : Int), .slice a zs.length c] 25) (.cells z13 66)
  have q1 := alloc2_1 w (.cells #[.int .i64 (m : Int), .slice a zs.length c] 25) (.cells z13 66)
  have hsz2 : ((w.alloc (.cells #[.int .i64 (m : Int), .slice a zs.length c] 25)).alloc (.cells z13 66)).heap.size = w.heap.size + 1 + 1 := by simp
  obtain ⟨W2, hW2⟩ : ∃ W2, (w.alloc (.cells #[.int .i64 (m : Int), .slice a zs.length c] 25)).alloc (.cells z13 66) = W2 := ⟨_, rfl⟩
  rw [hW2] at hown2 hb2 q0 q1 hsz2
  have hASK := ask_any m hm0 hm a c zs W2 ((ha.below hb2).mono hb2.size) (hT.below hb2 hT.lt) hf b n0 D0 hb1 hown2
  have hz8 : zs.length ≤ 8 := by omega
  have hr6 : (List.range m).length = m := List.length_range
  have hrv : ∀ v ∈ List.range m, v < m := fun v hv => by simpa using hv
  have hokp : Okp m (nI (List.range m)) := okp_nI hm hr6 hrv
  have hz : ∀ z ∈ zs, z.toNat < 2 ^ m := fun z hz => by
    have h1 := hz4 z hz
    have h3 : fullI (m : Int) = ((2 ^ m - 1 : Nat) : Int) := full_nat m
    have h4 : 1 ≤ 2 ^ m := Nat.one_le_two_pow
    omega
  have hwk : WfK (keyL zs (nI (List.range m))) := wfK_key hm hz8 hz hokp
  have hnm : NmOk (nmL zs (permsL m (List.range m)) (keyL zs (nI (List.range m)))) (permsL m (List.range m)).length := nmOk_all _ _ _ (fun p hp => by
    rw [← lvlL_perms] at hp
    exact namesOk_nI hm0 hm (lvlL_in hp) (lvlL_lt hp))
  obtain ⟨x0, x1, x2, x3, x4, x5, x6, x7, x8, x9, x10, x11, x12, hx⟩ : ∃ x0 x1 x2 x3 x4 x5 x6 x7 x8 x9 x10 x11 x12 : Int, nmL zs (permsL m (List.range m)) (keyL zs (nI (List.range m))) = [x0, x1, x2, x3, x4, x5, x6, x7, x8, x9, x10, x11, x12] := by
    have h13 := hnm.len
    generalize nmL zs (permsL m (List.range m)) (keyL zs (nI (List.range m))) = L at h13
    match L, h13 with
    | [x0, x1, x2, x3, x4, x5, x6, x7, x8, x9, x10, x11, x12], _ => exact ⟨_, _, _, _, _, _, _, _, _, _, _, _, _, rfl⟩
  obtain ⟨n, hn⟩ : ∃ n, n = zs.length := ⟨_, rfl⟩
  have HN := Lib.hid hn
  have HA := Lib.hid ha
  have HT := Lib.hid hT
  have HF := Lib.hid hf
  have HOKP := Lib.hid hokp
  have HWK := Lib.hid hwk
  have HX := Lib.hid hx
  have HB2 := Lib.hid hb2
  have HQ0 : Hid (HasBlk W2 w.heap.size #[.int .i64 (m : Int), .slice a zs.length c] 25) := Lib.hid q0
  have HQ1 : Hid (HasBlk W2 (w.heap.size + 1) z13 66) := Lib.hid q1
  have HS2 := Lib.hid hsz2
  have HBLK := Lib.hid hblk
  have y0 := (blk_cell q0 0).trans (cell2_0 _ _)
  have y1 := (blk_cell q0 1).trans (cell2_1 _ _)
  unfold z13 at hW2
  have hT1w := hT.lt
  rw [← hn] at hW2 hASK y1 ⊢
  clear ha hT hf hokp hwk hx hnm hb2 q0 q1 hsz2 hown hown2 hblk hz hn hz4
  go_enter Tryd.func33, Tryd.ntmps33
  go_wp2_with (go_at_call 39; refine hASK.mono ?_; rintro e w1 ⟨rfl, ⟨n1, D1, hO1, hT1⟩, hb1'⟩)
  have hbs : w.heap.size + 1 + 1 ≤ w1.heap.size := by have := HS2.out; have := hb1'.size; omega
  have q0 : HasBlk w1 w.heap.size #[.int .i64 (m : Int), .slice a zs.length c] 25 := hb1'.keep (by omega) HQ0.out
  have q1 : HasBlk w1 (w.heap.size + 1) z13 66 := hb1'.keep (by omega) HQ1.out
  have hbw1 : But (fun k => k = b) w w1 := (But.of_below HB2.out).trans hb1'
  have hTw1 : Tab w1 := tab_but HT.out hbw1 (fun k e => by omega)
  have hIw1 : Ints w1 w.heap.size a zs := ints_but HA.out (Nat.le_refl _) hbw1 ⟨es0, clk0, HBLK.out⟩
  have z0 := (blk_cell q0 0).trans (cell2_0 _ _)
  have z1 := (blk_cell q0 1).trans (cell2_1 _ _)
  rw [← HN.out] at z1
  have HO1 := Lib.hid hO1
  have HT1 := Lib.hid hT1
  have HBW1 := Lib.hid hbw1
  have HTW1 := Lib.hid hTw1
  have HIW1 := Lib.hid hIw1
  have HQ0 := Lib.hid q0
  have HQ1 := Lib.hid q1
  clear y0 y1 hW2 hASK hO1 hT1 hb1' q0 q1 hbw1 hTw1 hIw1
  go_region_with (first
    | (go_at_call 57; refine (ownNames_any m hm0 hm _ _ _ w1.drew HTW1.out).mono ?_; rintro e w2 ⟨pa, pc, rfl, ho, hb⟩
       have hb' : Below w1.heap.size w1 w2 := ⟨hb.os, hb.tape, hb.output, hb.size, hb.block⟩
       have q0 : HasBlk w2 w.heap.size #[.int .i64 (m : Int), .slice a zs.length c] 25 := (hb'.block _ (by omega)).trans HQ0.out
       have z0' := (blk_cell q0 0).trans (cell2_0 _ _)
       have z1' := (blk_cell q0 1).trans (cell2_1 _ _)
       rw [← HN.out] at z1'
       have hli : (nI (List.range m)).length = m := by rw [nI_len, List.length_range]
       have hLB := listBy_any m a c zs pa pc (nI (List.range m)) HOKP.out w2 ((HIW1.out.below (hb'.mono (by omega))).mono (by have := hb'.size; omega)) (own_ints (show OwnI w2 w1.heap.size (.slice pa (nI (List.range m)).length pc) (nI (List.range m)) from by rw [hli]; unfold OwnI; rw [hli]; exact ho)) (HTW1.out.below hb' (by omega)) HF.out
       rw [hli, ← HN.out] at hLB
       have HB' := Lib.hid hb'
       clear ho hb hb' q0 hli)
    | (go_at_call 56; refine hLB.mono ?_; rintro e w3 ⟨rfl, hb3⟩
       have HO3 : Hid (OwnT w3 b n1 D1) := Lib.hid ((HO1.out.but (But.of_below (X := fun _ => False) HB'.out) (fun h => h)).but (But.of_below (X := fun _ => False) hb3) (fun h => h))
       have HZ3 : Hid (HasBlk w3 (w.heap.size + 1) z13 66) := Lib.hid ((hb3.block _ (by have := HB'.out.size; omega)).trans ((HB'.out.block _ (by omega)).trans HQ1.out))
       have hrun := lookup_eq HO3.out HT1.out HWK.out
       rw [HX.out] at hrun
       simp only [show iv [x0, x1, x2, x3, x4, x5, x6, x7, x8, x9, x10, x11, x12] = #[.int .i64 x0, .int .i64 x1, .int .i64 x2, .int .i64 x3, .int .i64 x4, .int .i64 x5, .int .i64 x6, .int .i64 x7, .int .i64 x8, .int .i64 x9, .int .i64 x10, .int .i64 x11, .int .i64 x12] from rfl] at hrun
       have HB3 := Lib.hid hb3
       have e0 : w3.cell? ⟨w.heap.size + 1, 0, none⟩ = some (.int .i64 0) := blk_cell HZ3.out 0
       have g0 : w3.frozen? ⟨w.heap.size + 1, 0, none⟩ = false := blk_frozen HZ3.out 0
       have e1 : w3.cell? ⟨w.heap.size + 1, 1, none⟩ = some (.int .i64 0) := blk_cell HZ3.out 1
       have g1 : w3.frozen? ⟨w.heap.size + 1, 1, none⟩ = false := blk_frozen HZ3.out 1
       have e2 : w3.cell? ⟨w.heap.size + 1, 2, none⟩ = some (.int .i64 0) := blk_cell HZ3.out 2
       have g2 : w3.frozen? ⟨w.heap.size + 1, 2, none⟩ = false := blk_frozen HZ3.out 2
       have e3 : w3.cell? ⟨w.heap.size + 1, 3, none⟩ = some (.int .i64 0) := blk_cell HZ3.out 3
       have g3 : w3.frozen? ⟨w.heap.size + 1, 3, none⟩ = false := blk_frozen HZ3.out 3
       have e4 : w3.cell? ⟨w.heap.size + 1, 4, none⟩ = some (.int .i64 0) := blk_cell HZ3.out 4
       have g4 : w3.frozen? ⟨w.heap.size + 1, 4, none⟩ = false := blk_frozen HZ3.out 4
       have e5 : w3.cell? ⟨w.heap.size + 1, 5, none⟩ = some (.int .i64 0) := blk_cell HZ3.out 5
       have g5 : w3.frozen? ⟨w.heap.size + 1, 5, none⟩ = false := blk_frozen HZ3.out 5
       have e6 : w3.cell? ⟨w.heap.size + 1, 6, none⟩ = some (.int .i64 0) := blk_cell HZ3.out 6
       have g6 : w3.frozen? ⟨w.heap.size + 1, 6, none⟩ = false := blk_frozen HZ3.out 6
       have e7 : w3.cell? ⟨w.heap.size + 1, 7, none⟩ = some (.int .i64 0) := blk_cell HZ3.out 7
       have g7 : w3.frozen? ⟨w.heap.size + 1, 7, none⟩ = false := blk_frozen HZ3.out 7
       have e8 : w3.cell? ⟨w.heap.size + 1, 8, none⟩ = some (.int .i64 0) := blk_cell HZ3.out 8
       have g8 : w3.frozen? ⟨w.heap.size + 1, 8, none⟩ = false := blk_frozen HZ3.out 8
       have e9 : w3.cell? ⟨w.heap.size + 1, 9, none⟩ = some (.int .i64 0) := blk_cell HZ3.out 9
       have g9 : w3.frozen? ⟨w.heap.size + 1, 9, none⟩ = false := blk_frozen HZ3.out 9
       have e10 : w3.cell? ⟨w.heap.size + 1, 10, none⟩ = some (.int .i64 0) := blk_cell HZ3.out 10
       have g10 : w3.frozen? ⟨w.heap.size + 1, 10, none⟩ = false := blk_frozen HZ3.out 10
       have e11 : w3.cell? ⟨w.heap.size + 1, 11, none⟩ = some (.int .i64 0) := blk_cell HZ3.out 11
       have g11 : w3.frozen? ⟨w.heap.size + 1, 11, none⟩ = false := blk_frozen HZ3.out 11
       have e12 : w3.cell? ⟨w.heap.size + 1, 12, none⟩ = some (.int .i64 0) := blk_cell HZ3.out 12
       have g12 : w3.frozen? ⟨w.heap.size + 1, 12, none⟩ = false := blk_frozen HZ3.out 12
       clear hb3 hLB))
  all_goals
    obtain ⟨Wf, hWf, hF, hBf⟩ := store13 (L := []) x0 x1 x2 x3 x4 x5 x6 x7 x8 x9 x10 x11 x12 HZ3.out
    go_wp2
    rw [hWf]
    have r0 : Wf.cell? ⟨w.heap.size + 1, 0, none⟩ = some (.int .i64 x0) := by have := hF.cell 0 (by simp); simpa using this
    have r1 : Wf.cell? ⟨w.heap.size + 1, 1, none⟩ = some (.int .i64 x1) := by have := hF.cell 1 (by simp); simpa using this
    have r2 : Wf.cell? ⟨w.heap.size + 1, 2, none⟩ = some (.int .i64 x2) := by have := hF.cell 2 (by simp); simpa using this
    have r3 : Wf.cell? ⟨w.heap.size + 1, 3, none⟩ = some (.int .i64 x3) := by have := hF.cell 3 (by simp); simpa using this
    have r4 : Wf.cell? ⟨w.heap.size + 1, 4, none⟩ = some (.int .i64 x4) := by have := hF.cell 4 (by simp); simpa using this
    have r5 : Wf.cell? ⟨w.heap.size + 1, 5, none⟩ = some (.int .i64 x5) := by have := hF.cell 5 (by simp); simpa using this
    have r6 : Wf.cell? ⟨w.heap.size + 1, 6, none⟩ = some (.int .i64 x6) := by have := hF.cell 6 (by simp); simpa using this
    have r7 : Wf.cell? ⟨w.heap.size + 1, 7, none⟩ = some (.int .i64 x7) := by have := hF.cell 7 (by simp); simpa using this
    have r8 : Wf.cell? ⟨w.heap.size + 1, 8, none⟩ = some (.int .i64 x8) := by have := hF.cell 8 (by simp); simpa using this
    have r9 : Wf.cell? ⟨w.heap.size + 1, 9, none⟩ = some (.int .i64 x9) := by have := hF.cell 9 (by simp); simpa using this
    have r10 : Wf.cell? ⟨w.heap.size + 1, 10, none⟩ = some (.int .i64 x10) := by have := hF.cell 10 (by simp); simpa using this
    have r11 : Wf.cell? ⟨w.heap.size + 1, 11, none⟩ = some (.int .i64 x11) := by have := hF.cell 11 (by simp); simpa using this
    have r12 : Wf.cell? ⟨w.heap.size + 1, 12, none⟩ = some (.int .i64 x12) := by have := hF.cell 12 (by simp); simpa using this
    have h13 : But (fun k => k = b) w w3 := (HBW1.out.trans (But.of_below HB'.out)).trans (But.of_below HB3.out)
    have h4 := hBf (w.heap.size + 1) (Nat.le_refl _)
    refine bodyPost_ret (v := .agg #[.int .i64 x0, .int .i64 x1, .int .i64 x2, .int .i64 x3, .int .i64 x4, .int .i64 x5, .int .i64 x6, .int .i64 x7, .int .i64 x8, .int .i64 x9, .int .i64 x10, .int .i64 x11, .int .i64 x12]) (by simp [results, Tryd.results33, go_sem, r0, r1, r2, r3, r4, r5, r6, r7, r8, r9, r10, r11, r12]) rfl ⟨by rw [HX.out]; rfl, ?_⟩
    exact ⟨h4.os.trans h13.os, h4.tape.trans h13.tape, h4.output.trans h13.output, Nat.le_trans h13.size h4.size, fun i hi hX => (h4.block i (by omega)).trans (h13.same i hi hX)⟩

end Go.Proofs.YtijpgbkjgjpmmaaDoor

/- It is proved what FamilyAll of the program and of the model return; conditions: those of each statement. -/
namespace Go.Proofs.YtijpgbkjgjpmmaaDoor
open Go.RowKit Go.Shelf

attribute [local go_sem] Oper.semAt_some

/-- What a function of an int and a bool returns; nothing that lay has turned. -/
def RetIB (w : World) (r : Int) (ok : Bool) (e : Ending) (w' : World) : Prop := e = .returned (.tuple #[.int .i64 r, .bool ok]) ∧ Below w.heap.size w w'

end Go.Proofs.YtijpgbkjgjpmmaaDoor

/- It is proved what AlikeSame of the program returns; conditions: those of each statement. -/
namespace Go.Proofs.YtijpgbkjgjpmmaaDoor
open Go.RowKit Go.Shelf Go.Maps

/-- All names that make a family's clubs its own. -/
def ownL (k : Nat) (zs : List Int) : List (List Nat) := (permsL k (List.range k)).filter fun p => keyL zs (nI p) == keyL zs (nI (List.range k))

def sameZ (m : Int) (zs : List Int) : Int := if famIn m zs then ((ownL m.toNat zs).length : Int) else 0
theorem nm_count : ∀ (L : List (List Nat)) (x : List Int), x.length = 13 → (∀ p ∈ L, NamesOk (nI p)) → (L.foldl (fun x p => andL x (nI p)) x)[6]?.getD 0 = x[6]?.getD 0 + (L.length : Int)
  | [], x, _, _ => by simp
  | p :: L, x, hx, hp => by
    have h6 := (hp p (by simp)).1
    rw [List.foldl_cons, nm_count L _ (by rw [andL, andC_len, andM_len (by omega), hx]) (fun q hq => hp q (by simp [hq])), andL_six hx h6, List.length_cons]
    omega

theorem same_six (k : Nat) (hk0 : 1 ≤ k) (hk : k ≤ 6) (zs : List Int) : (nmL zs (permsL k (List.range k)) (keyL zs (nI (List.range k))))[6]?.getD 0 = ((ownL k zs).length : Int) := by
  unfold nmL ownL
  rw [nm_count _ zero13 rfl (fun p hp => by
    have hp := (List.mem_filter.1 hp).1
    rw [← lvlL_perms] at hp
    exact namesOk_nI hk0 hk (lvlL_in hp) (lvlL_lt hp))]
  simp [zero13]

theorem field_six (x0 x1 x2 x3 x4 x5 x6 x7 x8 x9 x10 x11 x12 : Int) (w : World) : (Instr.field 66 (.agg #[.int .i64 x0, .int .i64 x1, .int .i64 x2, .int .i64 x3, .int .i64 x4, .int .i64 x5, .int .i64 x6, .int .i64 x7, .int .i64 x8, .int .i64 x9, .int .i64 x10, .int .i64 x11, .int .i64 x12]) 1).run Tryd.prog w = .ok (.int .i64 x6) w := by kernel_rfl
set_option maxRecDepth 100000 in
set_option maxHeartbeats 4000000 in
theorem implSame_any (m : Int) (a : Option Addr) (c : Nat) (zs : List Int) (w : World) (ha : Ints w w.heap.size a zs) (hT : Tab w) (hx : zs.length ≤ 1048576) :
    Calls Tryd.prog 14 #[.agg #[.int .i64 m, .slice a zs.length c]] w (RetIB w (sameZ m zs) (famIn m zs)) := by
  have HA := Lib.hid ((ha.below (below1 w (.cells #[.int .i64 m, .slice a zs.length c] 25))).mono (B' := (w.alloc (.cells #[.int .i64 m, .slice a zs.length c] 25)).heap.size) (by simp))
  cases hf : famIn m zs
  · have HF := Lib.hid hf
    have HR : Hid (sameZ m zs = 0) := Lib.hid (by simp [sameZ, hf])
    clear hf ha
    go_enter Tryd.func14, Tryd.ntmps14
    go_wp2_with (go_at_call 23; refine (implFamilyIn_any _ _ _ zs _ HA.out hx).mono ?_; rintro e w1 ⟨rfl, hb⟩; rw [HF.out]; have HB := Lib.hid hb; clear hb)
    go_ret2
    exact ⟨by rw [HR.out]; rfl, (below1 _ _).trans (HB.out.mono (by simp))⟩
  · have HF := Lib.hid hf
    obtain ⟨hm1, hm6, hl8, -⟩ := famIn_out hf
    obtain ⟨k, rfl⟩ : ∃ k : Nat, m = (k : Int) := ⟨m.toNat, by omega⟩
    have hk0 : 1 ≤ k := by omega
    have hk6 : k ≤ 6 := by omega
    have HR : Hid (sameZ (k : Int) zs = (nmL zs (permsL k (List.range k)) (keyL zs (nI (List.range k))))[6]?.getD 0) := Lib.hid (by rw [same_six k hk0 hk6 zs]; simp [sameZ, hf])
    have hnm : NmOk (nmL zs (permsL k (List.range k)) (keyL zs (nI (List.range k)))) (permsL k (List.range k)).length := nmOk_all _ _ _ (fun p hp => by
      rw [← lvlL_perms] at hp
      exact namesOk_nI hk0 hk6 (lvlL_in hp) (lvlL_lt hp))
    obtain ⟨x0, x1, x2, x3, x4, x5, x6, x7, x8, x9, x10, x11, x12, hxx⟩ : ∃ x0 x1 x2 x3 x4 x5 x6 x7 x8 x9 x10 x11 x12 : Int, nmL zs (permsL k (List.range k)) (keyL zs (nI (List.range k))) = [x0, x1, x2, x3, x4, x5, x6, x7, x8, x9, x10, x11, x12] := by
      have h13 := hnm.len
      generalize nmL zs (permsL k (List.range k)) (keyL zs (nI (List.range k))) = L at h13
      match L, h13 with
      | [x0, x1, x2, x3, x4, x5, x6, x7, x8, x9, x10, x11, x12], _ => exact ⟨_, _, _, _, _, _, _, _, _, _, _, _, _, rfl⟩
    have HX := Lib.hid hxx
    have HT := Lib.hid hT
    have HI := Lib.hid ha
    have hmm := @run_makeMap Tryd.prog
    have hfs := field_six
    have hT1 := hT.lt
    clear hf ha hnm hxx hT
    go_enter Tryd.func14, Tryd.ntmps14
    go_wp2_with fail
    refine (implFamilyIn_any _ _ _ zs _ HA.out hx).mono ?_
    rintro e w1 ⟨rfl, hb⟩
    rw [HF.out]
    have q0 : HasBlk w1 w.heap.size #[.int .i64 (k : Int), .slice a zs.length c] 25 := (hb.block _ (by simp)).trans (alloc_new w _)
    have hs1 : w.heap.size + 1 ≤ w1.heap.size := by have := hb.size; simpa using this
    have hbw : Below w.heap.size w w1 := (below1 w _).trans (hb.mono (by simp))
    have hb2 : Below w.heap.size w (w1.alloc (.map #[] 0)) := hbw.alloc (by omega) _
    have q2 : HasBlk (w1.alloc (.map #[] 0)) w.heap.size #[.int .i64 (k : Int), .slice a zs.length c] 25 := HasBlk.alloc q0 _
    have x0' := (blk_cell q2 0).trans (cell2_0 _ _)
    have x1' := (blk_cell q2 1).trans (cell2_1 _ _)
    have hown : OwnT (w1.alloc (.map #[] 0)) w1.heap.size 0 (.map []) := World.ownsMap_made w1 _ _ _
    have hK := keeping_any k hk0 hk6 a c zs (w1.alloc (.map #[] 0)) ((HI.out.below hb2).mono (by simp; omega)) (HT.out.below hb2 hT1) HF.out w1.heap.size 0 (.map []) (by omega) hown
    have HB2 := Lib.hid hb2
    clear hb q0 hbw hb2 q2 hown
    go_wp2_with (go_at_call 33; refine hK.mono ?_; rintro e w3 ⟨rfl, hb3⟩; rw [HX.out]; rw [show iv [x0, x1, x2, x3, x4, x5, x6, x7, x8, x9, x10, x11, x12] = #[.int .i64 x0, .int .i64 x1, .int .i64 x2, .int .i64 x3, .int .i64 x4, .int .i64 x5, .int .i64 x6, .int .i64 x7, .int .i64 x8, .int .i64 x9, .int .i64 x10, .int .i64 x11, .int .i64 x12] from rfl]; have HB3 := Lib.hid hb3; clear hb3)
    go_ret2
    refine ⟨by rw [HR.out, HX.out]; rfl, ?_⟩
    exact HB2.out.trans (HB3.out.below (by simp; omega) (fun i e => by omega))

end Go.Proofs.YtijpgbkjgjpmmaaDoor

/- It is proved what the FamilyDrop of the model returns; conditions: those of each statement. -/
namespace Go.Proofs.YtijpgbkjgjpmmaaDoor
open Go.RowKit

theorem app_run_n {w : World} {B n k : Nat} {v : Value} {xs : List Value} (h : w.ownsRow B 3 1 v n xs) (hB : B ≤ w.heap.size) (a : Option Addr) (c : Nat) (zs : List Int) (hk : zs.length = k) (hz : Ints w w.heap.size a zs) (hn : n ≤ 1048576) (hzn : k ≤ 1048576) :
    ∃ a' c' w', (Builtin.append_ #[23, 23] 23 #[v, .slice a k c]).run Tryd.prog w = .ok (.slice a' (n + k) c') w' ∧
      w'.ownsRow B 3 1 (.slice a' (n + k) c') (n + k) (xs ++ zs.map (Value.int .i64)) ∧ w.grownBy w' v.ownBlock := by
  subst hk
  exact app_run h hB a c zs hz hn hzn

/-- An append whose run is known, as a step of a region that draws. -/
theorem step_run {P : Program} {w : World} {ops : Array Oper} {o : Oper} {a : Act} {K : Act → World → Prop} {Q : Exit → Act → World → Prop} {E : Prop} (hgd : o.guard = none) (s x : Operand) (t tn : TypeId)
    (ho : o.op = .call { callee := .builtin .append, args := #[s, x], argTypes := #[t, tn] }) (vs vx : Value) (hs : a.eval s = vs) (hx : a.eval x = vx)
    (v' : Value) (w' : World) (hr : (Builtin.append_ #[t, tn] o.type #[vs, vx]).run P w = .ok v' w') (h : K (a.put o.dst v') w') :
    if Region.wanted o (yielded ops a.tmps) = true then Oper.wp P o a w K Q else E := by
  rw [if_pos (by simp [Region.wanted, hgd])]
  exact Lib.wp_append_run w s x t tn ho vs vx hs hx v' w' hr h

theorem step_run2 {P : Program} {w : World} {ops : Array Oper} {o : Oper} {a : Act} {K : Act → World → Prop} {Q : Exit → Act → World → Prop} {E : Prop} (hgd : o.guard = none) (s x : Operand) (t tn : TypeId)
    (ho : o.op = .call { callee := .builtin .append, args := #[s, x], argTypes := #[t, tn] }) (vs vx : Value) (hs : a.eval s = vs) (hx : a.eval x = vx)
    (h : ∃ v' w', (Builtin.append_ #[t, tn] o.type #[vs, vx]).run P w = .ok v' w' ∧ K (a.put o.dst v') w') :
    if Region.wanted o (yielded ops a.tmps) = true then Oper.wp P o a w K Q else E := by
  obtain ⟨v', w', hr, hk⟩ := h
  exact step_run hgd s x t tn ho vs vx hs hx v' w' hr hk

end Go.Proofs.YtijpgbkjgjpmmaaDoor

/- It is proved what the FamilyPut of the model returns; conditions: those of each statement. -/
namespace Go.Proofs.YtijpgbkjgjpmmaaDoor
open Go.RowKit

theorem step_run3 {P : Program} {w : World} {ops : Array Oper} {o : Oper} {a : Act} {K : Act → World → Prop} {Q : Exit → Act → World → Prop} {E : Prop} (s x : Operand) (t tn : TypeId) (vs vx : Value) (hgd : o.guard = none)
    (ho : o.op = .call { callee := .builtin .append, args := #[s, x], argTypes := #[t, tn] }) (hs : a.eval s = vs) (hx : a.eval x = vx)
    (h : ∃ v' w', (Builtin.append_ #[t, tn] o.type #[vs, vx]).run P w = .ok v' w' ∧ K (a.put o.dst v') w') :
    if Region.wanted o (yielded ops a.tmps) = true then Oper.wp P o a w K Q else E := step_run2 hgd s x t tn ho vs vx hs hx h

theorem app_run0 {w : World} {B : Nat} {v : Value} (h : OwnI w B v []) (hB : B ≤ w.heap.size) (a : Option Addr) (c : Nat) (zs : List Int) (hz : Ints w w.heap.size a zs) (_hn : 0 ≤ 1048576) (hzn : zs.length ≤ 1048576) :
    ∃ a' c' w', (Builtin.append_ #[23, 23] 23 #[v, .slice a zs.length c]).run Tryd.prog w = .ok (.slice a' zs.length c') w' ∧
      w'.ownsRow B 3 1 (.slice a' zs.length c') zs.length (zs.map (Value.int .i64)) ∧ w.grownBy w' v.ownBlock := by
  have := app_run (n := 0) (xs := []) h hB a c zs hz (by omega) hzn
  simpa using this

theorem one_blk {w : World} {x : Int} {b : Nat} (h : w.heap[b]? = some (.cells #[.int .i64 x] 3 (0, 0))) : Ints w w.heap.size (some ⟨b, 0, none⟩) [x] := by
  refine .inr ⟨b, 0, rfl, lt_of_some h, fun j hj => ?_⟩
  obtain rfl : j = 0 := by simpa using hj
  exact blk_cell h 0

theorem one_ints0 (w : World) (x : Int) : Ints (w.alloc (.cells #[.int .i64 x] 3)) (w.alloc (.cells #[.int .i64 x] 3)).heap.size (some ⟨w.heap.size, 0, none⟩) [x] := one_blk (alloc_new w _)
end Go.Proofs.YtijpgbkjgjpmmaaDoor

/- It is proved what l1Put returns; conditions: the bounds in each statement. -/
namespace Go.Proofs.YtijpgbkjgjpmmaaDoor
open Go.RowKit

theorem app_run0n {w : World} {B k : Nat} {v : Value} (h : OwnI w B v []) (hB : B ≤ w.heap.size) (a : Option Addr) (c : Nat) (zs : List Int) (hk : zs.length = k) (hz : Ints w w.heap.size a zs) (hzn : k ≤ 1048576) :
    ∃ a' c' w', (Builtin.append_ #[23, 23] 23 #[v, .slice a k c]).run Tryd.prog w = .ok (.slice a' k c') w' ∧
      w'.ownsRow B 3 1 (.slice a' k c') k (zs.map (Value.int .i64)) ∧ w.grownBy w' v.ownBlock := by
  subst hk
  exact app_run0 h hB a c zs hz (by omega) hzn

theorem app_run_t {w : World} {B n k t : Nat} {v : Value} {xs : List Value} (h : w.ownsRow B 3 1 v n xs) (hB : B ≤ w.heap.size) (a : Option Addr) (c : Nat) (zs : List Int) (hk : zs.length = k) (hz : Ints w w.heap.size a zs) (ht : n + k = t) (hn : n ≤ 1048576) (hzn : k ≤ 1048576) :
    ∃ a' c' w', (Builtin.append_ #[23, 23] 23 #[v, .slice a k c]).run Tryd.prog w = .ok (.slice a' t c') w' ∧
      w'.ownsRow B 3 1 (.slice a' t c') t (xs ++ zs.map (Value.int .i64)) ∧ w.grownBy w' v.ownBlock := by
  subst ht
  exact app_run_n h hB a c zs hk hz hn hzn

end Go.Proofs.YtijpgbkjgjpmmaaDoor
