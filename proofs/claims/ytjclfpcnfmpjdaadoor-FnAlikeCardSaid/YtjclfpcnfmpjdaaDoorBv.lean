/- It is proved what leastOf returns; conditions: those of each statement. -/
import Derived.RowKit
import Derived.Laws.CopyRow
import Derived.Lib.SlBuf
import Derived.Deep.QuietTactic
import Derived.RangeFuncNested
import Derived.RangeFuncBound
import Derived.RangeFuncCalls
import Derived.RangeFuncLeaves
import Derived.RangeFuncBox
import Derived.RangeFuncWrites
import Derived.StillTailTactics
import Derived.Maps.OwnIn
import Derived.Maps.Ext
import Derived.DeepKeys4
import Derived.MapKept
import Derived.Test.YtjclfpcnfmpjdaaDoorRows
import Derived.WalkKit
import Derived.WalkSpells
import Derived.ProofKit
import Derived.OpenShut
import Derived.ShutString
import Derived.ChangeOld
import Derived.Below
import Derived.Deep.RegionHeld3
import Derived.BigQuiet
import Derived.Lib.Hide
import Derived.Lib.SmallJoins
import Derived.Outline
import Derived.Laws.MakeOwn
import Derived.Laws.OwnMore
import Derived.IntWalk
import Derived.Maps.AppendAt
import Derived.Sort.MapsRangeIn
import Derived.Lib.AppendZeros
import Derived.Deep.AppendLies
import Derived.OwnWalk
import Derived.Lib.SlicesCompact
import Derived.Lib.OwnBridge
import Derived.OrdersIn
import Derived.TacticsIn
import Derived.Shelf.Sort.Plain
import Derived.Shelf.Slices.In.SortNone
import Derived.Shelf.Slices.CompactI
import Derived.Ground.Names2Prog
import Derived.Shelf.Abstract
import Derived.Shelf.RegionOpen
import Derived.OwnWalkIn
import Derived.TacticsInMore
import Derived.LoopNIn
import Derived.LoopIn
import Derived.StillTail
import Derived.StillTactics
import Derived.Shelf.Spec.TrailingZeros
import Derived.Test.YtjclfpcnfmpjdaaDoorMsa
import Derived.Test.YtjclfpcnfmpjdaaDoorMsb
import Derived.Test.YtjclfpcnfmpjdaaDoorBq
import Derived.Test.YtjclfpcnfmpjdaaDoorBt
import Derived.Test.YtjclfpcnfmpjdaaDoorBu
namespace Go.Proofs.YtjclfpcnfmpjdaaDoor
open Go.RowKit Go.Shelf Go.Maps

/-- The first names that make the least list of a family. -/
def firstN (m : Nat) (zs : List Int) : List Nat := (bestG zs (lvlL m m) ((lvlL m m).length - 1)).2

set_option maxRecDepth 100000 in
set_option maxHeartbeats 4000000 in
theorem leastOf_any (m : Nat) (hm0 : 1 ≤ m) (hm : m ≤ 6) (a : Option Addr) (c : Nat) (zs : List Int) (w : World) (ha : Ints w w.heap.size a zs) (hT : Tab w) (hf : famIn (m : Int) zs = true) (b n0 : Nat) (D0 : DataW Unit) (hb1 : 1 < b) (hown : OwnT w b n0 D0) :
    Calls Tryd.prog 47 #[.map (some b), .agg #[.int .i64 (m : Int), .slice a zs.length c]] w fun e w' => e = .returned (.agg (iv (keyL zs (nI (firstN m zs))))) ∧
      (∃ n D, OwnT w' b n D ∧ TabD zs D (permsL m (List.range m))) ∧ But (fun k => k = b) w w' := by
  have hbw : b < w.heap.size := hown.lt
  obtain ⟨hm1, hm6, hl8, hz4⟩ := famIn_out hf
  have hown2 : OwnT ((w.alloc (.cells #[.int .i64 (m : Int), .slice a zs.length c] 25)).alloc (.cells (iv z8) 57)) b n0 D0 := (hown.alloc _).alloc _
  have hb2 := below2 w (.cells #[.int .i64 (m : Int), .slice a zs.length c] 25) (.cells (iv z8) 57)
  have q0 := alloc2_0 w (.cells #[.int .i64 (m : Int), .slice a zs.length c] 25) (.cells (iv z8) 57)
  have q1 := alloc2_1 w (.cells #[.int .i64 (m : Int), .slice a zs.length c] 25) (.cells (iv z8) 57)
  have hsz2 : ((w.alloc (.cells #[.int .i64 (m : Int), .slice a zs.length c] 25)).alloc (.cells (iv z8) 57)).heap.size = w.heap.size + 1 + 1 := by simp
  obtain ⟨W2, hW2⟩ : ∃ W2, (w.alloc (.cells #[.int .i64 (m : Int), .slice a zs.length c] 25)).alloc (.cells (iv z8) 57) = W2 := ⟨_, rfl⟩
  rw [hW2] at hown2 hb2 q0 q1 hsz2
  have hASK := ask_any m hm0 hm a c zs W2 ((ha.below hb2).mono hb2.size) (hT.below hb2 hT.lt) hf b n0 D0 hb1 hown2
  have hz8 : zs.length ≤ 8 := by omega
  have hz : ∀ z ∈ zs, z.toNat < 2 ^ m := fun z hz => by
    have h1 := hz4 z hz
    have h3 : fullI (m : Int) = ((2 ^ m - 1 : Nat) : Int) := full_nat m
    have h4 : 1 ≤ 2 ^ m := Nat.one_le_two_pow
    omega
  have HWF : Hid (∀ p ∈ permsL m (List.range m), WfK (keyL zs (nI p))) := Lib.hid (fun p hp => by
    rw [← lvlL_perms] at hp
    exact wfK_key hm hz8 hz (okp_nI hm (lvlL_in hp) (lvlL_lt hp)))
  have HLN : Hid ((permsL m (List.range m)).length ≤ 46656 ∧ 0 < (permsL m (List.range m)).length) := Lib.hid (by
    rw [← lvlL_perms]; exact ⟨lvlL_small hm (Nat.le_refl m), lvlL_pos hm⟩)
  have HFN : Hid (keyL zs (nI (firstN m zs)) = keyL zs (nI (bestG zs (permsL m (List.range m)) ((permsL m (List.range m)).length - 1)).2)) := Lib.hid (by rw [firstN, lvlL_perms])
  obtain ⟨n, hn⟩ : ∃ n, n = zs.length := ⟨_, rfl⟩
  have HB2 := Lib.hid hb2
  have HQ1 : Hid (HasBlk W2 (w.heap.size + 1) (iv z8) 57) := Lib.hid q1
  have HS2 := Lib.hid hsz2
  have y0 := (blk_cell q0 0).trans (cell2_0 _ _)
  have y1 := (blk_cell q0 1).trans (cell2_1 _ _)
  rw [show iv z8 = #[.int .i64 0, .int .i64 0, .int .i64 0, .int .i64 0, .int .i64 0, .int .i64 0, .int .i64 0, .int .i64 0] from rfl] at hW2
  rw [← hn] at hW2 hASK y1 ⊢
  clear ha hT hf hb2 q0 q1 hsz2 hown hown2 hz hn hz4
  go_enter Tryd.func47, Tryd.ntmps47
  go_wp2_with fail
  refine hASK.mono ?_
  rintro e w3 ⟨rfl, ⟨n1, D1, hO1, hT1⟩, hb3⟩
  have hbs : w.heap.size + 1 + 1 ≤ w3.heap.size := by have := HS2.out; have := hb3.size; omega
  have q3 : HasBlk w3 (w.heap.size + 1) (iv z8) 57 := hb3.keep (by omega) HQ1.out
  have hbw3 : But (fun k => k = b) w w3 := (But.of_below HB2.out).trans hb3
  have hkey := keys_any b w3
  have hOa : OwnT (w3.alloc (.cells #[.map (some b)] 55)) b n1 D1 := hO1.alloc _
  have hba := below1 w3 (.cells #[.map (some b)] 55)
  have hsa : (w3.alloc (.cells #[.map (some b)] 55)).heap.size = w3.heap.size + 1 := by simp
  have qa : (w3.alloc (.cells #[.map (some b)] 55)).cell? ⟨w3.heap.size, 0, none⟩ = some (.map (some b)) := (blk_cell (alloc_new w3 _) 0).trans (cell1_0 _)
  obtain ⟨wa, hwa⟩ : ∃ wa, wa = w3.alloc (.cells #[.map (some b)] 55) := ⟨_, rfl⟩
  rw [← hwa] at hkey hOa hba hsa qa
  have hcol := collectKeys_any w3.heap.size b n1 D1 zs _ hT1 HWF.out (Nat.le_trans (tab_size hO1 hT1) (Nat.le_trans HLN.out.1 (by decide))) wa (by omega) qa hOa
  have HO1 := Lib.hid hO1
  have HT1 := Lib.hid hT1
  have HB3 := Lib.hid hbw3
  have HQ3 := Lib.hid q3
  have HBA := Lib.hid hba
  clear y0 y1 hW2 hASK hO1 hT1 hb3 q3 hbw3 hOa hba qa hwa
  go_wp2_with fail
  refine hkey.mono ?_
  rintro e w4 ⟨rfl, rfl⟩
  go_wp2_with fail
  refine hcol.mono ?_
  rintro e w5 ⟨v, ys, rfl, hC, ho, hb5⟩
  obtain ⟨hpos, hmin⟩ := min_best HT1.out HLN.out.2 HWF.out hC
  have hlen := coll_len HT1.out HWF.out hC
  obtain ⟨g, gc, rfl, hg1, hg2, hA⟩ := arr_of_row ho hpos
  have hMF := minFunc_any g gc ys.length (valsK ys) w5 (by simp [valsK]) hpos (by have := HLN.out.1; omega) hg2 hA
  rw [hmin, ← HFN.out] at hMF
  obtain ⟨K, hK⟩ : ∃ K, K = keyL zs (nI (firstN m zs)) := ⟨_, rfl⟩
  have hK8 : K.length = 8 := by rw [hK]; exact keyL_len _ _ hz8
  rw [← hK] at hMF
  obtain ⟨v0, v1, v2, v3, v4, v5, v6, v7, rfl⟩ := eight hK8
  rw [show iv [v0, v1, v2, v3, v4, v5, v6, v7] = #[.int .i64 v0, .int .i64 v1, .int .i64 v2, .int .i64 v3, .int .i64 v4, .int .i64 v5, .int .i64 v6, .int .i64 v7] from rfl] at hMF
  have HKV := Lib.hid hK
  obtain ⟨T, hTl⟩ : ∃ T, T = ys.length := ⟨_, rfl⟩
  rw [← hTl] at hMF ⊢
  have hb35 : Below w3.heap.size w3 w5 := HBA.out.trans (hb5.mono (by omega))
  have HB35 := Lib.hid hb35
  clear hC ho hb5 hkey hcol hmin hA hK hK8 hTl hb35
  go_wp2_with fail
  refine hMF.mono ?_
  rintro e w6 ⟨rfl, hb6⟩
  have hb36 : Below w3.heap.size w3 w6 := HB35.out.trans (hb6.mono HB35.out.size)
  have hqr : HasBlk w6 (w.heap.size + 1) (iv z8) 57 := (hb36.block _ (by omega)).trans HQ3.out
  have hqr' := hqr
  rw [show iv z8 = #[.int .i64 0, .int .i64 0, .int .i64 0, .int .i64 0, .int .i64 0, .int .i64 0, .int .i64 0, .int .i64 0] from rfl] at hqr'
  have g0 := blk_cell hqr' 0
  have z0' := blk_frozen hqr 0
  have g1 := blk_cell hqr' 1
  have z1' := blk_frozen hqr 1
  have g2 := blk_cell hqr' 2
  have z2' := blk_frozen hqr 2
  have g3 := blk_cell hqr' 3
  have z3' := blk_frozen hqr 3
  have g4 := blk_cell hqr' 4
  have z4' := blk_frozen hqr 4
  have g5 := blk_cell hqr' 5
  have z5' := blk_frozen hqr 5
  have g6 := blk_cell hqr' 6
  have z6' := blk_frozen hqr 6
  have g7 := blk_cell hqr' 7
  have z7' := blk_frozen hqr 7
  obtain ⟨Wf, hWf, hF, hBf⟩ := store8u (K := z8) rfl hqr v0 v1 v2 v3 v4 v5 v6 v7
  have HWf := Lib.hid hWf
  have h4 := hBf (w.heap.size + 1) (Nat.le_refl _)
  have h13 : But (fun k => k = b) w w6 := HB3.out.trans (But.of_below hb36)
  have HFB : Hid (But (fun k => k = b) w Wf) := Lib.hid ⟨h4.os.trans h13.os, h4.tape.trans h13.tape, h4.output.trans h13.output, Nat.le_trans h13.size h4.size, fun i hi hX => (h4.block i (by omega)).trans (h13.same i hi hX)⟩
  have HOF : Hid (OwnT Wf b n1 D1) := Lib.hid (ownT_same HO1.out ((h4.block b (by omega)).trans (hb36.block b (by omega))))
  have r0 : Wf.cell? ⟨w.heap.size + 1, 0, none⟩ = some (.int .i64 v0) := by have := hF.cell 0 (by simp); simpa using this
  have r1 : Wf.cell? ⟨w.heap.size + 1, 1, none⟩ = some (.int .i64 v1) := by have := hF.cell 1 (by simp); simpa using this
  have r2 : Wf.cell? ⟨w.heap.size + 1, 2, none⟩ = some (.int .i64 v2) := by have := hF.cell 2 (by simp); simpa using this
  have r3 : Wf.cell? ⟨w.heap.size + 1, 3, none⟩ = some (.int .i64 v3) := by have := hF.cell 3 (by simp); simpa using this
  have r4 : Wf.cell? ⟨w.heap.size + 1, 4, none⟩ = some (.int .i64 v4) := by have := hF.cell 4 (by simp); simpa using this
  have r5 : Wf.cell? ⟨w.heap.size + 1, 5, none⟩ = some (.int .i64 v5) := by have := hF.cell 5 (by simp); simpa using this
  have r6 : Wf.cell? ⟨w.heap.size + 1, 6, none⟩ = some (.int .i64 v6) := by have := hF.cell 6 (by simp); simpa using this
  have r7 : Wf.cell? ⟨w.heap.size + 1, 7, none⟩ = some (.int .i64 v7) := by have := hF.cell 7 (by simp); simpa using this
  clear hqr hqr' hb6 hb36 hWf hF hBf h4 h13 hMF
  go_wp2
  rw [HWf.out]
  refine bodyPost_ret (v := .agg #[.int .i64 v0, .int .i64 v1, .int .i64 v2, .int .i64 v3, .int .i64 v4, .int .i64 v5, .int .i64 v6, .int .i64 v7]) (by simp [results, Tryd.results47, go_sem, r0, r1, r2, r3, r4, r5, r6, r7]) rfl ⟨by rw [← HKV.out]; rfl, ⟨_, _, HOF.out, HT1.out⟩, HFB.out⟩

end Go.Proofs.YtjclfpcnfmpjdaaDoor
