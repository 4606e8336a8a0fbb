/- It is proved what slices.MinFunc returns for lists of clubs by their compare; conditions: those of each statement. -/
import Derived.Deep.RegionHeld3
import Derived.RowKit
import Derived.Laws.CopyRow
import Derived.Lib.SlBuf
import Derived.RangeFuncNested
import Derived.RangeFuncBound
import Derived.RangeFuncCalls
import Derived.RangeFuncLeaves
import Derived.RangeFuncBox
import Derived.RangeFuncWrites
import Derived.Test.YtgpgocijacgkhaaDoorRows
import Derived.WalkKit
import Derived.WalkSpells
import Derived.ProofKit
import Derived.OpenShut
import Derived.ShutString
import Derived.ChangeOld
import Derived.Below
import Derived.Deep.QuietTactic
import Derived.BigQuiet
import Derived.Lib.Hide
import Derived.Lib.SmallJoins
import Derived.Outline
import Derived.Laws.MakeOwn
import Derived.Laws.OwnMore
import Derived.IntWalk
import Derived.Deep.RegionLaw
import Derived.Deep.AppendLies
import Derived.Lib.AppendZeros
import Derived.Maps.AppendAt
import Derived.OwnWalk
import Derived.Lib.SlicesCompact
import Derived.Lib.OwnBridge
import Derived.Shelf.Sort.Plain
import Derived.Shelf.Slices.In.SortNone
import Derived.Shelf.Slices.CompactI
import Derived.Ground.Names2Prog
import Derived.Shelf.Abstract
import Derived.Shelf.RegionOpen
import Derived.OwnWalkIn
import Derived.TacticsInMore
import Derived.LoopNIn
import Derived.LoopIn
import Derived.StillTail
import Derived.StillTactics
import Derived.OrdersIn
import Derived.TacticsIn
import Derived.Shelf.Spec.TrailingZeros
import Derived.StillTailTactics
import Derived.Test.YtgpgocijacgkhaaDoorRabdxFnAlik
import Derived.Test.YtgpgocijacgkhaaDoorRabjxFnAlik
import Derived.Test.YtgpgocijacgkhaaDoorRabixFnAlik
import Derived.Test.YtgpgocijacgkhaaDoorRablxFnAlik
import Derived.Test.YtgpgocijacgkhaaDoorRaaa
import Derived.Test.YtgpgocijacgkhaaDoorRaab
import Derived.Sort.MapsRangeIn
import Derived.Maps.OwnIn
import Derived.Maps.Ext
import Derived.DeepKeys4
import Derived.MapKept
import Derived.Test.YtgpgocijacgkhaaDoorRabexFnAlik
import Derived.Test.YtgpgocijacgkhaaDoorRabgxFnAlik
namespace Go.Proofs.YtgpgocijacgkhaaDoor
open Go.RowKit Go.Shelf

/-- Arrays of eight ints, one behind the other. -/
def Arr8 (W : World) (g : Nat) (L : List (List Int)) : Prop := ∀ i, i < L.length → (L[i]?.getD []).length = 8 ∧ ∀ j, j < 8 → W.cell? ⟨g, i * 8 + j, none⟩ = some (.int .i64 ((L[i]?.getD [])[j]?.getD 0))

theorem Arr8.below {W W' : World} {B g : Nat} {L : List (List Int)} (h : Arr8 W g L) (hb : Below B W W') (hg : g < B) : Arr8 W' g L := fun i hi => ⟨(h i hi).1, fun j hj => (hb.cell (p := ⟨g, i * 8 + j, none⟩) hg).trans ((h i hi).2 j hj)⟩
theorem Arr8.at8 {W : World} {g : Nat} {L : List (List Int)} (h : Arr8 W g L) {i : Nat} (hi : i < L.length) : ∃ y0 y1 y2 y3 y4 y5 y6 y7 : Int, L[i]?.getD [] = [y0, y1, y2, y3, y4, y5, y6, y7] ∧ W.cell? ⟨g, i * 8, none⟩ = some (.int .i64 y0) ∧ W.cell? ⟨g, i * 8 + 1, none⟩ = some (.int .i64 y1) ∧ W.cell? ⟨g, i * 8 + 2, none⟩ = some (.int .i64 y2) ∧ W.cell? ⟨g, i * 8 + 3, none⟩ = some (.int .i64 y3) ∧ W.cell? ⟨g, i * 8 + 4, none⟩ = some (.int .i64 y4) ∧ W.cell? ⟨g, i * 8 + 5, none⟩ = some (.int .i64 y5) ∧ W.cell? ⟨g, i * 8 + 6, none⟩ = some (.int .i64 y6) ∧ W.cell? ⟨g, i * 8 + 7, none⟩ = some (.int .i64 y7) := by
  obtain ⟨h8, hc⟩ := h i hi
  obtain ⟨y0, y1, y2, y3, y4, y5, y6, y7, hy⟩ := eight h8
  rw [hy] at hc
  exact ⟨y0, y1, y2, y3, y4, y5, y6, y7, hy, hc 0 (by decide), hc 1 (by decide), hc 2 (by decide), hc 3 (by decide), hc 4 (by decide), hc 5 (by decide), hc 6 (by decide), hc 7 (by decide)⟩

theorem store8u {W : World} {R t : Nat} {K : List Int} (hk : K.length = 8) (h : Nums W R t K) (u0 u1 u2 u3 u4 u5 u6 u7 : Int) : ∃ W', ((((((((W.setCell ⟨R, 0, none⟩ (.int .i64 u0)).setCell ⟨R, 1, none⟩ (.int .i64 u1)).setCell ⟨R, 2, none⟩ (.int .i64 u2)).setCell ⟨R, 3, none⟩ (.int .i64 u3)).setCell ⟨R, 4, none⟩ (.int .i64 u4)).setCell ⟨R, 5, none⟩ (.int .i64 u5)).setCell ⟨R, 6, none⟩ (.int .i64 u6)).setCell ⟨R, 7, none⟩ (.int .i64 u7)) = W' ∧ Nums W' R t [u0, u1, u2, u3, u4, u5, u6, u7] ∧ ∀ (B : Nat), B ≤ R → Below B W W' := by
  refine ⟨_, rfl, ?_, fun B hB => ?_⟩
  · obtain ⟨x0, x1, x2, x3, x4, x5, x6, x7, rfl⟩ := eight hk
    exact (((((((h.set 0 u0).set 1 u1).set 2 u2).set 3 u3).set 4 u4).set 5 u5).set 6 u6).set 7 u7
  · exact (((((((((Below.refl B W).setCell (p := ⟨R, 0, none⟩) hB _).setCell (p := ⟨R, 1, none⟩) hB _).setCell (p := ⟨R, 2, none⟩) hB _).setCell (p := ⟨R, 3, none⟩) hB _).setCell (p := ⟨R, 4, none⟩) hB _).setCell (p := ⟨R, 5, none⟩) hB _).setCell (p := ⟨R, 6, none⟩) hB _).setCell (p := ⟨R, 7, none⟩) hB _)

/-- The least of the first lists, the first of equals. -/
def minG (L : List (List Int)) : Nat → List Int
  | 0 => L[0]?.getD []
  | i + 1 => if lexB (L[i + 1]?.getD []) (minG L i) then L[i + 1]?.getD [] else minG L i

theorem minG_len {L : List (List Int)} (h : ∀ i, i < L.length → (L[i]?.getD []).length = 8) : ∀ i, i < L.length → (minG L i).length = 8
  | 0, hi => h 0 hi
  | i + 1, hi => by
    rw [minG]; split
    · exact h _ hi
    · exact minG_len h i (by omega)

set_option maxRecDepth 100000 in
set_option maxHeartbeats 4000000 in
theorem minFunc_any (g c n : Nat) (L : List (List Int)) (w : World) (hL : L.length = n) (hn : 0 < n) (hn2 : n ≤ 100000) (hg : g < w.heap.size) (hA : Arr8 w g L) :
    Calls Tryd.prog 84 #[.slice (some ⟨g, 0, none⟩) n c, .func (.func 87) #[] #[]] w fun e w' => e = .returned (.agg (iv (minG L (n - 1)))) ∧ Below w.heap.size w w' := by
  have hnI : (0 : Int) < (n : Int) := by omega
  have hn1 : ¬ ((n : Int) < 1) := by omega
  have hb1 := below1 w (.cells (iv z8) 77)
  have hA1 := hA.below hb1 hg
  have hs1 : (w.alloc (.cells (iv z8) 77)).heap.size = w.heap.size + 1 := by simp
  have q1 := alloc_new w (.cells (iv z8) 77)
  obtain ⟨w1, hw1⟩ : ∃ w1, w.alloc (.cells (iv z8) 77) = w1 := ⟨_, rfl⟩
  rw [hw1] at hb1 hA1 hs1 q1
  obtain ⟨y0, y1, y2, y3, y4, y5, y6, y7, hy, c0, c1, c2, c3, c4, c5, c6, c7⟩ := hA1.at8 (i := 0) (by rw [hL]; exact hn)
  simp only [Nat.zero_mul, Nat.zero_add] at c0 c1 c2 c3 c4 c5 c6 c7
  have hb2 : Below w.heap.size w (w1.alloc (.cells (iv (minG L 0)) 77)) := hb1.alloc (by omega) _
  have hA2 : Arr8 (w1.alloc (.cells (iv (minG L 0)) 77)) g L := hA.below hb2 hg
  have q2 : HasBlk (w1.alloc (.cells (iv (minG L 0)) 77)) (w.heap.size + 1) (iv (minG L 0)) 77 := by rw [← hs1]; exact alloc_new w1 _
  have hs2 : (w1.alloc (.cells (iv (minG L 0)) 77)).heap.size = w.heap.size + 1 + 1 := by simp; omega
  have q12 : HasBlk (w1.alloc (.cells (iv (minG L 0)) 77)) w.heap.size (iv z8) 77 := HasBlk.alloc q1 _
  obtain ⟨w2, hw2⟩ : ∃ w2, w1.alloc (.cells (iv (minG L 0)) 77) = w2 := ⟨_, rfl⟩
  rw [hw2] at hb2 hA2 q2 hs2 q12
  rw [show iv z8 = #[.int .i64 0, .int .i64 0, .int .i64 0, .int .i64 0, .int .i64 0, .int .i64 0, .int .i64 0, .int .i64 0] from rfl] at hw1
  rw [minG, hy, show iv [y0, y1, y2, y3, y4, y5, y6, y7] = #[.int .i64 y0, .int .i64 y1, .int .i64 y2, .int .i64 y3, .int .i64 y4, .int .i64 y5, .int .i64 y6, .int .i64 y7] from rfl] at hw2
  have HB2 := Lib.hid hb2
  have HA2 := Lib.hid hA2
  have HQ2 := Lib.hid q2
  have HQ12 := Lib.hid q12
  have HS2 := Lib.hid hs2
  have HLN := Lib.hid hL
  have HA := Lib.hid hA
  clear hb1 hA1 q1 hb2 hA2 q2 q12 hs2 hy hA hL
  go_enter Tryd.func84, Tryd.ntmps84
  go_wp2
  go_loopw [6] (fun i wr => ∃ (j : Nat), 1 ≤ j ∧ j ≤ n ∧ i = .int .i64 (j : Int) ∧ HasBlk wr (w.heap.size + 1) (iv (minG L (j - 1))) 77 ∧ HasBlk wr w.heap.size (iv z8) 77 ∧ Below w.heap.size w wr ∧ w.heap.size + 1 + 1 ≤ wr.heap.size) (fun i _ => n - (intOf i).toNat)
  case atStart => exact ⟨1, Nat.le_refl _, hn, rfl, HQ2.out, HQ12.out, HB2.out, by have := HS2.out; omega⟩
  case round =>
    obtain ⟨j, hj1, hj, rfl, hq, hqr, hB, hsz⟩ := hrel
    by_cases hlt : j < n
    · obtain ⟨wo, hwo⟩ : ∃ wo, wo = wr := ⟨wr, rfl⟩
      subst hwo
      have hjl : j < L.length := by rw [HLN.out]; exact hlt
      have h8 : ∀ i, i < L.length → (L[i]?.getD []).length = 8 := fun i hi => (HA.out i hi).1
      have hmlen : (minG L (j - 1)).length = 8 := minG_len h8 _ (by omega)
      obtain ⟨x, hx⟩ : ∃ x, x = L[j]?.getD [] := ⟨_, rfl⟩
      obtain ⟨mm, hm⟩ : ∃ mm, mm = minG L (j - 1) := ⟨_, rfl⟩
      have hxl : x.length = 8 := by rw [hx]; exact h8 j hjl
      rw [← hm] at hmlen hq
      obtain ⟨pb, hpb⟩ : ∃ pb, pb = lexB x mm := ⟨_, rfl⟩
      have HNX : Hid (minG L (j + 1 - 1) = if pb then x else mm) := Lib.hid (by
        rw [show j + 1 - 1 = (j - 1) + 1 from by omega, minG, show j - 1 + 1 = j from by omega, ← hx, ← hm, ← hpb])
      have hc := cmpList_any x mm hxl hmlen wo.drew
      obtain ⟨z, hz⟩ : ∃ z, z = cmpZ x mm := ⟨_, rfl⟩
      rw [← hz] at hc
      have hzp : decide (z < 0) = pb := by
        rw [hz, hpb]; unfold cmpZ
        cases lexB x mm
        · rw [if_neg (by decide)]; split <;> decide
        · rw [if_pos rfl]; decide
      have HAo := HA.out.below hB hg
      obtain ⟨u0, u1, u2, u3, u4, u5, u6, u7, hu, d0, d1, d2, d3, d4, d5, d6, d7⟩ := HAo.at8 (i := j) hjl
      rw [← hx] at hu
      obtain ⟨v0, v1, v2, v3, v4, v5, v6, v7, hv⟩ := eight hmlen
      have HU := Lib.hid hu
      have HV := Lib.hid hv
      rw [hu, hv, show iv [u0, u1, u2, u3, u4, u5, u6, u7] = #[.int .i64 u0, .int .i64 u1, .int .i64 u2, .int .i64 u3, .int .i64 u4, .int .i64 u5, .int .i64 u6, .int .i64 u7] from rfl, show iv [v0, v1, v2, v3, v4, v5, v6, v7] = #[.int .i64 v0, .int .i64 v1, .int .i64 v2, .int .i64 v3, .int .i64 v4, .int .i64 v5, .int .i64 v6, .int .i64 v7] from rfl] at hc
      rw [hv] at hq
      have e0 := blk_cell hq 0
      have e1 := blk_cell hq 1
      have e2 := blk_cell hq 2
      have e3 := blk_cell hq 3
      have e4 := blk_cell hq 4
      have e5 := blk_cell hq 5
      have e6 := blk_cell hq 6
      have e7 := blk_cell hq 7
      rw [show iv [v0, v1, v2, v3, v4, v5, v6, v7] = #[.int .i64 v0, .int .i64 v1, .int .i64 v2, .int .i64 v3, .int .i64 v4, .int .i64 v5, .int .i64 v6, .int .i64 v7] from rfl] at e0 e1 e2 e3 e4 e5 e6 e7
      have hgl : g < wo.heap.size := by omega
      have HKE : Hid (∀ w', Below wo.heap.size wo w' → w'.cell? ⟨g, j * 8, none⟩ = some (.int .i64 u0) ∧ w'.cell? ⟨g, j * 8 + 1, none⟩ = some (.int .i64 u1) ∧ w'.cell? ⟨g, j * 8 + 2, none⟩ = some (.int .i64 u2) ∧ w'.cell? ⟨g, j * 8 + 3, none⟩ = some (.int .i64 u3) ∧ w'.cell? ⟨g, j * 8 + 4, none⟩ = some (.int .i64 u4) ∧ w'.cell? ⟨g, j * 8 + 5, none⟩ = some (.int .i64 u5) ∧ w'.cell? ⟨g, j * 8 + 6, none⟩ = some (.int .i64 u6) ∧ w'.cell? ⟨g, j * 8 + 7, none⟩ = some (.int .i64 u7) ∧ w'.cell? ⟨w.heap.size + 1, 0, none⟩ = some (.int .i64 v0) ∧ w'.cell? ⟨w.heap.size + 1, 1, none⟩ = some (.int .i64 v1) ∧ w'.cell? ⟨w.heap.size + 1, 2, none⟩ = some (.int .i64 v2) ∧ w'.cell? ⟨w.heap.size + 1, 3, none⟩ = some (.int .i64 v3) ∧ w'.cell? ⟨w.heap.size + 1, 4, none⟩ = some (.int .i64 v4) ∧ w'.cell? ⟨w.heap.size + 1, 5, none⟩ = some (.int .i64 v5) ∧ w'.cell? ⟨w.heap.size + 1, 6, none⟩ = some (.int .i64 v6) ∧ w'.cell? ⟨w.heap.size + 1, 7, none⟩ = some (.int .i64 v7) ∧ Below wo.heap.size wo w') := Lib.hid (fun w' h => ⟨(h.cell (p := ⟨g, j * 8, none⟩) hgl).trans d0, (h.cell (p := ⟨g, j * 8 + 1, none⟩) hgl).trans d1, (h.cell (p := ⟨g, j * 8 + 2, none⟩) hgl).trans d2, (h.cell (p := ⟨g, j * 8 + 3, none⟩) hgl).trans d3, (h.cell (p := ⟨g, j * 8 + 4, none⟩) hgl).trans d4, (h.cell (p := ⟨g, j * 8 + 5, none⟩) hgl).trans d5, (h.cell (p := ⟨g, j * 8 + 6, none⟩) hgl).trans d6, (h.cell (p := ⟨g, j * 8 + 7, none⟩) hgl).trans d7, (h.cell (p := ⟨w.heap.size + 1, 0, none⟩) (show w.heap.size + 1 < wo.heap.size by omega)).trans e0, (h.cell (p := ⟨w.heap.size + 1, 1, none⟩) (show w.heap.size + 1 < wo.heap.size by omega)).trans e1, (h.cell (p := ⟨w.heap.size + 1, 2, none⟩) (show w.heap.size + 1 < wo.heap.size by omega)).trans e2, (h.cell (p := ⟨w.heap.size + 1, 3, none⟩) (show w.heap.size + 1 < wo.heap.size by omega)).trans e3, (h.cell (p := ⟨w.heap.size + 1, 4, none⟩) (show w.heap.size + 1 < wo.heap.size by omega)).trans e4, (h.cell (p := ⟨w.heap.size + 1, 5, none⟩) (show w.heap.size + 1 < wo.heap.size by omega)).trans e5, (h.cell (p := ⟨w.heap.size + 1, 6, none⟩) (show w.heap.size + 1 < wo.heap.size by omega)).trans e6, (h.cell (p := ⟨w.heap.size + 1, 7, none⟩) (show w.heap.size + 1 < wo.heap.size by omega)).trans e7, h⟩)
      have HQO := Lib.hid hq
      have HQR := Lib.hid hqr
      have HBO := Lib.hid hB
      have hDr : Below wo.heap.size wo wo.drew := (Below.refl _ wo).drew
      have hjI : (j : Int) < (n : Int) := by omega
      have hj0 : (0 : Int) ≤ (j : Int) := by omega
      clear hx hm hxl hmlen hpb hz h8 hu hv hq hqr hB HAo d0 d1 d2 d3 d4 d5 d6 d7 e0 e1 e2 e3 e4 e5 e6 e7
      go_wp2
      go_region_held3 (fun w' => w'.cell? ⟨g, j * 8, none⟩ = some (.int .i64 u0) ∧ w'.cell? ⟨g, j * 8 + 1, none⟩ = some (.int .i64 u1) ∧ w'.cell? ⟨g, j * 8 + 2, none⟩ = some (.int .i64 u2) ∧ w'.cell? ⟨g, j * 8 + 3, none⟩ = some (.int .i64 u3) ∧ w'.cell? ⟨g, j * 8 + 4, none⟩ = some (.int .i64 u4) ∧ w'.cell? ⟨g, j * 8 + 5, none⟩ = some (.int .i64 u5) ∧ w'.cell? ⟨g, j * 8 + 6, none⟩ = some (.int .i64 u6) ∧ w'.cell? ⟨g, j * 8 + 7, none⟩ = some (.int .i64 u7) ∧ w'.cell? ⟨w.heap.size + 1, 0, none⟩ = some (.int .i64 v0) ∧ w'.cell? ⟨w.heap.size + 1, 1, none⟩ = some (.int .i64 v1) ∧ w'.cell? ⟨w.heap.size + 1, 2, none⟩ = some (.int .i64 v2) ∧ w'.cell? ⟨w.heap.size + 1, 3, none⟩ = some (.int .i64 v3) ∧ w'.cell? ⟨w.heap.size + 1, 4, none⟩ = some (.int .i64 v4) ∧ w'.cell? ⟨w.heap.size + 1, 5, none⟩ = some (.int .i64 v5) ∧ w'.cell? ⟨w.heap.size + 1, 6, none⟩ = some (.int .i64 v6) ∧ w'.cell? ⟨w.heap.size + 1, 7, none⟩ = some (.int .i64 v7) ∧ Below wo.heap.size wo w')
        (first
          | exact HKE.out _ hDr
          | exact HKE.out _ (hDr.trans hb9))
        (first
          | (go_at_call 87; refine hc.mono ?_; rintro e w9 ⟨rfl, hb9⟩))
      rename_i hHeld
      obtain ⟨f0, f1, f2, f3, f4, f5, f6, f7, -, -, -, -, -, -, -, -, hbw⟩ := hHeld
      have HQ9 : Hid (HasBlk w9 (w.heap.size + 1) (iv mm) 77) := Lib.hid ((hbw.block _ (by omega)).trans (by rw [HV.out]; exact HQO.out))
      have HQR9 : Hid (HasBlk w9 w.heap.size (iv z8) 77) := Lib.hid ((hbw.block _ (by omega)).trans HQR.out)
      have HB9 : Hid (Below w.heap.size w w9) := Lib.hid (HBO.out.trans (hbw.mono (by omega)))
      have hsz9 : w.heap.size + 1 + 1 ≤ w9.heap.size := by have := hbw.size; omega
      clear hbw hb9 hc hDr hzp
      cases pb
      · go_wp2
        go_roundw
        case rel => exact ⟨j + 1, by omega, by omega, by go_num, by rw [HNX.out]; exact HQ9.out, HQR9.out, HB9.out, hsz9⟩
        case measure => simp [intOf]; omega
      · have q9 := HQ9.out
        rw [HV.out, show iv [v0, v1, v2, v3, v4, v5, v6, v7] = #[.int .i64 v0, .int .i64 v1, .int .i64 v2, .int .i64 v3, .int .i64 v4, .int .i64 v5, .int .i64 v6, .int .i64 v7] from rfl] at q9
        have g0 := blk_cell q9 0
        have g1 := blk_cell q9 1
        have g2 := blk_cell q9 2
        have g3 := blk_cell q9 3
        have g4 := blk_cell q9 4
        have g5 := blk_cell q9 5
        have g6 := blk_cell q9 6
        have g7 := blk_cell q9 7
        have z0 := blk_frozen q9 0
        have z1 := blk_frozen q9 1
        have z2 := blk_frozen q9 2
        have z3 := blk_frozen q9 3
        have z4 := blk_frozen q9 4
        have z5 := blk_frozen q9 5
        have z6 := blk_frozen q9 6
        have z7 := blk_frozen q9 7
        obtain ⟨Wf, hWf, hF, hBf⟩ := store8u (K := mm) (by rw [HV.out]; rfl) HQ9.out u0 u1 u2 u3 u4 u5 u6 u7
        have HWF := Lib.hid hWf
        have HNF : Hid (HasBlk Wf (w.heap.size + 1) (iv x) 77) := Lib.hid (by rw [HU.out]; exact hF)
        have hbf := hBf (w.heap.size + 1) (Nat.le_refl _)
        have HQRF : Hid (HasBlk Wf w.heap.size (iv z8) 77) := Lib.hid ((hbf.block _ (by omega)).trans HQR9.out)
        have HBF : Hid (Below w.heap.size w Wf) := Lib.hid (HB9.out.trans (hbf.mono (by omega)))
        have hszf : w.heap.size + 1 + 1 ≤ Wf.heap.size := Nat.le_trans hsz9 hbf.size
        clear q9 hWf hF hBf hbf
        go_wp2
        rw [HWF.out]
        go_roundw
        case rel => exact ⟨j + 1, by omega, by omega, by go_num, by rw [HNX.out]; exact HNF.out, HQRF.out, HBF.out, hszf⟩
        case measure => simp [intOf]; omega
    · obtain rfl : j = n := by omega
      have h8 : (minG L (j - 1)).length = 8 := minG_len (fun i hi => (HA.out i hi).1) _ (by have := HLN.out; omega)
      obtain ⟨v0, v1, v2, v3, v4, v5, v6, v7, hv⟩ := eight h8
      rw [hv, show iv [v0, v1, v2, v3, v4, v5, v6, v7] = #[.int .i64 v0, .int .i64 v1, .int .i64 v2, .int .i64 v3, .int .i64 v4, .int .i64 v5, .int .i64 v6, .int .i64 v7] from rfl] at hq
      have HV : Hid (minG L (j - 1) = [v0, v1, v2, v3, v4, v5, v6, v7]) := Lib.hid hv
      have e0 := blk_cell hq 0
      have e1 := blk_cell hq 1
      have e2 := blk_cell hq 2
      have e3 := blk_cell hq 3
      have e4 := blk_cell hq 4
      have e5 := blk_cell hq 5
      have e6 := blk_cell hq 6
      have e7 := blk_cell hq 7
      have hqr' := hqr
      rw [show iv z8 = #[.int .i64 0, .int .i64 0, .int .i64 0, .int .i64 0, .int .i64 0, .int .i64 0, .int .i64 0, .int .i64 0] from rfl] at hqr'
      have g0 := blk_cell hqr' 0
      have g1 := blk_cell hqr' 1
      have g2 := blk_cell hqr' 2
      have g3 := blk_cell hqr' 3
      have g4 := blk_cell hqr' 4
      have g5 := blk_cell hqr' 5
      have g6 := blk_cell hqr' 6
      have g7 := blk_cell hqr' 7
      have z0 := blk_frozen hqr 0
      have z1 := blk_frozen hqr 1
      have z2 := blk_frozen hqr 2
      have z3 := blk_frozen hqr 3
      have z4 := blk_frozen hqr 4
      have z5 := blk_frozen hqr 5
      have z6 := blk_frozen hqr 6
      have z7 := blk_frozen hqr 7
      obtain ⟨Wf, hWf, hF, hBf⟩ := store8u (K := z8) rfl hqr v0 v1 v2 v3 v4 v5 v6 v7
      have HWF := Lib.hid hWf
      have HFB : Hid (Below w.heap.size w Wf) := Lib.hid (hB.trans (hBf _ (Nat.le_refl _)))
      have r0 : Wf.cell? ⟨w.heap.size, 0, none⟩ = some (.int .i64 v0) := by have := hF.cell 0 (by simp); simpa using this
      have r1 : Wf.cell? ⟨w.heap.size, 1, none⟩ = some (.int .i64 v1) := by have := hF.cell 1 (by simp); simpa using this
      have r2 : Wf.cell? ⟨w.heap.size, 2, none⟩ = some (.int .i64 v2) := by have := hF.cell 2 (by simp); simpa using this
      have r3 : Wf.cell? ⟨w.heap.size, 3, none⟩ = some (.int .i64 v3) := by have := hF.cell 3 (by simp); simpa using this
      have r4 : Wf.cell? ⟨w.heap.size, 4, none⟩ = some (.int .i64 v4) := by have := hF.cell 4 (by simp); simpa using this
      have r5 : Wf.cell? ⟨w.heap.size, 5, none⟩ = some (.int .i64 v5) := by have := hF.cell 5 (by simp); simpa using this
      have r6 : Wf.cell? ⟨w.heap.size, 6, none⟩ = some (.int .i64 v6) := by have := hF.cell 6 (by simp); simpa using this
      have r7 : Wf.cell? ⟨w.heap.size, 7, none⟩ = some (.int .i64 v7) := by have := hF.cell 7 (by simp); simpa using this
      clear hq hqr hqr' hB hWf hF hBf hv h8
      go_wp2
      rw [HWF.out]
      refine bodyPost_ret (v := .agg #[.int .i64 v0, .int .i64 v1, .int .i64 v2, .int .i64 v3, .int .i64 v4, .int .i64 v5, .int .i64 v6, .int .i64 v7]) (by simp [results, Tryd.results84, go_sem, r0, r1, r2, r3, r4, r5, r6, r7]) rfl ⟨by rw [HV.out]; rfl, HFB.out⟩

end Go.Proofs.YtgpgocijacgkhaaDoor

/- It is proved that a range over maps.Keys of the map of lists meets the map's keys, each once, in some order; conditions: those of each statement. -/
namespace Go.Proofs.YtgpgocijacgkhaaDoor
open Go.RowKit Go.Shelf Go.Maps

/-- What has come of the keys. -/
def CollK (D : DataW Unit) (left : Lit → Bool) (ss : List (List Int)) : Prop := ss.Nodup ∧ (∀ K ∈ ss, WfK K) ∧ ∀ K, WfK K → (K ∈ ss ↔ (Maps.has D (keyLit K) = true ∧ left (keyLit K) = false))

theorem collK_start (D : DataW Unit) : CollK D (Maps.has D) [] := ⟨List.nodup_nil, by simp, fun K _ => by cases Maps.has D (keyLit K) <;> simp⟩
theorem collK_step {D : DataW Unit} {left : Lit → Bool} {ss : List (List Int)} (h : CollK D left ss) {K : List Int} (hK : WfK K) {y : DataW Unit} (hlk : left (keyLit K) = true) (hat : ∀ zd, D.atKey (keyLit K) zd = y) :
    CollK D (fun z => left z && !z.sameKey (keyLit K)) (ss ++ [K]) := by
  have hhas : Maps.has D (keyLit K) = true := has_true_of_atKey hat
  have hnew : K ∉ ss := fun hx => by have := ((h.2.2 K hK).1 hx).2; rw [hlk] at this; cases this
  refine ⟨List.nodup_append.2 ⟨h.1, by simp, fun a ha b hb => by simp at hb; subst hb; exact fun e => hnew (e ▸ ha)⟩, fun M hM => ?_, fun M hM => ?_⟩
  · rcases List.mem_append.1 hM with hM | hM
    · exact h.2.1 M hM
    · simp at hM; subst hM; exact hK
  · by_cases e : M = K
    · subst e
      have hs : (keyLit M).sameKey (keyLit M) = true := WideAt.sameKey_self (keyLit_lit hM)
      simp [hhas, hs]
    · have hs : (keyLit M).sameKey (keyLit K) = false := sameKey_ne (fun h' => e (keyLit_inj hM hK h'))
      simp [h.2.2 M hM, hs, e]

attribute [local go_sem] Oper.semAt_some

/-- A list that may be a key. -/
abbrev KeyS := { K : List Int // WfK K }

def valsK (ys : List KeyS) : List (List Int) := ys.map (·.1)
theorem valsK_snoc (ys : List KeyS) (y : KeyS) : valsK (ys ++ [y]) = valsK ys ++ [y.1] := by simp [valsK]
/-- All keys have come, each once. -/
def CollE (D : DataW Unit) (ss : List (List Int)) : Prop := ss.Nodup ∧ (∀ K ∈ ss, WfK K) ∧ ∀ K, WfK K → (K ∈ ss ↔ Maps.has D (keyLit K) = true)

set_option maxRecDepth 100000 in
set_option maxHeartbeats 2000000 in
theorem keysK1_in (n : Nat) (hn : 1 ≤ n) (l Bm b nn : Nat) (D0 : DataW Unit) (zs : List Int) (L : List (List Nat)) (hTab : TabD zs D0 L) (hwf : ∀ p ∈ L, WfK (keyL zs (nI p))) (J Jx : List KeyS → World → Prop)
    (hY : ∀ pre x W, J pre W → pre.length < Maps.size D0 → YieldAt Fence.wide (n - 1) Tryd.prog l #[.agg (iv x.1)] W fun e W' =>
      (e = .returned (.bool true) ∧ J (pre ++ [x]) W' ∧ KeepsWalks W W') ∨ (e = .returned (.bool false) ∧ Jx (pre ++ [x]) W'))
    (W : World) (hJ : AbidesFrom W.heap.size J) (hm : W.cell? ⟨Bm, 0, none⟩ = some (.map (some b))) (hown : OwnT W b nn D0) (h0 : J [] W) :
    CallsIn Fence.wide n Tryd.prog 102 #[.func (.yield l) #[] #[], .pointer (some ⟨Bm, 0, none⟩)] W fun e W' => (∃ v, e = .returned v) ∧
      ((∃ ys, CollE D0 (valsK ys) ∧ J ys W') ∨ (∃ pre, True ∧ Jx pre W')) := by
  have hu : Tryd.prog.underlying 75 = some (.map 77 102) := by kernel_rfl
  refine callsIn_of_wp Tryd.func102 rfl trivial ?_ rfl
  simp only [Tryd.ntmps102, List.size_toArray, List.length_cons, List.length_nil, Nat.reduceAdd, Nat.reduceSub, Array.replicate_succ, Array.replicate_zero, List.push_toArray, List.append_toArray, List.nil_append, List.cons_append]
  gi_wp2_with (gi_at_range; refine wpListIn_range_own _ rfl _ 75 rfl 77 102 keyLaw hu _ b nn _ rfl hown ?_; intro w0 hrg0 hg0 hs0)
  go_frame
  gi_loopw [3] (fun _ wr => ∃ (left : Lit → Bool) (cnt : Nat) (ss : List KeyS), wr.ranges Tryd.prog 77 rowR b W.heap.size nn D0 left cnt ∧ ss.length + cnt ≤ Maps.size D0 ∧ CollK D0 left (valsK ss) ∧ J ss wr)
    (fun _ wr => wr.rangeLeft b W.heap.size)
  case atStart =>
    exact ⟨_, _, [], hrg0, by simp, collK_start D0, hJ [] W w0 none h0 hg0 (fun r e => by cases e)⟩
  case round =>
    obtain ⟨left, cnt, ss, hrg, hcs, hC, hJs⟩ := hrel
    gi_wp2_with (gi_at_next; refine wpListIn_next_ranges _ rfl _ rfl 77 keyLaw rowR id id (fun key kl hk => ⟨key, rfl⟩) (fun v _ _ => ⟨v, rfl⟩) b W.heap.size nn _ _ _ rfl hrg ?_ ?_)
    · intro hc0 hl0
      gi_wp2
      go_end0
      exact ⟨⟨_, rfl⟩, .inl ⟨ss, ⟨hC.1, hC.2.1, fun K hK => by rw [hC.2.2 K hK, hl0]; simp⟩, hJs⟩⟩
    · intro x c kl yd yp w2 cnt2 hkey hlk hv hat hrg2 hlt hg2 hs2 hen
      obtain ⟨p, hp, rfl⟩ := (hTab.has_ kl).1 (has_true_of_atKey hat)
      have hwk := hwf p hp
      obtain ⟨K, hK⟩ : ∃ K, K = keyL zs (nI p) := ⟨_, rfl⟩
      rw [← hK] at hwk hkey hlk hat hrg2
      have hxe : x = .agg (iv K) := keyLaw.inj hkey (keyLit_key hwk)
      subst hxe
      obtain ⟨u0, u1, u2, u3', u4, u5, u6, u7', hu8⟩ := eight hwk.1
      have hJ2 : J ss w2 := hJ ss wr w2 (some W.heap.size) hJs hg2 (fun r e => by cases e; exact ⟨Nat.le_refl _, hrg.iter_walk⟩)
      have hC2 := collK_step hC hwk hlk hat
      have hJ3 : J ss (w2.alloc (.cells (iv K) 77)) := hJ ss w2 _ none hJ2 (World.grownBy_alloc _ _ _) (by simp)
      have hrg3 := hrg2.of_walks (KeepsWalks.alloc w2 (.cells (iv K) 77))
      have hk2 : KeepsWalks w2 (w2.alloc (.cells (iv K) 77)) := KeepsWalks.alloc w2 _
      have hnc : (w2.alloc (.cells (iv K) 77)).heap[w2.heap.size]? = some (.cells (iv K) 77 (0, 0)) := alloc_new w2 _
      obtain ⟨W2, hW2⟩ : ∃ W2, w2.alloc (.cells (iv K) 77) = W2 := ⟨_, rfl⟩
      rw [hW2] at hJ3 hrg3 hk2 hnc
      obtain ⟨fn, tmps, assign, body, hy, hR⟩ := hY ss ⟨K, hwk⟩ _ hJ3 (by omega)
      dsimp only at hy
      have HC2 := Lib.hid hC2
      have HRG := Lib.hid hrg3
      have HLT := Lib.hid hlt
      have HRL := Lib.hid hrg.left_eq
      have hen' : (Instr.entry (.pointer (some ⟨W.heap.size, 0, none⟩))).run Tryd.prog w2 = .ok (.tuple #[.agg (iv K), c]) w2 := hen
      rw [hu8, show iv [u0, u1, u2, u3', u4, u5, u6, u7'] = #[.int .i64 u0, .int .i64 u1, .int .i64 u2, .int .i64 u3', .int .i64 u4, .int .i64 u5, .int .i64 u6, .int .i64 u7'] from rfl] at hen' hy hW2 hnc
      show wpListIn _ _ _ _ _ _ { tmps := #[_, _, _, _, _, _, .tuple #[.bool true, .agg (iv K), c], _, _, _, _, _, _, _], defers := [] } _
      rw [hu8, show iv [u0, u1, u2, u3', u4, u5, u6, u7'] = #[.int .i64 u0, .int .i64 u1, .int .i64 u2, .int .i64 u3', .int .i64 u4, .int .i64 u5, .int .i64 u6, .int .i64 u7'] from rfl]
      clear hs2 hen hC2 hrg3 hJ3 hJ2 hrg2 hg2 hlt hC hrg hJs hJ hY
      have k0 := blk_cell hnc 0
      have k1 := blk_cell hnc 1
      have k2 := blk_cell hnc 2
      have k3 := blk_cell hnc 3
      have k4 := blk_cell hnc 4
      have k5 := blk_cell hnc 5
      have k6 := blk_cell hnc 6
      have k7 := blk_cell hnc 7
      clear hk2 hnc
      gi_wp2
      refine hR.mono ?_
      rintro e W3 (⟨rfl, hJ4, hk3⟩ | ⟨rfl, hJx3⟩)
      · gi_wp2
        have hrg4 := HRG.out.of_walks hk3
        go_roundw
        case rel => exact ⟨_, cnt2, ss ++ [⟨K, hwk⟩], hrg4, by have := HLT.out; simp; omega, by rw [valsK_snoc]; exact HC2.out, hJ4⟩
        case measure => rw [hrg4.left_eq, HRL.out]; exact HLT.out
      · gi_wp2
        refine bodyPost_ret (results_none rfl _ _ _) rfl ?_
        exact ⟨⟨_, rfl⟩, .inr ⟨_, trivial, hJx3⟩⟩

theorem keysK_stops (n : Nat) (hn : 1 ≤ n) (Bm b nn : Nat) (D0 : DataW Unit) (zs : List Int) (L : List (List Nat)) (hTab : TabD zs D0 L) (hwf : ∀ p ∈ L, WfK (keyL zs (nI p))) (w : World) (hBm : Bm < w.heap.size)
    (hm : w.cell? ⟨Bm, 0, none⟩ = some (.map (some b))) (hown : OwnT w b nn D0) :
    SeqStopsK Fence.wide n Tryd.prog 102 #[.pointer (some ⟨Bm, 0, none⟩)] (fun x : KeyS => #[.agg (iv x.1)]) KeepsWalks (fun ys => CollE D0 (valsK ys)) (fun _ => True) (Maps.size D0) w := fun l J Jx W hW hJ _ hY h0 => by
  have hown' : OwnT W b nn D0 := by
    have hbl := hown.lt
    obtain ⟨es, clock, hb, Ft, hs, hD⟩ := hown
    exact ⟨es, clock, (hW.block b hbl).trans hb, Ft, hs, hD⟩
  exact keysK1_in n hn l Bm b nn D0 zs L hTab hwf J Jx hY W hJ ((hW.cell (p := ⟨Bm, 0, none⟩) hBm).trans hm) hown' h0

end Go.Proofs.YtgpgocijacgkhaaDoor

/- It is proved which list is the least of a map's keys; conditions: those of each statement. -/
namespace Go.Proofs.YtgpgocijacgkhaaDoor
open Go.RowKit Go.Shelf Go.Maps

theorem lexB_trans : ∀ xs ys zs : List Int, lexB xs ys = true → lexB ys zs = true → lexB xs zs = true
  | [], [], _, h, _ => by simp [lexB] at h
  | [], _ :: _, [], _, h => by simp [lexB] at h
  | [], _ :: _, _ :: _, _, _ => by simp [lexB]
  | _ :: _, [], _, h, _ => by simp [lexB] at h
  | _ :: _, _ :: _, [], _, h => by simp [lexB] at h
  | x :: xs, y :: ys, z :: zs, h1, h2 => by
    rw [lexB] at h1 h2 ⊢
    by_cases e1 : x = y
    · subst e1
      rw [if_pos rfl] at h1
      by_cases e2 : x = z
      · subst e2
        rw [if_pos rfl] at h2 ⊢
        exact lexB_trans xs ys zs h1 h2
      · rw [if_neg e2] at h2 ⊢; exact h2
    · rw [if_neg e1] at h1
      have h1 := of_decide_eq_true h1
      by_cases e2 : y = z
      · subst e2
        rw [if_neg e1]; exact decide_eq_true h1
      · rw [if_neg e2] at h2
        have h2 := of_decide_eq_true h2
        rw [if_neg (by omega)]; exact decide_eq_true (by omega)

theorem lexB_eq {xs ys : List Int} (h1 : lexB xs ys = false) (h2 : lexB ys xs = false) : xs = ys := by
  have := lex_both xs ys
  rw [h1, h2] at this
  simpa using this

theorem lexB_app : ∀ (xs ys t : List Int), xs.length = ys.length → lexB (xs ++ t) (ys ++ t) = lexB xs ys
  | [], [], t, _ => by simp [lexB, lexB_self]
  | [], _ :: _, _, h => by simp at h
  | _ :: _, [], _, h => by simp at h
  | x :: xs, y :: ys, t, h => by
    rw [List.cons_append, List.cons_append, lexB, lexB, lexB_app xs ys t (by simpa using h)]

theorem lexB_under {x y z : List Int} (h1 : lexB y z = true) (h2 : lexB x z = false) : lexB x y = false := by
  cases h : lexB x y
  · rfl
  · rw [lexB_trans x y z h h1] at h2; cases h2

theorem minG_mem (L : List (List Int)) : ∀ i, i < L.length → minG L i ∈ L
  | 0, h => by rw [minG, List.getElem?_eq_getElem h]; exact List.getElem_mem h
  | i + 1, h => by
    rw [minG]; split
    · rw [List.getElem?_eq_getElem h]; exact List.getElem_mem h
    · exact minG_mem L i (by omega)

theorem minG_least (L : List (List Int)) : ∀ i j, j ≤ i → lexB (L[j]?.getD []) (minG L i) = false
  | 0, j, h => by obtain rfl : j = 0 := by omega
                  rw [minG]; exact lexB_self _
  | i + 1, j, h => by
    rw [minG]
    by_cases e : j = i + 1
    · subst e
      split
      · exact lexB_self _
      · rename_i hh; simpa using hh
    · have := minG_least L i j (by omega)
      split
      · rename_i hh; exact lexB_under hh this
      · exact this

theorem bestG_of (zs : List Int) (L : List (List Nat)) : ∀ i, (bestG zs L i).1 = lstP zs (bestG zs L i).2
  | 0 => rfl
  | i + 1 => by
    rw [bestG]; split
    · rfl
    · exact bestG_of zs L i

theorem bestG_least (zs : List Int) (L : List (List Nat)) : ∀ i j, j ≤ i → lexB (lstP zs (L[j]?.getD [])) (bestG zs L i).1 = false
  | 0, j, h => by obtain rfl : j = 0 := by omega
                  exact lexB_self _
  | i + 1, j, h => by
    rw [bestG]
    by_cases e : j = i + 1
    · subst e
      split
      · exact lexB_self _
      · rename_i hh; simpa using hh
    · have := bestG_least zs L i j (by omega)
      split
      · rename_i hh; exact lexB_under hh this
      · exact this

end Go.Proofs.YtgpgocijacgkhaaDoor

/- It is proved that the least of the map's keys is the least list of all names, and how many keys there are at most; conditions: those of each statement. -/
namespace Go.Proofs.YtgpgocijacgkhaaDoor
open Go.RowKit Go.Shelf Go.Maps

theorem min_best {D : DataW Unit} {zs : List Int} {L : List (List Nat)} {ys : List KeyS} (hTab : TabD zs D L) (hL : 0 < L.length) (hwf : ∀ p ∈ L, WfK (keyL zs (nI p))) (hC : CollE D (valsK ys)) :
    0 < ys.length ∧ minG (valsK ys) (ys.length - 1) = keyL zs (nI (bestG zs L (L.length - 1)).2) := by
  have hyl : (valsK ys).length = ys.length := by simp [valsK]
  have hin : ∀ p ∈ L, keyL zs (nI p) ∈ valsK ys := fun p hp => (hC.2.2 _ (hwf p hp)).2 ((hTab.has_ _).2 ⟨p, hp, rfl⟩)
  have hbL : (bestG zs L (L.length - 1)).2 ∈ L := bestG_in zs L _ (by omega)
  have hb := hin _ hbL
  have h0 : 0 < ys.length := by rw [← hyl]; exact List.length_pos_of_mem hb
  refine ⟨h0, ?_⟩
  have hm := minG_mem (valsK ys) (ys.length - 1) (by rw [hyl]; omega)
  have hmw := hC.2.1 _ hm
  obtain ⟨p, hp, hpe⟩ := (hTab.has_ _).1 ((hC.2.2 _ hmw).1 hm)
  have hme := keyLit_inj hmw (hwf p hp) hpe
  apply lexB_eq
  · rw [hme]
    unfold keyL
    rw [lexB_app _ _ _ (by simp)]
    have e := bestG_of zs L (L.length - 1)
    unfold lstP at e
    rw [← e]
    obtain ⟨j, hj, hje⟩ := List.getElem_of_mem hp
    have := bestG_least zs L (L.length - 1) j (by omega)
    rw [List.getElem?_eq_getElem hj, Option.getD_some, hje] at this
    exact this
  · obtain ⟨j, hj, hje⟩ := List.getElem_of_mem hb
    have := minG_least (valsK ys) (ys.length - 1) j (by omega)
    rw [List.getElem?_eq_getElem hj, Option.getD_some, hje] at this
    exact this

theorem nodup_le {α : Type} : ∀ {l m : List α}, l.Nodup → (∀ x ∈ l, x ∈ m) → l.length ≤ m.length
  | [], _, _, _ => by simp
  | x :: l, m, hn, h => by
    classical
    have hx := h x (by simp)
    have hn' := List.nodup_cons.1 hn
    have h1 := nodup_le (l := l) (m := m.erase x) hn'.2 (fun y hy => (List.mem_erase_of_ne (fun (e : y = x) => hn'.1 (by rw [← e]; exact hy))).2 (h y (by simp [hy])))
    rw [List.length_erase_of_mem hx] at h1
    have := List.length_pos_of_mem hx
    simp; omega

theorem coll_len {D : DataW Unit} {zs : List Int} {L : List (List Nat)} {ys : List KeyS} (hTab : TabD zs D L) (hwf : ∀ p ∈ L, WfK (keyL zs (nI p))) (hC : CollE D (valsK ys)) : ys.length ≤ L.length := by
  have h := nodup_le (m := L.map fun p => keyL zs (nI p)) hC.1 (fun K hK => by
    have hw := hC.2.1 K hK
    obtain ⟨p, hp, e⟩ := (hTab.has_ _).1 ((hC.2.2 K hw).1 hK)
    exact List.mem_map.2 ⟨p, hp, (keyLit_inj hw (hwf p hp) e).symm⟩)
  simpa [valsK] using h

theorem tab_size {w : World} {b n : Nat} {D : DataW Unit} {zs : List Int} {L : List (List Nat)} (hown : OwnT w b n D) (hTab : TabD zs D L) : Maps.size D ≤ L.length := by
  obtain ⟨es, rfl, hpw, hk⟩ := hown.entries keyLaw
  have h := nodup_le (l := es.map fun p => p.1) (m := L.map fun p => keyLit (keyL zs (nI p))) (List.pairwise_map.2 hpw) (fun l hl => by
    obtain ⟨p, hp, rfl⟩ := List.mem_map.1 hl
    have hh : Maps.has (.map es) p.1 = true := by
      rw [has_eq, List.any_eq_true]
      exact ⟨p, hp, WideAt.sameKey_self (hk p hp)⟩
    obtain ⟨q, hq, e⟩ := (hTab.has_ _).1 hh
    exact List.mem_map.2 ⟨q, hq, e.symm⟩)
  rw [size_eq]
  simpa using h

end Go.Proofs.YtgpgocijacgkhaaDoor
