/- It is proved what slices.MinFunc returns for lists of clubs by their compare; conditions: those of each statement. -/
import Derived.Deep.RegionHeld3
import Derived.RowKit
import Derived.Laws.CopyRow
import Derived.Lib.SlBuf
import Derived.RangeFuncNested
import Derived.RangeFuncBound
import Derived.RangeFuncCalls
import Derived.RangeFuncLeaves
import Derived.RangeFuncBox
import Derived.RangeFuncWrites
import Derived.Test.YtjclfpcnfmpjdaaDoorRows
import Derived.WalkKit
import Derived.WalkSpells
import Derived.ProofKit
import Derived.OpenShut
import Derived.ShutString
import Derived.ChangeOld
import Derived.Below
import Derived.Deep.QuietTactic
import Derived.BigQuiet
import Derived.Lib.Hide
import Derived.Lib.SmallJoins
import Derived.Outline
import Derived.Laws.MakeOwn
import Derived.Laws.OwnMore
import Derived.IntWalk
import Derived.Lib.AppendZeros
import Derived.Maps.AppendAt
import Derived.Deep.AppendLies
import Derived.OwnWalk
import Derived.Lib.SlicesCompact
import Derived.Lib.OwnBridge
import Derived.Shelf.Sort.Plain
import Derived.Shelf.Slices.In.SortNone
import Derived.Shelf.Slices.CompactI
import Derived.Ground.Names2Prog
import Derived.Shelf.Abstract
import Derived.Shelf.RegionOpen
import Derived.OwnWalkIn
import Derived.TacticsInMore
import Derived.LoopNIn
import Derived.LoopIn
import Derived.StillTail
import Derived.StillTactics
import Derived.OrdersIn
import Derived.TacticsIn
import Derived.Shelf.Spec.TrailingZeros
import Derived.StillTailTactics
import Derived.Test.YtjclfpcnfmpjdaaDoorMra
import Derived.Test.YtjclfpcnfmpjdaaDoorMrb
import Derived.Test.YtjclfpcnfmpjdaaDoorBn
import Derived.Test.YtjclfpcnfmpjdaaDoorBo
namespace Go.Proofs.YtjclfpcnfmpjdaaDoor
open Go.RowKit Go.Shelf

/-- Arrays of eight ints, one behind the other. -/
def Arr8 (W : World) (g : Nat) (L : List (List Int)) : Prop := ∀ i, i < L.length → (L[i]?.getD []).length = 8 ∧ ∀ j, j < 8 → W.cell? ⟨g, i * 8 + j, none⟩ = some (.int .i64 ((L[i]?.getD [])[j]?.getD 0))

theorem Arr8.below {W W' : World} {B g : Nat} {L : List (List Int)} (h : Arr8 W g L) (hb : Below B W W') (hg : g < B) : Arr8 W' g L := fun i hi => ⟨(h i hi).1, fun j hj => (hb.cell (p := ⟨g, i * 8 + j, none⟩) hg).trans ((h i hi).2 j hj)⟩
theorem Arr8.at8 {W : World} {g : Nat} {L : List (List Int)} (h : Arr8 W g L) {i : Nat} (hi : i < L.length) : ∃ y0 y1 y2 y3 y4 y5 y6 y7 : Int, L[i]?.getD [] = [y0, y1, y2, y3, y4, y5, y6, y7] ∧ W.cell? ⟨g, i * 8, none⟩ = some (.int .i64 y0) ∧ W.cell? ⟨g, i * 8 + 1, none⟩ = some (.int .i64 y1) ∧ W.cell? ⟨g, i * 8 + 2, none⟩ = some (.int .i64 y2) ∧ W.cell? ⟨g, i * 8 + 3, none⟩ = some (.int .i64 y3) ∧ W.cell? ⟨g, i * 8 + 4, none⟩ = some (.int .i64 y4) ∧ W.cell? ⟨g, i * 8 + 5, none⟩ = some (.int .i64 y5) ∧ W.cell? ⟨g, i * 8 + 6, none⟩ = some (.int .i64 y6) ∧ W.cell? ⟨g, i * 8 + 7, none⟩ = some (.int .i64 y7) := by
  obtain ⟨h8, hc⟩ := h i hi
  obtain ⟨y0, y1, y2, y3, y4, y5, y6, y7, hy⟩ := eight h8
  rw [hy] at hc
  exact ⟨y0, y1, y2, y3, y4, y5, y6, y7, hy, hc 0 (by decide), hc 1 (by decide), hc 2 (by decide), hc 3 (by decide), hc 4 (by decide), hc 5 (by decide), hc 6 (by decide), hc 7 (by decide)⟩

theorem store8u {W : World} {R t : Nat} {K : List Int} (hk : K.length = 8) (h : Nums W R t K) (u0 u1 u2 u3 u4 u5 u6 u7 : Int) : ∃ W', ((((((((W.setCell ⟨R, 0, none⟩ (.int .i64 u0)).setCell ⟨R, 1, none⟩ (.int .i64 u1)).setCell ⟨R, 2, none⟩ (.int .i64 u2)).setCell ⟨R, 3, none⟩ (.int .i64 u3)).setCell ⟨R, 4, none⟩ (.int .i64 u4)).setCell ⟨R, 5, none⟩ (.int .i64 u5)).setCell ⟨R, 6, none⟩ (.int .i64 u6)).setCell ⟨R, 7, none⟩ (.int .i64 u7)) = W' ∧ Nums W' R t [u0, u1, u2, u3, u4, u5, u6, u7] ∧ ∀ (B : Nat), B ≤ R → Below B W W' := by
  refine ⟨_, rfl, ?_, fun B hB => ?_⟩
  · obtain ⟨x0, x1, x2, x3, x4, x5, x6, x7, rfl⟩ := eight hk
    exact (((((((h.set 0 u0).set 1 u1).set 2 u2).set 3 u3).set 4 u4).set 5 u5).set 6 u6).set 7 u7
  · exact (((((((((Below.refl B W).setCell (p := ⟨R, 0, none⟩) hB _).setCell (p := ⟨R, 1, none⟩) hB _).setCell (p := ⟨R, 2, none⟩) hB _).setCell (p := ⟨R, 3, none⟩) hB _).setCell (p := ⟨R, 4, none⟩) hB _).setCell (p := ⟨R, 5, none⟩) hB _).setCell (p := ⟨R, 6, none⟩) hB _).setCell (p := ⟨R, 7, none⟩) hB _)

/-- The least of the first lists, the first of equals. -/
def minG (L : List (List Int)) : Nat → List Int
  | 0 => L[0]?.getD []
  | i + 1 => if lexB (L[i + 1]?.getD []) (minG L i) then L[i + 1]?.getD [] else minG L i

theorem minG_len {L : List (List Int)} (h : ∀ i, i < L.length → (L[i]?.getD []).length = 8) : ∀ i, i < L.length → (minG L i).length = 8
  | 0, hi => h 0 hi
  | i + 1, hi => by
    rw [minG]; split
    · exact h _ hi
    · exact minG_len h i (by omega)

set_option maxRecDepth 100000 in
set_option maxHeartbeats 4000000 in
theorem minFunc_any (g c n : Nat) (L : List (List Int)) (w : World) (hL : L.length = n) (hn : 0 < n) (hn2 : n ≤ 100000) (hg : g < w.heap.size) (hA : Arr8 w g L) :
    Calls Tryd.prog 77 #[.slice (some ⟨g, 0, none⟩) n c, .func (.func 80) #[] #[]] w fun e w' => e = .returned (.agg (iv (minG L (n - 1)))) ∧ Below w.heap.size w w' := by
  have hnI : (0 : Int) < (n : Int) := by omega
  have hn1 : ¬ ((n : Int) < 1) := by omega
  have hb1 := below1 w (.cells (iv z8) 57)
  have hA1 := hA.below hb1 hg
  have hs1 : (w.alloc (.cells (iv z8) 57)).heap.size = w.heap.size + 1 := by simp
  have q1 := alloc_new w (.cells (iv z8) 57)
  obtain ⟨w1, hw1⟩ : ∃ w1, w.alloc (.cells (iv z8) 57) = w1 := ⟨_, rfl⟩
  rw [hw1] at hb1 hA1 hs1 q1
  obtain ⟨y0, y1, y2, y3, y4, y5, y6, y7, hy, c0, c1, c2, c3, c4, c5, c6, c7⟩ := hA1.at8 (i := 0) (by rw [hL]; exact hn)
  simp only [Nat.zero_mul, Nat.zero_add] at c0 c1 c2 c3 c4 c5 c6 c7
  have hb2 : Below w.heap.size w (w1.alloc (.cells (iv (minG L 0)) 57)) := hb1.alloc (by omega) _
  have hA2 : Arr8 (w1.alloc (.cells (iv (minG L 0)) 57)) g L := hA.below hb2 hg
  have q2 : HasBlk (w1.alloc (.cells (iv (minG L 0)) 57)) (w.heap.size + 1) (iv (minG L 0)) 57 := by rw [← hs1]; exact alloc_new w1 _
  have hs2 : (w1.alloc (.cells (iv (minG L 0)) 57)).heap.size = w.heap.size + 1 + 1 := by simp; omega
  have q12 : HasBlk (w1.alloc (.cells (iv (minG L 0)) 57)) w.heap.size (iv z8) 57 := HasBlk.alloc q1 _
  obtain ⟨w2, hw2⟩ : ∃ w2, w1.alloc (.cells (iv (minG L 0)) 57) = w2 := ⟨_, rfl⟩
  rw [hw2] at hb2 hA2 q2 hs2 q12
  rw [show iv z8 = #[.int .i64 0, .int .i64 0, .int .i64 0, .int .i64 0, .int .i64 0, .int .i64 0, .int .i64 0, .int .i64 0] from rfl] at hw1
  rw [minG, hy, show iv [y0, y1, y2, y3, y4, y5, y6, y7] = #[.int .i64 y0, .int .i64 y1, .int .i64 y2, .int .i64 y3, .int .i64 y4, .int .i64 y5, .int .i64 y6, .int .i64 y7] from rfl] at hw2
  have HB2 := Lib.hid hb2
  have HA2 := Lib.hid hA2
  have HQ2 := Lib.hid q2
  have HQ12 := Lib.hid q12
  have HS2 := Lib.hid hs2
  have HLN := Lib.hid hL
  have HA := Lib.hid hA
  clear hb1 hA1 q1 hb2 hA2 q2 q12 hs2 hy hA hL
  go_enter Tryd.func77, Tryd.ntmps77
  go_wp2
  go_loopw [6] (fun i wr => ∃ (j : Nat), 1 ≤ j ∧ j ≤ n ∧ i = .int .i64 (j : Int) ∧ HasBlk wr (w.heap.size + 1) (iv (minG L (j - 1))) 57 ∧ HasBlk wr w.heap.size (iv z8) 57 ∧ Below w.heap.size w wr ∧ w.heap.size + 1 + 1 ≤ wr.heap.size) (fun i _ => n - (intOf i).toNat)
  case atStart => exact ⟨1, Nat.le_refl _, hn, rfl, HQ2.out, HQ12.out, HB2.out, by have := HS2.out; omega⟩
  case round =>
    obtain ⟨j, hj1, hj, rfl, hq, hqr, hB, hsz⟩ := hrel
    by_cases hlt : j < n
    · obtain ⟨wo, hwo⟩ : ∃ wo, wo = wr := ⟨wr, rfl⟩
      subst hwo
      have hjl : j < L.length := by rw [HLN.out]; exact hlt
      have h8 : ∀ i, i < L.length → (L[i]?.getD []).length = 8 := fun i hi => (HA.out i hi).1
      have hmlen : (minG L (j - 1)).length = 8 := minG_len h8 _ (by omega)
      obtain ⟨x, hx⟩ : ∃ x, x = L[j]?.getD [] := ⟨_, rfl⟩
      obtain ⟨mm, hm⟩ : ∃ mm, mm = minG L (j - 1) := ⟨_, rfl⟩
      have hxl : x.length = 8 := by rw [hx]; exact h8 j hjl
      rw [← hm] at hmlen hq
      obtain ⟨pb, hpb⟩ : ∃ pb, pb = lexB x mm := ⟨_, rfl⟩
      have HNX : Hid (minG L (j + 1 - 1) = if pb then x else mm) := Lib.hid (by
        rw [show j + 1 - 1 = (j - 1) + 1 from by omega, minG, show j - 1 + 1 = j from by omega, ← hx, ← hm, ← hpb])
      have hc := cmpList_any x mm hxl hmlen wo.drew
      obtain ⟨z, hz⟩ : ∃ z, z = cmpZ x mm := ⟨_, rfl⟩
      rw [← hz] at hc
      have hzp : decide (z < 0) = pb := by
        rw [hz, hpb]; unfold cmpZ
        cases lexB x mm
        · rw [if_neg (by decide)]; split <;> decide
        · rw [if_pos rfl]; decide
      have HAo := HA.out.below hB hg
      obtain ⟨u0, u1, u2, u3, u4, u5, u6, u7, hu, d0, d1, d2, d3, d4, d5, d6, d7⟩ := HAo.at8 (i := j) hjl
      rw [← hx] at hu
      obtain ⟨v0, v1, v2, v3, v4, v5, v6, v7, hv⟩ := eight hmlen
      have HU := Lib.hid hu
      have HV := Lib.hid hv
      rw [hu, hv, show iv [u0, u1, u2, u3, u4, u5, u6, u7] = #[.int .i64 u0, .int .i64 u1, .int .i64 u2, .int .i64 u3, .int .i64 u4, .int .i64 u5, .int .i64 u6, .int .i64 u7] from rfl, show iv [v0, v1, v2, v3, v4, v5, v6, v7] = #[.int .i64 v0, .int .i64 v1, .int .i64 v2, .int .i64 v3, .int .i64 v4, .int .i64 v5, .int .i64 v6, .int .i64 v7] from rfl] at hc
      rw [hv] at hq
      have e0 := blk_cell hq 0
      have e1 := blk_cell hq 1
      have e2 := blk_cell hq 2
      have e3 := blk_cell hq 3
      have e4 := blk_cell hq 4
      have e5 := blk_cell hq 5
      have e6 := blk_cell hq 6
      have e7 := blk_cell hq 7
      rw [show iv [v0, v1, v2, v3, v4, v5, v6, v7] = #[.int .i64 v0, .int .i64 v1, .int .i64 v2, .int .i64 v3, .int .i64 v4, .int .i64 v5, .int .i64 v6, .int .i64 v7] from rfl] at e0 e1 e2 e3 e4 e5 e6 e7
      have hgl : g < wo.heap.size := by omega
      have HKE : Hid (∀ w', Below wo.heap.size wo w' → w'.cell? ⟨g, j * 8, none⟩ = some (.int .i64 u0) ∧ w'.cell? ⟨g, j * 8 + 1, none⟩ = some (.int .i64 u1) ∧ w'.cell? ⟨g, j * 8 + 2, none⟩ = some (.int .i64 u2) ∧ w'.cell? ⟨g, j * 8 + 3, none⟩ = some (.int .i64 u3) ∧ w'.cell? ⟨g, j * 8 + 4, none⟩ = some (.int .i64 u4) ∧ w'.cell? ⟨g, j * 8 + 5, none⟩ = some (.int .i64 u5) ∧ w'.cell? ⟨g, j * 8 + 6, none⟩ = some (.int .i64 u6) ∧ w'.cell? ⟨g, j * 8 + 7, none⟩ = some (.int .i64 u7) ∧ w'.cell? ⟨w.heap.size + 1, 0, none⟩ = some (.int .i64 v0) ∧ w'.cell? ⟨w.heap.size + 1, 1, none⟩ = some (.int .i64 v1) ∧ w'.cell? ⟨w.heap.size + 1, 2, none⟩ = some (.int .i64 v2) ∧ w'.cell? ⟨w.heap.size + 1, 3, none⟩ = some (.int .i64 v3) ∧ w'.cell? ⟨w.heap.size + 1, 4, none⟩ = some (.int .i64 v4) ∧ w'.cell? ⟨w.heap.size + 1, 5, none⟩ = some (.int .i64 v5) ∧ w'.cell? ⟨w.heap.size + 1, 6, none⟩ = some (.int .i64 v6) ∧ w'.cell? ⟨w.heap.size + 1, 7, none⟩ = some (.int .i64 v7) ∧ Below wo.heap.size wo w') := Lib.hid (fun w' h => ⟨(h.cell (p := ⟨g, j * 8, none⟩) hgl).trans d0, (h.cell (p := ⟨g, j * 8 + 1, none⟩) hgl).trans d1, (h.cell (p := ⟨g, j * 8 + 2, none⟩) hgl).trans d2, (h.cell (p := ⟨g, j * 8 + 3, none⟩) hgl).trans d3, (h.cell (p := ⟨g, j * 8 + 4, none⟩) hgl).trans d4, (h.cell (p := ⟨g, j * 8 + 5, none⟩) hgl).trans d5, (h.cell (p := ⟨g, j * 8 + 6, none⟩) hgl).trans d6, (h.cell (p := ⟨g, j * 8 + 7, none⟩) hgl).trans d7, (h.cell (p := ⟨w.heap.size + 1, 0, none⟩) (show w.heap.size + 1 < wo.heap.size by omega)).trans e0, (h.cell (p := ⟨w.heap.size + 1, 1, none⟩) (show w.heap.size + 1 < wo.heap.size by omega)).trans e1, (h.cell (p := ⟨w.heap.size + 1, 2, none⟩) (show w.heap.size + 1 < wo.heap.size by omega)).trans e2, (h.cell (p := ⟨w.heap.size + 1, 3, none⟩) (show w.heap.size + 1 < wo.heap.size by omega)).trans e3, (h.cell (p := ⟨w.heap.size + 1, 4, none⟩) (show w.heap.size + 1 < wo.heap.size by omega)).trans e4, (h.cell (p := ⟨w.heap.size + 1, 5, none⟩) (show w.heap.size + 1 < wo.heap.size by omega)).trans e5, (h.cell (p := ⟨w.heap.size + 1, 6, none⟩) (show w.heap.size + 1 < wo.heap.size by omega)).trans e6, (h.cell (p := ⟨w.heap.size + 1, 7, none⟩) (show w.heap.size + 1 < wo.heap.size by omega)).trans e7, h⟩)
      have HQO := Lib.hid hq
      have HQR := Lib.hid hqr
      have HBO := Lib.hid hB
      have hDr : Below wo.heap.size wo wo.drew := (Below.refl _ wo).drew
      have hjI : (j : Int) < (n : Int) := by omega
      have hj0 : (0 : Int) ≤ (j : Int) := by omega
      clear hx hm hxl hmlen hpb hz h8 hu hv hq hqr hB HAo d0 d1 d2 d3 d4 d5 d6 d7 e0 e1 e2 e3 e4 e5 e6 e7
      go_wp2
      go_region_held3 (fun w' => w'.cell? ⟨g, j * 8, none⟩ = some (.int .i64 u0) ∧ w'.cell? ⟨g, j * 8 + 1, none⟩ = some (.int .i64 u1) ∧ w'.cell? ⟨g, j * 8 + 2, none⟩ = some (.int .i64 u2) ∧ w'.cell? ⟨g, j * 8 + 3, none⟩ = some (.int .i64 u3) ∧ w'.cell? ⟨g, j * 8 + 4, none⟩ = some (.int .i64 u4) ∧ w'.cell? ⟨g, j * 8 + 5, none⟩ = some (.int .i64 u5) ∧ w'.cell? ⟨g, j * 8 + 6, none⟩ = some (.int .i64 u6) ∧ w'.cell? ⟨g, j * 8 + 7, none⟩ = some (.int .i64 u7) ∧ w'.cell? ⟨w.heap.size + 1, 0, none⟩ = some (.int .i64 v0) ∧ w'.cell? ⟨w.heap.size + 1, 1, none⟩ = some (.int .i64 v1) ∧ w'.cell? ⟨w.heap.size + 1, 2, none⟩ = some (.int .i64 v2) ∧ w'.cell? ⟨w.heap.size + 1, 3, none⟩ = some (.int .i64 v3) ∧ w'.cell? ⟨w.heap.size + 1, 4, none⟩ = some (.int .i64 v4) ∧ w'.cell? ⟨w.heap.size + 1, 5, none⟩ = some (.int .i64 v5) ∧ w'.cell? ⟨w.heap.size + 1, 6, none⟩ = some (.int .i64 v6) ∧ w'.cell? ⟨w.heap.size + 1, 7, none⟩ = some (.int .i64 v7) ∧ Below wo.heap.size wo w')
        (first
          | exact HKE.out _ hDr
          | exact HKE.out _ (hDr.trans hb9))
        (first
          | (go_at_call 80; refine hc.mono ?_; rintro e w9 ⟨rfl, hb9⟩))
      rename_i hHeld
      obtain ⟨f0, f1, f2, f3, f4, f5, f6, f7, -, -, -, -, -, -, -, -, hbw⟩ := hHeld
      have HQ9 : Hid (HasBlk w9 (w.heap.size + 1) (iv mm) 57) := Lib.hid ((hbw.block _ (by omega)).trans (by rw [HV.out]; exact HQO.out))
      have HQR9 : Hid (HasBlk w9 w.heap.size (iv z8) 57) := Lib.hid ((hbw.block _ (by omega)).trans HQR.out)
      have HB9 : Hid (Below w.heap.size w w9) := Lib.hid (HBO.out.trans (hbw.mono (by omega)))
      have hsz9 : w.heap.size + 1 + 1 ≤ w9.heap.size := by have := hbw.size; omega
      clear hbw hb9 hc hDr hzp
      cases pb
      · go_wp2
        go_roundw
        case rel => exact ⟨j + 1, by omega, by omega, by go_num, by rw [HNX.out]; exact HQ9.out, HQR9.out, HB9.out, hsz9⟩
        case measure => simp [intOf]; omega
      · have q9 := HQ9.out
        rw [HV.out, show iv [v0, v1, v2, v3, v4, v5, v6, v7] = #[.int .i64 v0, .int .i64 v1, .int .i64 v2, .int .i64 v3, .int .i64 v4, .int .i64 v5, .int .i64 v6, .int .i64 v7] from rfl] at q9
        have g0 := blk_cell q9 0
        have g1 := blk_cell q9 1
        have g2 := blk_cell q9 2
        have g3 := blk_cell q9 3
        have g4 := blk_cell q9 4
        have g5 := blk_cell q9 5
        have g6 := blk_cell q9 6
        have g7 := blk_cell q9 7
        have z0 := blk_frozen q9 0
        have z1 := blk_frozen q9 1
        have z2 := blk_frozen q9 2
        have z3 := blk_frozen q9 3
        have z4 := blk_frozen q9 4
        have z5 := blk_frozen q9 5
        have z6 := blk_frozen q9 6
        have z7 := blk_frozen q9 7
        obtain ⟨Wf, hWf, hF, hBf⟩ := store8u (K := mm) (by rw [HV.out]; rfl) HQ9.out u0 u1 u2 u3 u4 u5 u6 u7
        have HWF := Lib.hid hWf
        have HNF : Hid (HasBlk Wf (w.heap.size + 1) (iv x) 57) := Lib.hid (by rw [HU.out]; exact hF)
        have hbf := hBf (w.heap.size + 1) (Nat.le_refl _)
        have HQRF : Hid (HasBlk Wf w.heap.size (iv z8) 57) := Lib.hid ((hbf.block _ (by omega)).trans HQR9.out)
        have HBF : Hid (Below w.heap.size w Wf) := Lib.hid (HB9.out.trans (hbf.mono (by omega)))
        have hszf : w.heap.size + 1 + 1 ≤ Wf.heap.size := Nat.le_trans hsz9 hbf.size
        clear q9 hWf hF hBf hbf
        go_wp2
        rw [HWF.out]
        go_roundw
        case rel => exact ⟨j + 1, by omega, by omega, by go_num, by rw [HNX.out]; exact HNF.out, HQRF.out, HBF.out, hszf⟩
        case measure => simp [intOf]; omega
    · obtain rfl : j = n := by omega
      have h8 : (minG L (j - 1)).length = 8 := minG_len (fun i hi => (HA.out i hi).1) _ (by have := HLN.out; omega)
      obtain ⟨v0, v1, v2, v3, v4, v5, v6, v7, hv⟩ := eight h8
      rw [hv, show iv [v0, v1, v2, v3, v4, v5, v6, v7] = #[.int .i64 v0, .int .i64 v1, .int .i64 v2, .int .i64 v3, .int .i64 v4, .int .i64 v5, .int .i64 v6, .int .i64 v7] from rfl] at hq
      have HV : Hid (minG L (j - 1) = [v0, v1, v2, v3, v4, v5, v6, v7]) := Lib.hid hv
      have e0 := blk_cell hq 0
      have e1 := blk_cell hq 1
      have e2 := blk_cell hq 2
      have e3 := blk_cell hq 3
      have e4 := blk_cell hq 4
      have e5 := blk_cell hq 5
      have e6 := blk_cell hq 6
      have e7 := blk_cell hq 7
      have hqr' := hqr
      rw [show iv z8 = #[.int .i64 0, .int .i64 0, .int .i64 0, .int .i64 0, .int .i64 0, .int .i64 0, .int .i64 0, .int .i64 0] from rfl] at hqr'
      have g0 := blk_cell hqr' 0
      have g1 := blk_cell hqr' 1
      have g2 := blk_cell hqr' 2
      have g3 := blk_cell hqr' 3
      have g4 := blk_cell hqr' 4
      have g5 := blk_cell hqr' 5
      have g6 := blk_cell hqr' 6
      have g7 := blk_cell hqr' 7
      have z0 := blk_frozen hqr 0
      have z1 := blk_frozen hqr 1
      have z2 := blk_frozen hqr 2
      have z3 := blk_frozen hqr 3
      have z4 := blk_frozen hqr 4
      have z5 := blk_frozen hqr 5
      have z6 := blk_frozen hqr 6
      have z7 := blk_frozen hqr 7
      obtain ⟨Wf, hWf, hF, hBf⟩ := store8u (K := z8) rfl hqr v0 v1 v2 v3 v4 v5 v6 v7
      have HWF := Lib.hid hWf
      have HFB : Hid (Below w.heap.size w Wf) := Lib.hid (hB.trans (hBf _ (Nat.le_refl _)))
      have r0 : Wf.cell? ⟨w.heap.size, 0, none⟩ = some (.int .i64 v0) := by have := hF.cell 0 (by simp); simpa using this
      have r1 : Wf.cell? ⟨w.heap.size, 1, none⟩ = some (.int .i64 v1) := by have := hF.cell 1 (by simp); simpa using this
      have r2 : Wf.cell? ⟨w.heap.size, 2, none⟩ = some (.int .i64 v2) := by have := hF.cell 2 (by simp); simpa using this
      have r3 : Wf.cell? ⟨w.heap.size, 3, none⟩ = some (.int .i64 v3) := by have := hF.cell 3 (by simp); simpa using this
      have r4 : Wf.cell? ⟨w.heap.size, 4, none⟩ = some (.int .i64 v4) := by have := hF.cell 4 (by simp); simpa using this
      have r5 : Wf.cell? ⟨w.heap.size, 5, none⟩ = some (.int .i64 v5) := by have := hF.cell 5 (by simp); simpa using this
      have r6 : Wf.cell? ⟨w.heap.size, 6, none⟩ = some (.int .i64 v6) := by have := hF.cell 6 (by simp); simpa using this
      have r7 : Wf.cell? ⟨w.heap.size, 7, none⟩ = some (.int .i64 v7) := by have := hF.cell 7 (by simp); simpa using this
      clear hq hqr hqr' hB hWf hF hBf hv h8
      go_wp2
      rw [HWF.out]
      refine bodyPost_ret (v := .agg #[.int .i64 v0, .int .i64 v1, .int .i64 v2, .int .i64 v3, .int .i64 v4, .int .i64 v5, .int .i64 v6, .int .i64 v7]) (by simp [results, Tryd.results77, go_sem, r0, r1, r2, r3, r4, r5, r6, r7]) rfl ⟨by rw [HV.out]; rfl, HFB.out⟩

end Go.Proofs.YtjclfpcnfmpjdaaDoor
