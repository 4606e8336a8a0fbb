/- It is proved what roads and leastCovers return; conditions: those of each statement. -/
import Derived.RowKit
import Derived.Laws.CopyRow
import Derived.Lib.SlBuf
import Derived.Deep.QuietTactic
import Derived.RangeFuncNested
import Derived.RangeFuncBound
import Derived.RangeFuncCalls
import Derived.RangeFuncLeaves
import Derived.RangeFuncBox
import Derived.RangeFuncWrites
import Derived.StillTailTactics
import Derived.Maps.OwnIn
import Derived.Maps.Ext
import Derived.DeepKeys4
import Derived.MapKept
import Derived.Test.YtlfnjoogcenlhaaDoorRows
import Derived.WalkKit
import Derived.WalkSpells
import Derived.ProofKit
import Derived.OpenShut
import Derived.ShutString
import Derived.ChangeOld
import Derived.Below
import Derived.Deep.RegionHeld3
import Derived.BigQuiet
import Derived.Lib.Hide
import Derived.Lib.SmallJoins
import Derived.Outline
import Derived.Laws.MakeOwn
import Derived.Laws.OwnMore
import Derived.IntWalk
import Derived.Lib.AppendZeros
import Derived.Maps.AppendAt
import Derived.Deep.AppendLies
import Derived.OwnWalk
import Derived.Lib.SlicesCompact
import Derived.Lib.OwnBridge
import Derived.OrdersIn
import Derived.TacticsIn
import Derived.Shelf.Sort.Plain
import Derived.Shelf.Slices.In.SortNone
import Derived.Shelf.Slices.CompactI
import Derived.Ground.Names2Prog
import Derived.Lib.SliceRun
import Derived.Shelf.Abstract
import Derived.Shelf.RegionOpen
import Derived.OwnWalkIn
import Derived.TacticsInMore
import Derived.LoopNIn
import Derived.LoopIn
import Derived.StillTail
import Derived.StillTactics
import Derived.Shelf.Spec.TrailingZeros
import Derived.Test.YtlfnjoogcenlhaaDoorMzaa
import Derived.Test.YtlfnjoogcenlhaaDoorMzau
import Derived.Test.YtlfnjoogcenlhaaDoorMzab
import Derived.Test.YtlfnjoogcenlhaaDoorMzaf
import Derived.Test.YtlfnjoogcenlhaaDoorMzap
import Derived.Test.YtlfnjoogcenlhaaDoorKc
import Derived.Test.YtlfnjoogcenlhaaDoorMzaw
import Derived.Test.YtlfnjoogcenlhaaDoorMzae
import Derived.Test.YtlfnjoogcenlhaaDoorMzac
import Derived.Test.YtlfnjoogcenlhaaDoorMzaq
namespace Go.Proofs.YtlfnjoogcenlhaaDoor
open Go.RowKit Go.Shelf

theorem roads_any (w : World) :
    Calls Tryd.prog 62 #[] w fun e w' => e = .returned (.slice (some ⟨w.heap.size, 0, none⟩) 3 3) ∧ w' = w.alloc (.cells #[.func (.func 80) #[] #[], .func (.func 81) #[] #[], .func (.func 82) #[] #[]] 58) := by
  go_enter Tryd.func62, Tryd.ntmps62
  go_wp2
  go_ret
  exact ⟨rfl, rfl⟩

/-- What leastCovers tells. -/
def lcZ (m : Int) (zs : List Int) : List Int := if famIn m zs then lcL m.toNat zs else []

theorem lcZ_len (m : Int) (zs : List Int) : (lcZ m zs).length ≤ 1048576 := by
  unfold lcZ
  cases h : famIn m zs
  · simp
  · obtain ⟨h1, h2, -, -⟩ := famIn_out h
    have := lcL_len (m := m.toNat) (by omega) zs
    simp only [if_true]
    omega

theorem fam_nat {m : Int} {zs : List Int} (h : famIn m zs = true) : ∃ k : Nat, m = (k : Int) ∧ 1 ≤ k ∧ k ≤ 6 ∧ Sets k zs ∧ zs.length ≤ 8 := by
  obtain ⟨h1, h2, h3, -⟩ := famIn_out h
  obtain ⟨k, rfl⟩ : ∃ k : Nat, m = (k : Int) := ⟨m.toNat, by omega⟩
  exact ⟨k, rfl, by omega, by omega, sets_of_fam h, h3⟩

set_option maxRecDepth 100000 in
set_option maxHeartbeats 2000000 in
theorem least0_any (m : Int) (a : Option Addr) (c : Nat) (zs : List Int) (w : World) (ha : Ints w w.heap.size a zs) (hx : zs.length ≤ 1048576) :
    Calls Tryd.prog 38 #[.int .i64 0, .agg #[.int .i64 m, .slice a zs.length c]] w (RetSB w (lcZ m zs) (famIn m zs)) := by
  unfold lcZ
  have HB0 := Lib.hid (below1 w (.cells #[.int .i64 m, .slice a zs.length c] 28))
  have HA := Lib.hid (ha.below HB0.out)
  clear ha
  cases hf : famIn m zs
  · have HF := Lib.hid hf
    clear hf
    go_enter Tryd.func38, Tryd.ntmps38
    go_wp2_with fail
    refine (implFamilyIn_any _ _ _ zs _ (HA.out.mono (by simp)) hx).mono ?_
    rintro e w1 ⟨rfl, hb⟩
    rw [HF.out]
    have HB := Lib.hid (HB0.out.trans (hb.mono (by simp)))
    clear hb
    go_wp2
    go_ret2
    exact ⟨none, 0, rfl, own_nil _ _, HB.out⟩
  · have HF := Lib.hid hf
    obtain ⟨k, rfl, hk1, hk6, hset, hl8⟩ := fam_nat hf
    clear hf
    go_enter Tryd.func38, Tryd.ntmps38
    go_wp2_with fail
    refine (implFamilyIn_any _ _ _ zs _ (HA.out.mono (by simp)) hx).mono ?_
    rintro e w1 ⟨rfl, hb⟩
    rw [HF.out]
    have b0 : w1.heap[w.heap.size]? = some (.cells #[.int .i64 (k : Int), .slice a zs.length c] 28 (0, 0)) := (hb.block _ (by simp)).trans (alloc_new w _)
    have x0 := (blk_cell b0 0).trans (cell2_0 _ _)
    have x1 := (blk_cell b0 1).trans (cell2_1 _ _)
    have z1 : w.heap.size < w1.heap.size := lt_of_some b0
    obtain ⟨W2, hW2, c0, hs2, hb2⟩ : ∃ W2, w1.drew.alloc (.cells #[.func (.func 80) #[] #[], .func (.func 81) #[] #[], .func (.func 82) #[] #[]] 58) = W2 ∧
      HasBlk W2 w1.heap.size #[.func (.func 80) #[] #[], .func (.func 81) #[] #[], .func (.func 82) #[] #[]] 58 ∧ W2.heap.size = w1.heap.size + 1 ∧ Below w1.heap.size w1 W2 :=
      ⟨_, rfl, alloc_new w1.drew _, by simp, (Below.refl _ w1).drew.trans (below1 w1.drew _)⟩
    have y0 := (hb2.cell (p := ⟨w.heap.size, 0, none⟩) z1).trans x0
    have y1 := (hb2.cell (p := ⟨w.heap.size, 1, none⟩) z1).trans x1
    have e0 : W2.cell? ⟨w1.heap.size, 0, none⟩ = some (.func (.func 80) #[] #[]) := (blk_cell c0 0).trans rfl
    have e1 : W2.cell? ⟨w1.heap.size, 1, none⟩ = some (.func (.func 81) #[] #[]) := (blk_cell c0 1).trans rfl
    have e2 : W2.cell? ⟨w1.heap.size, 2, none⟩ = some (.func (.func 82) #[] #[]) := (blk_cell c0 2).trans rfl
    have hI2 : Ints W2 W2.heap.size a zs := ((HA.out.below (hb.mono (by simp))).below (hb2.mono (by omega))).mono (by omega)
    have HC := Lib.hid (triedCovers_any k hk1 hk6 a c zs W2 hI2 (by omega) hset)
    have HB2 := Lib.hid ((HB0.out.trans (hb.mono (by simp))).trans (hb2.mono (by omega)))
    have hff := field_fam
    have HS2 := Lib.hid hs2
    have Z1 := Lib.hid z1
    clear hb b0 c0 hb2 hI2 hs2 z1
    go_wp2_with fail
    go_region_with (first
      | (go_at_call 62; refine (roads_any _).mono ?_; rintro e w3 ⟨rfl, rfl⟩)
      | (go_at_call 80; refine HC.out.mono ?_; rintro e w5 ⟨a5, c5, rfl, ho5, hb5⟩))
    all_goals
      have HO5 := Lib.hid (own_mono ho5 (B' := w.heap.size) (by have := HS2.out; have := Z1.out; omega))
      have HB5 := Lib.hid (HB2.out.trans (hb5.mono (by have := HS2.out; have := Z1.out; omega)))
      clear ho5 hb5
      go_wp2
      go_ret2
      exact ⟨a5, c5, rfl, HO5.out, HB5.out⟩

set_option maxRecDepth 100000 in
theorem implCoverSets_any (m : Int) (a : Option Addr) (c : Nat) (zs : List Int) (w : World) (ha : Ints w w.heap.size a zs) (hx : zs.length ≤ 1048576) :
    Calls Tryd.prog 14 #[.agg #[.int .i64 m, .slice a zs.length c]] w (RetSB w (lcZ m zs) (famIn m zs)) := by
  have HB0 := Lib.hid (below1 w (.cells #[.int .i64 m, .slice a zs.length c] 28))
  have HC := Lib.hid (least0_any m a c zs _ ((ha.below HB0.out).mono (show w.heap.size ≤ (w.alloc (.cells #[.int .i64 m, .slice a zs.length c] 28)).heap.size by simp)) hx)
  clear ha
  go_enter Tryd.func14, Tryd.ntmps14
  go_wp2_with fail
  refine HC.out.mono ?_
  rintro e w1 ⟨a1, c1, rfl, ho, hb⟩
  have HO := Lib.hid (own_mono ho (B' := w.heap.size) (by simp))
  have HB := Lib.hid (HB0.out.trans (hb.mono (by simp)))
  clear ho hb
  go_wp2
  go_ret2
  exact ⟨a1, c1, rfl, HO.out, HB.out⟩

end Go.Proofs.YtlfnjoogcenlhaaDoor

/- It is proved what the reference model's l4In and l4Sets return; conditions: those of each statement. -/
namespace Go.Proofs.YtlfnjoogcenlhaaDoor
open Go.RowKit

theorem covTo {zs : List Int} {s k : Nat} (hk : k < zs.length) (h : (zs[k]?.getD 0).toNat &&& s = 0) : covB zs s = false := by
  rw [Bool.eq_false_iff]
  intro hc
  refine covB_iff.1 hc _ (List.getElem_mem hk) ?_
  rwa [List.getElem?_eq_getElem hk] at h

theorem cov_all {zs : List Int} {s : Nat} (h : ∀ j, j < zs.length → (zs[j]?.getD 0).toNat &&& s ≠ 0) : covB zs s = true := by
  rw [covB_iff]
  intro z hz
  obtain ⟨j, hj, rfl⟩ := List.getElem_of_mem hz
  have := h j hj
  rwa [List.getElem?_eq_getElem hj] at this

set_option maxRecDepth 100000 in
set_option maxHeartbeats 1600000 in
theorem l4In_any (a : Option Addr) (c : Nat) (zs : List Int) (s : Nat) (w : World) (ha : Ints w w.heap.size a zs) (hx : zs.length ≤ 1048576) (hz : ∀ z ∈ zs, 0 ≤ z ∧ z.toNat < 64) (hs : s < 64) :
    Calls Tryd.prog 48 #[.slice a zs.length c, .int .i64 (s : Int)] w fun e w' => e = .returned (.bool (covB zs s)) ∧ w = w' := by
  obtain ⟨n, hn⟩ : ∃ n, n = zs.length := ⟨_, rfl⟩
  have HN := Lib.hid hn
  have HA := Lib.hid ha
  have HZ := Lib.hid hz
  rw [← hn] at hx ⊢
  clear ha hz hn
  go_enter Tryd.func48, Tryd.ntmps48
  go_wp2
  go_loop [5] (fun i => ∃ k : Nat, k ≤ n ∧ i = .int .i64 k ∧ ∀ j, j < k → (zs[j]?.getD 0).toNat &&& s ≠ 0) (fun i => n - (intOf i).toNat)
  case atStart => exact ⟨0, Nat.zero_le _, rfl, fun j hj => by omega⟩
  case round =>
    obtain ⟨k, hk, rfl, he⟩ := hrel
    by_cases hlt : k < n
    · obtain ⟨b1, o1, rfl, hb1, hc1⟩ := HA.out.at_ (k := k) (by rw [← HN.out]; exact hlt)
      have hm : zs[k]?.getD 0 ∈ zs := by
        rw [List.getElem?_eq_getElem (by rw [← HN.out]; exact hlt)]; exact List.getElem_mem _
      obtain ⟨z0, z1⟩ := HZ.out _ hm
      obtain ⟨z, hzz⟩ : ∃ z : Nat, zs[k]?.getD 0 = (z : Int) := ⟨(zs[k]?.getD 0).toNat, by omega⟩
      rw [hzz, Int.toNat_natCast] at z1
      rw [hzz] at hc1
      have HA6 := and6_at z s z1 hs
      have hk1 : (k : Int) < (n : Int) := by omega
      have HE := Lib.hid he
      have HZZ := Lib.hid hzz
      clear he hm z0 hzz
      by_cases h0 : z &&& s = 0
      · have HC : Hid (covB zs s = false) := Lib.hid (covTo (by rw [← HN.out]; exact hlt) (by rw [HZZ.out, Int.toNat_natCast]; exact h0))
        rw [h0] at HA6
        clear h0
        go_wp2
        go_ret
        exact ⟨by rw [HC.out]; rfl, rfl⟩
      · have HP : Hid (∀ j, j < k + 1 → (zs[j]?.getD 0).toNat &&& s ≠ 0) := Lib.hid (fun j hj => by
          by_cases e : j = k
          · subst e; rw [HZZ.out, Int.toNat_natCast]; exact h0
          · exact HE.out j (by omega))
        obtain ⟨u, hu⟩ : ∃ u : Nat, u = z &&& s := ⟨_, rfl⟩
        rw [← hu] at HA6 h0
        have hu0 : ((u : Int) == 0) = false := by rw [beq_eq_false_iff_ne]; omega
        clear h0 hu
        go_wp2
        go_round
        case rel => exact ⟨k + 1, by omega, by go_num, HP.out⟩
        case measure => simp [intOf]; omega
    · obtain rfl : k = n := by omega
      have HC : Hid (covB zs s = true) := Lib.hid (cov_all (by rw [← HN.out]; exact he))
      clear he
      go_wp2
      go_ret
      exact ⟨by rw [HC.out]; rfl, rfl⟩

end Go.Proofs.YtlfnjoogcenlhaaDoor

/- It is proved what FamilyDegrees of the model returns; conditions: those of each statement. -/
namespace Go.Proofs.YtlfnjoogcenlhaaDoor
open Go.RowKit

set_option maxRecDepth 100000 in
theorem bit_fin : ∀ s : Fin 64, ∀ v : Fin 6, bits BinOp.and IntKind.i64 ((s.val : Int) / 2 ^ v.val) 1 = (((s.val >>> v.val) &&& 1 : Nat) : Int) := by decide +kernel

theorem bit_at (s v : Nat) (hs : s < 64) (hv : v < 6) : bits BinOp.and IntKind.i64 ((s : Int) / 2 ^ v) 1 = (((s >>> v) &&& 1 : Nat) : Int) := bit_fin ⟨s, hs⟩ ⟨v, hv⟩
end Go.Proofs.YtlfnjoogcenlhaaDoor

/- It is proved how sums of degrees, sizes, unions and meetings of clubs count their members; conditions: those of each statement. -/
namespace Go.Proofs.YtlfnjoogcenlhaaDoor
open Go.RowKit

theorem bit_val {S v : Nat} (hS : S < 64) (hv : v < 6) : bits BinOp.and IntKind.i64 ((S : Int) / 2 ^ v) 1 = if S.testBit v then 1 else 0 := by
  rw [bit_at S v hS hv]
  have h1 : (S >>> v) &&& 1 = if S.testBit v then 1 else 0 := by
    rw [Nat.testBit, Nat.and_comm]
    have : 1 &&& (S >>> v) ≤ 1 := Nat.and_le_left
    by_cases h0 : 1 &&& (S >>> v) = 0
    · rw [h0]; rfl
    · rw [show 1 &&& (S >>> v) = 1 by omega]; rfl
  rw [h1]
  cases S.testBit v <;> rfl

end Go.Proofs.YtlfnjoogcenlhaaDoor
