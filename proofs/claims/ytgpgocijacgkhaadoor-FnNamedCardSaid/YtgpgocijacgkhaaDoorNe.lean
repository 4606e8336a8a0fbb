/- It is proved what l1Named returns; conditions: those of each statement. -/
import Derived.Test.YtgpgocijacgkhaaDoorRows
import Derived.WalkKit
import Derived.WalkSpells
import Derived.ProofKit
import Derived.OpenShut
import Derived.ShutString
import Derived.ChangeOld
import Derived.Below
import Derived.Deep.RegionHeld3
import Derived.Deep.QuietTactic
import Derived.BigQuiet
import Derived.Lib.Hide
import Derived.Lib.SmallJoins
import Derived.Outline
import Derived.Laws.MakeOwn
import Derived.Laws.OwnMore
import Derived.IntWalk
import Derived.RangeFuncNested
import Derived.RangeFuncBound
import Derived.RangeFuncCalls
import Derived.RangeFuncLeaves
import Derived.RangeFuncBox
import Derived.Shelf.Abstract
import Derived.Shelf.RegionOpen
import Derived.OwnWalkIn
import Derived.TacticsInMore
import Derived.LoopNIn
import Derived.LoopIn
import Derived.Maps.AppendAt
import Derived.Deep.AppendLies
import Derived.OwnWalk
import Derived.StillTail
import Derived.StillTactics
import Derived.OrdersIn
import Derived.TacticsIn
import Derived.Shelf.Spec.TrailingZeros
import Derived.StillTailTactics
import Derived.Test.YtgpgocijacgkhaaDoorRaaa
import Derived.Test.YtgpgocijacgkhaaDoorRaab
import Derived.Test.YtgpgocijacgkhaaDoorDb
import Derived.Test.YtgpgocijacgkhaaDoorNa
import Derived.Test.YtgpgocijacgkhaaDoorNd
import Derived.Test.YtgpgocijacgkhaaDoorRaac
import Derived.Test.YtgpgocijacgkhaaDoorTb
namespace Go.Proofs.YtgpgocijacgkhaaDoor
open Go.RowKit

theorem row_below {W W' : World} {B size n : Nat} {e : TypeId} {v : Value} {xs : List Value} (h : W.ownsRow B e size v n xs) (hb : Below W.heap.size W W') : W'.ownsRow B e size v n xs :=
  World.ownsRow.kept h (only_of_below hb none) (by cases v.ownBlock <;> simp)

/-- A club called by names. -/
def callZ (ps : List Int) (z : Int) : Int := ((called ps z.toNat : Nat) : Int)

set_option maxRecDepth 100000 in
set_option maxHeartbeats 2000000 in
theorem l1Named_any (m : Nat) (a b : Option Addr) (c d : Nat) (zs ps : List Int) (w : World) (ha : Ints w w.heap.size a zs) (hb : Ints w w.heap.size b ps) (hf : famIn (m : Int) zs = true) (hp : Okp m ps) :
    Calls Tryd.prog 58 #[.agg #[.int .i64 (m : Int), .slice a zs.length c], .slice b ps.length d] w (RetFam w m (zs.map (callZ ps))) := by
  obtain ⟨i0, hi0, hz0, hz1, hz2⟩ := info_parts Tryd.info3
  have hPc := isClub_all hf
  obtain ⟨hm1, hm6, hl8, -⟩ := famIn_out hf
  have hm6' : m ≤ 6 := by omega
  have HA := Lib.hid ha
  have HB := Lib.hid hb
  have HP := Lib.hid hp
  obtain ⟨n, hn⟩ : ∃ n, n = zs.length := ⟨_, rfl⟩
  have HN := Lib.hid hn
  obtain ⟨k0, hk0⟩ : ∃ k0, k0 = ps.length := ⟨_, rfl⟩
  have HK := Lib.hid hk0
  rw [← hn, ← hk0]
  have hl8' : n ≤ 8 := by omega
  have hPn : ∀ k, k < n → IsClub m (k, zs[k]?.getD 0) := fun k hk => hPc k (by omega)
  have hb3 := below3 w (.cells #[.int .i64 (m : Int), .slice a n c] 25) (.cells #[.int .i64 0, .slice none 0 0] 25) (.cells #[] 3)
  have HB3 := Lib.hid hb3
  have HQ0 : Hid (HasBlk (((w.alloc (.cells #[.int .i64 (m : Int), .slice a n c] 25)).alloc (.cells #[.int .i64 0, .slice none 0 0] 25)).alloc (.cells #[] 3)) w.heap.size #[.int .i64 (m : Int), .slice a n c] 25) := Lib.hid (alloc3_0 w _ _ _)
  have HQ1 : Hid (HasBlk (((w.alloc (.cells #[.int .i64 (m : Int), .slice a n c] 25)).alloc (.cells #[.int .i64 0, .slice none 0 0] 25)).alloc (.cells #[] 3)) (w.heap.size + 1) #[.int .i64 0, .slice none 0 0] 25) := Lib.hid (alloc3_1 w _ _ _)
  have HO0 : Hid (OwnN (((w.alloc (.cells #[.int .i64 (m : Int), .slice a n c] 25)).alloc (.cells #[.int .i64 0, .slice none 0 0] 25)).alloc (.cells #[] 3)) (w.heap.size + 2) (some ⟨w.heap.size + 1 + 1, 0, none⟩) 0 0 []) := Lib.hid (own_empty (alloc3_2 w _ _ _) (by omega))
  clear ha hb hf hp hn hk0 hl8 hPc hb3
  go_enter Tryd.func58, Tryd.ntmps58
  go_wp2
  go_loopw [5, 6] (fun v i wr => ∃ (k : Nat) (a' : Option Addr) (c' : Nat), k ≤ n ∧ i = .int .i64 (k : Int) ∧ v = .slice a' k c' ∧ OwnN wr (w.heap.size + 2) a' k c' ((zs.take k).map (callZ ps)) ∧ Below (w.heap.size + 2) (((w.alloc (.cells #[.int .i64 (m : Int), .slice a n c] 25)).alloc (.cells #[.int .i64 0, .slice none 0 0] 25)).alloc (.cells #[] 3)) wr) (fun _ i _ => n - (intOf i).toNat)
  case atStart => exact ⟨0, _, _, Nat.zero_le _, rfl, rfl, HO0.out, Below.refl _ _⟩
  case round =>
    obtain ⟨k, a', c', hk, rfl, rfl, ho, hB⟩ := hrel
    obtain ⟨wo, hwo⟩ : ∃ wo, wo = wr := ⟨wr, rfl⟩
    subst hwo
    have q0 := (hB.block w.heap.size (by omega)).trans HQ0.out
    have q1 := (hB.block (w.heap.size + 1) (by omega)).trans HQ1.out
    have x0 := (blk_cell q0 0).trans (cell2_0 _ _)
    have x1 := (blk_cell q0 1).trans (cell2_1 _ _)
    have Q1 := Lib.hid q1
    have HO := Lib.hid ho
    have HW := Lib.hid hB
    have hsz : w.heap.size + 3 ≤ wo.heap.size := by have := hB.size; simpa using this
    have hbw : Hid (Below w.heap.size w wo) := Lib.hid (HB3.out.trans (hB.mono (by omega)))
    clear ho hB q0 q1
    by_cases hlt : k < n
    · obtain ⟨s, hs⟩ : ∃ s : Nat, zs[k]?.getD 0 = (s : Int) := ⟨(zs[k]?.getD 0).toNat, by have := (hPn k hlt).2.1; simp only at this; omega⟩
      have hs2 : s < 2 ^ m := by have := (hPn k hlt).2.2; simp only [hs] at this; simpa using this
      obtain ⟨b1, o1, rfl, hb1, hc1⟩ := HA.out.at_ (k := k) (by have := HN.out; omega)
      rw [hs] at hc1
      have c1 := (hbw.out.cell (p := ⟨b1, o1 + k, none⟩) hb1).trans hc1
      have HS := Lib.hid hs
      have hk0' : (0 : Int) ≤ (k : Int) := by omega
      have hk1' : (k : Int) < (n : Int) := by omega
      clear hc1 hs
      go_wp2_with fail
      rw [HK.out]
      refine (l1Called_any m s hm6' hs2 b d ps HP.out wo ((HB.out.below hbw.out).mono (by omega))).mono ?_
      rintro e w3 ⟨rfl, hb3⟩
      have HO3 := Lib.hid (row_below HO.out hb3)
      have hs3 := hb3.size
      have HW3 := Lib.hid (HW.out.trans (hb3.mono (by omega)))
      clear hb3
      rw [← HK.out]
      go_wp2_with (at_builtin; refine wpList_append_own _ rfl _ _ 23 rfl (w.heap.size + 2) 3 i0 (.int .i64 0) 1 8 Tryd.underlying23 hi0 hz0 hz1 hz2 rfl (by decide) _ _ _ rfl (HO3.out.alloc _) ⟨w3.heap.size, 0, none⟩ 1 1 [.int .i64 _] rfl rfl (cell_one_new _ _ _) (by simp [Value.oneCell']) (by simp only [maxLen]; omega) (by omega) (by simp; omega) ?_; intro v' w9 hown hgrow _; obtain ⟨g', cap', rfl, _, _⟩ := World.ownsRow.form hown (by omega))
      go_roundw
      case rel => exact ⟨k + 1, _, _, by omega, by go_num, rfl, by rw [map_at _ zs k (by have := HN.out; omega), HS.out]; exact own_more hown, (HW3.out.alloc (by omega) _).grown hgrow (by simp; omega) (fun g e => (World.ownsRow.lt HO3.out g e).1)⟩
      case measure => simp [intOf]; omega
    · obtain rfl : k = n := by omega
      go_wp2_with fail
      refine (l1With_any _ _ _ _ _ _ _ _).mono ?_
      rintro e w5 ⟨rfl, hb5⟩
      have q1 := (hb5.block (w.heap.size + 1) (by omega)).trans Q1.out
      have d0 := (blk_cell q1 0).trans (cell2_0 _ _)
      have d1 := (blk_cell q1 1).trans (cell2_1 _ _)
      have f0 := blk_frozen q1 0
      have f1 := blk_frozen q1 1
      have HO5 := Lib.hid (row_below HO.out hb5)
      have hs5 := hb5.size
      have HW5 := Lib.hid (hbw.out.trans (hb5.mono (by omega)))
      clear hb5 q1
      go_wp2
      refine bodyPost_ret (v := .agg #[.int .i64 (m : Int), .slice a' k c']) (by simp [results, Tryd.results58, go_sem, d0, d1]) rfl ?_
      have hmt : (zs.take k).map (callZ ps) = zs.map (callZ ps) := by rw [HN.out, List.take_length]
      refine ⟨a', c', by rw [List.length_map, ← HN.out], ?_, ?_⟩
      · have h1 := HO5.out
        rw [hmt] at h1
        unfold OwnI
        rw [List.length_map, ← HN.out]
        exact ownsRow_base (ownsRow_setCell_below (ownsRow_setCell_below h1 (a := ⟨w.heap.size + 1, 0, none⟩) (show w.heap.size + 1 < w.heap.size + 2 by omega) _) (a := ⟨w.heap.size + 1, 1, none⟩) (show w.heap.size + 1 < w.heap.size + 2 by omega) _) (by omega)
      · exact (HW5.out.setCell (p := ⟨w.heap.size + 1, 0, none⟩) (by simp) _).setCell (p := ⟨w.heap.size + 1, 1, none⟩) (by simp) _

end Go.Proofs.YtgpgocijacgkhaaDoor
