/- It is proved what l1Named returns; conditions: those of each statement. -/
import Derived.Test.YtacglafoahmcnaaDoorRows
import Derived.WalkKit
import Derived.WalkSpells
import Derived.ProofKit
import Derived.OpenShut
import Derived.ShutString
import Derived.ChangeOld
import Derived.Below
import Derived.Deep.RegionHeld3
import Derived.Deep.QuietTactic
import Derived.BigQuiet
import Derived.Lib.Hide
import Derived.Lib.SmallJoins
import Derived.Outline
import Derived.Laws.MakeOwn
import Derived.Laws.OwnMore
import Derived.IntWalk
import Derived.RangeFuncNested
import Derived.RangeFuncBound
import Derived.RangeFuncCalls
import Derived.RangeFuncLeaves
import Derived.RangeFuncBox
import Derived.Shelf.Abstract
import Derived.Shelf.RegionOpen
import Derived.OwnWalkIn
import Derived.TacticsInMore
import Derived.LoopNIn
import Derived.LoopIn
import Derived.Maps.AppendAt
import Derived.Deep.AppendLies
import Derived.OwnWalk
import Derived.StillTail
import Derived.StillTactics
import Derived.OrdersIn
import Derived.TacticsIn
import Derived.Shelf.Spec.TrailingZeros
import Derived.StillTailTactics
import Derived.Test.YtacglafoahmcnaaDoorRaaa
import Derived.Test.YtacglafoahmcnaaDoorRaac
import Derived.Test.YtacglafoahmcnaaDoorDb
import Derived.Test.YtacglafoahmcnaaDoorRaab
import Derived.Test.YtacglafoahmcnaaDoorRabexFnMeet
import Derived.Test.YtacglafoahmcnaaDoorRaad
import Derived.Test.YtacglafoahmcnaaDoorTb
import Derived.Test.YtacglafoahmcnaaDoorRaaq
import Derived.Deep.RegionLaw
import Derived.Deep.RegionWith
import Derived.Lib.AppendZeros
import Derived.Test.YtacglafoahmcnaaDoorRaap
import Derived.Test.YtacglafoahmcnaaDoorRaboxFnMeet
import Derived.Test.YtacglafoahmcnaaDoorRaaw
import Derived.Test.YtacglafoahmcnaaDoorRaag
import Derived.Test.YtacglafoahmcnaaDoorRaai
namespace Go.Proofs.YtacglafoahmcnaaDoor
open Go.RowKit

theorem row_below {W W' : World} {B size n : Nat} {e : TypeId} {v : Value} {xs : List Value} (h : W.ownsRow B e size v n xs) (hb : Below W.heap.size W W') : W'.ownsRow B e size v n xs :=
  World.ownsRow.kept h (only_of_below hb none) (by cases v.ownBlock <;> simp)

/-- A club called by names. -/
def callZ (ps : List Int) (z : Int) : Int := ((called ps z.toNat : Nat) : Int)

set_option maxRecDepth 100000 in
set_option maxHeartbeats 2000000 in
theorem l1Named_any (m : Nat) (a b : Option Addr) (c d : Nat) (zs ps : List Int) (w : World) (ha : Ints w w.heap.size a zs) (hb : Ints w w.heap.size b ps) (hf : famIn (m : Int) zs = true) (hp : Okp m ps) :
    Calls Tryd.prog 114 #[.agg #[.int .i64 (m : Int), .slice a zs.length c], .slice b ps.length d] w (RetFam w m (zs.map (callZ ps))) := by
  obtain ⟨i0, hi0, hz0, hz1, hz2⟩ := info_parts Tryd.info3
  have hPc := isClub_all hf
  obtain ⟨hm1, hm6, hl8, -⟩ := famIn_out hf
  have hm6' : m ≤ 6 := by omega
  have HA := Lib.hid ha
  have HB := Lib.hid hb
  have HP := Lib.hid hp
  obtain ⟨n, hn⟩ : ∃ n, n = zs.length := ⟨_, rfl⟩
  have HN := Lib.hid hn
  obtain ⟨k0, hk0⟩ : ∃ k0, k0 = ps.length := ⟨_, rfl⟩
  have HK := Lib.hid hk0
  rw [← hn, ← hk0]
  have hl8' : n ≤ 8 := by omega
  have hPn : ∀ k, k < n → IsClub m (k, zs[k]?.getD 0) := fun k hk => hPc k (by omega)
  have hb3 := below3 w (.cells #[.int .i64 (m : Int), .slice a n c] 25) (.cells #[.int .i64 0, .slice none 0 0] 25) (.cells #[] 3)
  have HB3 := Lib.hid hb3
  have HQ0 : Hid (HasBlk (((w.alloc (.cells #[.int .i64 (m : Int), .slice a n c] 25)).alloc (.cells #[.int .i64 0, .slice none 0 0] 25)).alloc (.cells #[] 3)) w.heap.size #[.int .i64 (m : Int), .slice a n c] 25) := Lib.hid (alloc3_0 w _ _ _)
  have HQ1 : Hid (HasBlk (((w.alloc (.cells #[.int .i64 (m : Int), .slice a n c] 25)).alloc (.cells #[.int .i64 0, .slice none 0 0] 25)).alloc (.cells #[] 3)) (w.heap.size + 1) #[.int .i64 0, .slice none 0 0] 25) := Lib.hid (alloc3_1 w _ _ _)
  have HO0 : Hid (OwnN (((w.alloc (.cells #[.int .i64 (m : Int), .slice a n c] 25)).alloc (.cells #[.int .i64 0, .slice none 0 0] 25)).alloc (.cells #[] 3)) (w.heap.size + 2) (some ⟨w.heap.size + 1 + 1, 0, none⟩) 0 0 []) := Lib.hid (own_empty (alloc3_2 w _ _ _) (by omega))
  clear ha hb hf hp hn hk0 hl8 hPc hb3
  go_enter Tryd.func114, Tryd.ntmps114
  go_wp2
  go_loopw [5, 6] (fun v i wr => ∃ (k : Nat) (a' : Option Addr) (c' : Nat), k ≤ n ∧ i = .int .i64 (k : Int) ∧ v = .slice a' k c' ∧ OwnN wr (w.heap.size + 2) a' k c' ((zs.take k).map (callZ ps)) ∧ Below (w.heap.size + 2) (((w.alloc (.cells #[.int .i64 (m : Int), .slice a n c] 25)).alloc (.cells #[.int .i64 0, .slice none 0 0] 25)).alloc (.cells #[] 3)) wr) (fun _ i _ => n - (intOf i).toNat)
  case atStart => exact ⟨0, _, _, Nat.zero_le _, rfl, rfl, HO0.out, Below.refl _ _⟩
  case round =>
    obtain ⟨k, a', c', hk, rfl, rfl, ho, hB⟩ := hrel
    obtain ⟨wo, hwo⟩ : ∃ wo, wo = wr := ⟨wr, rfl⟩
    subst hwo
    have q0 := (hB.block w.heap.size (by omega)).trans HQ0.out
    have q1 := (hB.block (w.heap.size + 1) (by omega)).trans HQ1.out
    have x0 := (blk_cell q0 0).trans (cell2_0 _ _)
    have x1 := (blk_cell q0 1).trans (cell2_1 _ _)
    have Q1 := Lib.hid q1
    have HO := Lib.hid ho
    have HW := Lib.hid hB
    have hsz : w.heap.size + 3 ≤ wo.heap.size := by have := hB.size; simpa using this
    have hbw : Hid (Below w.heap.size w wo) := Lib.hid (HB3.out.trans (hB.mono (by omega)))
    clear ho hB q0 q1
    by_cases hlt : k < n
    · obtain ⟨s, hs⟩ : ∃ s : Nat, zs[k]?.getD 0 = (s : Int) := ⟨(zs[k]?.getD 0).toNat, by have := (hPn k hlt).2.1; simp only at this; omega⟩
      have hs2 : s < 2 ^ m := by have := (hPn k hlt).2.2; simp only [hs] at this; simpa using this
      obtain ⟨b1, o1, rfl, hb1, hc1⟩ := HA.out.at_ (k := k) (by have := HN.out; omega)
      rw [hs] at hc1
      have c1 := (hbw.out.cell (p := ⟨b1, o1 + k, none⟩) hb1).trans hc1
      have HS := Lib.hid hs
      have hk0' : (0 : Int) ≤ (k : Int) := by omega
      have hk1' : (k : Int) < (n : Int) := by omega
      clear hc1 hs
      go_wp2_with fail
      rw [HK.out]
      refine (l1Called_any m s hm6' hs2 b d ps HP.out wo ((HB.out.below hbw.out).mono (by omega))).mono ?_
      rintro e w3 ⟨rfl, hb3⟩
      have HO3 := Lib.hid (row_below HO.out hb3)
      have hs3 := hb3.size
      have HW3 := Lib.hid (HW.out.trans (hb3.mono (by omega)))
      clear hb3
      rw [← HK.out]
      go_wp2_with (at_builtin; refine wpList_append_own _ rfl _ _ 23 rfl (w.heap.size + 2) 3 i0 (.int .i64 0) 1 8 Tryd.underlying23 hi0 hz0 hz1 hz2 rfl (by decide) _ _ _ rfl (HO3.out.alloc _) ⟨w3.heap.size, 0, none⟩ 1 1 [.int .i64 _] rfl rfl (cell_one_new _ _ _) (by simp [Value.oneCell']) (by simp only [maxLen]; omega) (by omega) (by simp; omega) ?_; intro v' w9 hown hgrow _; obtain ⟨g', cap', rfl, _, _⟩ := World.ownsRow.form hown (by omega))
      go_roundw
      case rel => exact ⟨k + 1, _, _, by omega, by go_num, rfl, by rw [map_at _ zs k (by have := HN.out; omega), HS.out]; exact own_more hown, (HW3.out.alloc (by omega) _).grown hgrow (by simp; omega) (fun g e => (World.ownsRow.lt HO3.out g e).1)⟩
      case measure => simp [intOf]; omega
    · obtain rfl : k = n := by omega
      go_wp2_with fail
      refine (l1With_any _ _ _ _ _ _ _ _).mono ?_
      rintro e w5 ⟨rfl, hb5⟩
      have q1 := (hb5.block (w.heap.size + 1) (by omega)).trans Q1.out
      have d0 := (blk_cell q1 0).trans (cell2_0 _ _)
      have d1 := (blk_cell q1 1).trans (cell2_1 _ _)
      have f0 := blk_frozen q1 0
      have f1 := blk_frozen q1 1
      have HO5 := Lib.hid (row_below HO.out hb5)
      have hs5 := hb5.size
      have HW5 := Lib.hid (hbw.out.trans (hb5.mono (by omega)))
      clear hb5 q1
      go_wp2
      refine bodyPost_ret (v := .agg #[.int .i64 (m : Int), .slice a' k c']) (by simp [results, Tryd.results114, go_sem, d0, d1]) rfl ?_
      have hmt : (zs.take k).map (callZ ps) = zs.map (callZ ps) := by rw [HN.out, List.take_length]
      refine ⟨a', c', by rw [List.length_map, ← HN.out], ?_, ?_⟩
      · have h1 := HO5.out
        rw [hmt] at h1
        unfold OwnI
        rw [List.length_map, ← HN.out]
        exact ownsRow_base (ownsRow_setCell_below (ownsRow_setCell_below h1 (a := ⟨w.heap.size + 1, 0, none⟩) (show w.heap.size + 1 < w.heap.size + 2 by omega) _) (a := ⟨w.heap.size + 1, 1, none⟩) (show w.heap.size + 1 < w.heap.size + 2 by omega) _) (by omega)
      · exact (HW5.out.setCell (p := ⟨w.heap.size + 1, 0, none⟩) (by simp) _).setCell (p := ⟨w.heap.size + 1, 1, none⟩) (by simp) _

end Go.Proofs.YtacglafoahmcnaaDoor

/- It is proved what FamilyNamed of the model returns; conditions: those of each statement. -/
namespace Go.Proofs.YtacglafoahmcnaaDoor
open Go.RowKit

def namIn (m : Int) (zs ps : List Int) : Bool := famIn m zs && namesB m.toNat ps
def namM (m : Int) (zs ps : List Int) : Int := if namIn m zs ps then m else 0
def namZ (m : Int) (zs ps : List Int) : List Int := if namIn m zs ps then zs.map (callZ ps) else []
theorem namZ_len (m : Int) (zs ps : List Int) (h : zs.length ≤ 1048576) : (namZ m zs ps).length ≤ 1048576 := by
  unfold namZ; split <;> simp; exact h

set_option maxRecDepth 100000 in
set_option maxHeartbeats 2000000 in
theorem specNamed_no1 (m : Int) (a b : Option Addr) (c d : Nat) (zs ps : List Int) (w : World) (ha : Ints w w.heap.size a zs) (hb : Ints w w.heap.size b ps) (hx : zs.length ≤ 1048576) (hy : ps.length ≤ 1048576) (hf : famIn m zs = false) :
    Calls Tryd.prog 78 #[.agg #[.int .i64 m, .slice a zs.length c], .slice b ps.length d] w (RetFB w 0 [] false) := by
  have HA := Lib.hid ((ha.below (below2 w (.cells #[.int .i64 m, .slice a zs.length c] 25) (.cells #[.int .i64 0, .slice none 0 0] 25))).mono (B' := ((w.alloc (.cells #[.int .i64 m, .slice a zs.length c] 25)).alloc (.cells #[.int .i64 0, .slice none 0 0] 25)).heap.size) (by simp; omega))
  have HBp := Lib.hid (hb.below (below2 w (.cells #[.int .i64 m, .slice a zs.length c] 25) (.cells #[.int .i64 0, .slice none 0 0] 25)))
  have HF := Lib.hid hf
  clear hf ha hb
  go_enter Tryd.func78, Tryd.ntmps78
  go_wp2_with fail
  refine (specFamilyIn_any _ _ _ zs _ HA.out hx).mono ?_
  rintro e w1 ⟨rfl, hb⟩
  rw [HF.out]
  have b1 : w1.heap[w.heap.size + 1]? = some (.cells #[.int .i64 0, .slice none 0 0] 25 (0, 0)) := (hb.block _ (by simp)).trans (alloc2_1 w _ _)
  have HB := Lib.hid ((below2 w _ _).trans (hb.mono (by simp; omega)))
  have z1 : w.heap.size + 1 < w1.heap.size := by have := hb.size; simp at this; omega
  clear hb
  go_wp2_with fail
  refine (l1None_any _).mono ?_
  rintro e w2 ⟨a2, c2, rfl, ho2, hb⟩
  have b2 := (hb.block _ z1).trans b1
  have d0 := (blk_cell b2 0).trans (cell2_0 _ _)
  have d1 := (blk_cell b2 1).trans (cell2_1 _ _)
  have f0 := blk_frozen b2 0
  have f1 := blk_frozen b2 1
  have z2 : w.heap.size + 1 < w2.heap.size := by have := hb.size; omega
  have HB2 := Lib.hid (HB.out.trans (hb.mono (by omega)))
  have HO := Lib.hid ho2
  clear hb b1 b2 ho2
  go_wp2
  refine bodyPost_ret (v := .tuple #[.agg #[.int .i64 0, .slice a2 0 c2], .bool false]) (by simp [results, Tryd.results78, go_sem, d0, d1]) rfl ?_
  refine ⟨a2, c2, rfl, ?_, ?_⟩
  · exact own_mono (ownsRow_setCell_below (ownsRow_setCell_below HO.out (by simp; omega) _) (by simp; omega) _) (by omega)
  · exact (HB2.out.setCell (p := ⟨w.heap.size + 1, 0, none⟩) (by simp) _).setCell (p := ⟨w.heap.size + 1, 1, none⟩) (by simp) _

set_option maxRecDepth 100000 in
set_option maxHeartbeats 2000000 in
theorem specNamed_no2 (m : Int) (a b : Option Addr) (c d : Nat) (zs ps : List Int) (w : World) (ha : Ints w w.heap.size a zs) (hb : Ints w w.heap.size b ps) (hx : zs.length ≤ 1048576) (hy : ps.length ≤ 1048576) (hf : famIn m zs = true) (hi : namesB m.toNat ps = false) :
    Calls Tryd.prog 78 #[.agg #[.int .i64 m, .slice a zs.length c], .slice b ps.length d] w (RetFB w 0 [] false) := by
  have HA := Lib.hid ((ha.below (below2 w (.cells #[.int .i64 m, .slice a zs.length c] 25) (.cells #[.int .i64 0, .slice none 0 0] 25))).mono (B' := ((w.alloc (.cells #[.int .i64 m, .slice a zs.length c] 25)).alloc (.cells #[.int .i64 0, .slice none 0 0] 25)).heap.size) (by simp; omega))
  have HBp := Lib.hid (hb.below (below2 w (.cells #[.int .i64 m, .slice a zs.length c] 25) (.cells #[.int .i64 0, .slice none 0 0] 25)))
  have HF := Lib.hid hf
  have HI := Lib.hid hi
  obtain ⟨hm1, hm6, -, -⟩ := famIn_out hf
  have hmm : Hid (m = ((m.toNat : Nat) : Int)) := Lib.hid (by omega)
  have hk1 : 1 ≤ m.toNat := by omega
  have hk6 : m.toNat ≤ 6 := by omega
  clear hf ha hb hi
  go_enter Tryd.func78, Tryd.ntmps78
  go_wp2_with fail
  refine (specFamilyIn_any _ _ _ zs _ HA.out hx).mono ?_
  rintro e w1 ⟨rfl, hb⟩
  rw [HF.out]
  have b1 : w1.heap[w.heap.size + 1]? = some (.cells #[.int .i64 0, .slice none 0 0] 25 (0, 0)) := (hb.block _ (by simp)).trans (alloc2_1 w _ _)
  have HB := Lib.hid ((below2 w _ _).trans (hb.mono (by simp; omega)))
  have z1 : w.heap.size + 1 < w1.heap.size := by have := hb.size; simp at this; omega
  have b0 : w1.heap[w.heap.size]? = some (.cells #[.int .i64 m, .slice a zs.length c] 25 (0, 0)) := (hb.block _ (by simp; omega)).trans (alloc2_0 w _ _)
  have x0 := (blk_cell b0 0).trans (cell2_0 _ _)
  have x1 := (blk_cell b0 1).trans (cell2_1 _ _)
  have HBp1 := Lib.hid ((HBp.out.below (hb.mono (by simp; omega))).mono (B' := w1.heap.size) (by omega))
  have HA1 := Lib.hid ((HA.out.below hb).mono (B' := w1.heap.size) hb.size)
  clear hb b0
  go_wp2_with fail
  have HC := Lib.hid (l1Names_any m.toNat hk1 hk6 b d ps w1 HBp1.out hy)
  rw [← hmm.out] at HC
  refine HC.out.mono ?_
  rintro e w1'' ⟨rfl, rfl⟩
  rw [HI.out]
  go_wp2_with fail
  refine (l1None_any _).mono ?_
  rintro e w2 ⟨a2, c2, rfl, ho2, hb⟩
  have b2 := (hb.block _ z1).trans b1
  have d0 := (blk_cell b2 0).trans (cell2_0 _ _)
  have d1 := (blk_cell b2 1).trans (cell2_1 _ _)
  have f0 := blk_frozen b2 0
  have f1 := blk_frozen b2 1
  have z2 : w.heap.size + 1 < w2.heap.size := by have := hb.size; omega
  have HB2 := Lib.hid (HB.out.trans (hb.mono (by omega)))
  have HO := Lib.hid ho2
  clear hb b1 b2 ho2
  go_wp2
  refine bodyPost_ret (v := .tuple #[.agg #[.int .i64 0, .slice a2 0 c2], .bool false]) (by simp [results, Tryd.results78, go_sem, d0, d1]) rfl ?_
  refine ⟨a2, c2, rfl, ?_, ?_⟩
  · exact own_mono (ownsRow_setCell_below (ownsRow_setCell_below HO.out (by simp; omega) _) (by simp; omega) _) (by omega)
  · exact (HB2.out.setCell (p := ⟨w.heap.size + 1, 0, none⟩) (by simp) _).setCell (p := ⟨w.heap.size + 1, 1, none⟩) (by simp) _

set_option maxRecDepth 100000 in
set_option maxHeartbeats 2000000 in
theorem specNamed_yes (m : Int) (a b : Option Addr) (c d : Nat) (zs ps : List Int) (w : World) (ha : Ints w w.heap.size a zs) (hb : Ints w w.heap.size b ps) (hx : zs.length ≤ 1048576) (hy : ps.length ≤ 1048576) (hf : famIn m zs = true) (hi : namesB m.toNat ps = true) :
    Calls Tryd.prog 78 #[.agg #[.int .i64 m, .slice a zs.length c], .slice b ps.length d] w (RetFB w m (zs.map (callZ ps)) true) := by
  have HA := Lib.hid ((ha.below (below2 w (.cells #[.int .i64 m, .slice a zs.length c] 25) (.cells #[.int .i64 0, .slice none 0 0] 25))).mono (B' := ((w.alloc (.cells #[.int .i64 m, .slice a zs.length c] 25)).alloc (.cells #[.int .i64 0, .slice none 0 0] 25)).heap.size) (by simp; omega))
  have HBp := Lib.hid (hb.below (below2 w (.cells #[.int .i64 m, .slice a zs.length c] 25) (.cells #[.int .i64 0, .slice none 0 0] 25)))
  have HF := Lib.hid hf
  have HI := Lib.hid hi
  obtain ⟨hm1, hm6, -, -⟩ := famIn_out hf
  have hmm : Hid (m = ((m.toNat : Nat) : Int)) := Lib.hid (by omega)
  have hk1 : 1 ≤ m.toNat := by omega
  have hk6 : m.toNat ≤ 6 := by omega
  have HOk := Lib.hid (namesB_ok hk6 hi)
  clear hf ha hb hi
  go_enter Tryd.func78, Tryd.ntmps78
  go_wp2_with fail
  refine (specFamilyIn_any _ _ _ zs _ HA.out hx).mono ?_
  rintro e w1 ⟨rfl, hb⟩
  rw [HF.out]
  have b1 : w1.heap[w.heap.size + 1]? = some (.cells #[.int .i64 0, .slice none 0 0] 25 (0, 0)) := (hb.block _ (by simp)).trans (alloc2_1 w _ _)
  have HB := Lib.hid ((below2 w _ _).trans (hb.mono (by simp; omega)))
  have z1 : w.heap.size + 1 < w1.heap.size := by have := hb.size; simp at this; omega
  have b0 : w1.heap[w.heap.size]? = some (.cells #[.int .i64 m, .slice a zs.length c] 25 (0, 0)) := (hb.block _ (by simp; omega)).trans (alloc2_0 w _ _)
  have x0 := (blk_cell b0 0).trans (cell2_0 _ _)
  have x1 := (blk_cell b0 1).trans (cell2_1 _ _)
  have HBp1 := Lib.hid ((HBp.out.below (hb.mono (by simp; omega))).mono (B' := w1.heap.size) (by omega))
  have HA1 := Lib.hid ((HA.out.below hb).mono (B' := w1.heap.size) hb.size)
  clear hb b0
  go_wp2_with fail
  have HC := Lib.hid (l1Names_any m.toNat hk1 hk6 b d ps w1 HBp1.out hy)
  rw [← hmm.out] at HC
  refine HC.out.mono ?_
  rintro e w1'' ⟨rfl, rfl⟩
  rw [HI.out]
  have HD := Lib.hid (l1Named_any m.toNat a b c d zs ps w1 HA1.out HBp1.out (by rw [← hmm.out]; exact HF.out) HOk.out)
  rw [← hmm.out] at HD
  go_wp2_with fail
  refine HD.out.mono ?_
  rintro e w2 ⟨a2, c2, rfl, ho2, hb⟩
  have b2 := (hb.block _ z1).trans b1
  have d0 := (blk_cell b2 0).trans (cell2_0 _ _)
  have d1 := (blk_cell b2 1).trans (cell2_1 _ _)
  have f0 := blk_frozen b2 0
  have f1 := blk_frozen b2 1
  have z2 : w.heap.size + 1 < w2.heap.size := by have := hb.size; omega
  have HB2 := Lib.hid (HB.out.trans (hb.mono (by omega)))
  have HO := Lib.hid ho2
  clear hb b1 b2 ho2
  go_wp2
  refine bodyPost_ret (v := .tuple #[.agg #[.int .i64 m, .slice a2 (zs.map (callZ ps)).length c2], .bool true]) (by simp [results, Tryd.results78, go_sem, d0, d1]) rfl ?_
  refine ⟨a2, c2, rfl, ?_, ?_⟩
  · exact own_mono (ownsRow_setCell_below (ownsRow_setCell_below HO.out (by simp; omega) _) (by simp; omega) _) (by omega)
  · exact (HB2.out.setCell (p := ⟨w.heap.size + 1, 0, none⟩) (by simp) _).setCell (p := ⟨w.heap.size + 1, 1, none⟩) (by simp) _

theorem specNamed_any (m : Int) (a b : Option Addr) (c d : Nat) (zs ps : List Int) (w : World) (ha : Ints w w.heap.size a zs) (hb : Ints w w.heap.size b ps) (hx : zs.length ≤ 1048576) (hy : ps.length ≤ 1048576) :
    Calls Tryd.prog 78 #[.agg #[.int .i64 m, .slice a zs.length c], .slice b ps.length d] w (RetFB w (namM m zs ps) (namZ m zs ps) (namIn m zs ps)) := by
  unfold namM namZ namIn
  cases h1 : famIn m zs
  · exact specNamed_no1 m a b c d zs ps w ha hb hx hy h1
  · cases h2 : namesB m.toNat ps
    · exact specNamed_no2 m a b c d zs ps w ha hb hx hy h1 h2
    · exact specNamed_yes m a b c d zs ps w ha hb hx hy h1 h2

end Go.Proofs.YtacglafoahmcnaaDoor

/- It is proved that the family drawn for even orders is the call's own; conditions: those of each statement. -/
namespace Go.Proofs.YtacglafoahmcnaaDoor
open Go.RowKit

theorem drawn_end {w W : World} {m : Int} {a2 : Option Addr} {c2 : Nat} {ys : List Int} (ho : OwnI W (w.heap.size + 1) (.slice a2 ys.length c2) ys) (hl : ys.length ≤ 9) (hb : Below w.heap.size w W) :
    DrawnOne w (.returned (.agg #[.int .i64 m, .slice a2 ys.length c2])) ((W.setCell ⟨w.heap.size, 0, none⟩ (.int .i64 m)).setCell ⟨w.heap.size, 1, none⟩ (.slice a2 ys.length c2)) :=
  ⟨m, a2, ys, c2, rfl, hl, own_mono (ownsRow_setCell_below (ownsRow_setCell_below ho (a := ⟨w.heap.size, 0, none⟩) (show w.heap.size < w.heap.size + 1 by omega) _) (a := ⟨w.heap.size, 1, none⟩) (show w.heap.size < w.heap.size + 1 by omega) _) (by omega), (hb.setCell (p := ⟨w.heap.size, 0, none⟩) (Nat.le_refl _) _).setCell (p := ⟨w.heap.size, 1, none⟩) (Nat.le_refl _) _⟩

set_option maxRecDepth 100000 in
set_option maxHeartbeats 8000000 in
theorem drawMeetOrder_any (a : Option Addr) (n cap : Nat) (w : World) (hb : Bys w w.heap.size a n) (hn : n ≤ 1048576) (hc : n ≤ cap) (hc2 : cap ≤ 9223372036854775807) :
    Calls Tryd.prog 34 #[.slice a n cap] w (DrawnOne w) := by
  obtain ⟨i0, hi0, hz0, hz1, hz2⟩ := info_parts Tryd.info3
  have ha : n ≠ 0 → ∃ g off, a = some ⟨g, off, none⟩ := fun h => by obtain ⟨g, off, e, _⟩ := hb.resolve_left h; exact ⟨g, off, e⟩
  have HB := Lib.hid hb
  clear hb
  go_enter Tryd.func34, Tryd.ntmps34
  go_wp2_with fail
  refine (openD_any a n cap _ hn hc hc2 ha).mono ?_
  rintro e w1 ⟨k, hk, rfl, rfl⟩
  have b1 := below2 w (.cells #[.int .i64 0, .slice none 0 0] 25) (.cells #[.slice a k cap, .int .i64 0] 97)
  obtain ⟨W0, hW0⟩ : ∃ W0, W0 = (w.alloc (.cells #[.int .i64 0, .slice none 0 0] 25)).alloc (.cells #[.slice a k cap, .int .i64 0] 97) := ⟨_, rfl⟩
  have HD1 : Hid (DS W0 (w.heap.size + 1) a k cap 0 W0) := Lib.hid (by rw [hW0]; exact ⟨⟨0, Nat.le_refl _, alloc2_1 w _ _⟩, World.grownBy.refl _ _⟩)
  have HX : Hid (HasBlk W0 w.heap.size #[.int .i64 0, .slice none 0 0] 25) := Lib.hid (by rw [hW0]; exact alloc2_0 w _ _)
  have hs1 : W0.heap.size = w.heap.size + 2 := by rw [hW0]; simp
  rw [← hW0] at b1
  have HB1 := Lib.hid ((HB.out.below b1).fewer (B' := w.heap.size + 1) (by omega) hk)
  have HBL := Lib.hid b1
  have hkn : k ≤ 1048576 := by omega
  have hR : w.heap.size + 1 < W0.heap.size := by omega
  rw [← hW0]
  clear b1 hW0
  go_wp2_with fail
  refine (pickX HD1.out HB1.out hR hkn (by omega) _).mono ?_
  rintro e w2 ⟨r1, rfl, h1, D2, g2⟩
  have hr1 : r1 < 5 := by have := h1 (by omega); omega
  obtain ⟨k0, hk0⟩ : ∃ k0 : Nat, k0 = 1 + r1 := ⟨_, rfl⟩
  have HKI : Hid ((1 : Int) + (r1 : Int) = (k0 : Int)) := Lib.hid (by omega)
  have hk6 : k0 ≤ 5 := by omega
  have hk1 : 1 ≤ k0 := by omega
  have HK0 := Lib.hid hk0
  clear hk0
  have HX2 : Hid (HasBlk w2 w.heap.size #[.int .i64 0, .slice none 0 0] 25) := Lib.hid (HX.out.kept g2 (fun e => by injection e; omega))
  have HD2 := Lib.hid D2
  have hs2 : w.heap.size + 2 ≤ w2.heap.size := by rw [← hs1]; exact D2.gr.size
  clear D2 g2 h1 HX HD1
  have HO3 : Hid (OwnN (w2.alloc (.cells #[] 3)) (w.heap.size + 2) (some ⟨w2.heap.size, 0, none⟩) 0 0 []) := Lib.hid (own_empty (alloc_new w2 _) (by omega))
  have HD3 : Hid (DS W0 (w.heap.size + 1) a k cap 1 (w2.alloc (.cells #[] 3))) := Lib.hid ((HD2.out.alloc _ hR).mono (by omega))
  have HX3 : Hid (HasBlk (w2.alloc (.cells #[] 3)) w.heap.size #[.int .i64 0, .slice none 0 0] 25) := Lib.hid (HX2.out.alloc _)
  go_wp2_with fail
  refine (pickX HD3.out HB1.out hR hkn (by omega) _).mono ?_
  rintro e w3 ⟨r2, rfl, h2, D4, g4⟩
  have hr2 : r2 < 5 := by have := h2 (by omega); omega
  have hr2I : (r2 : Int) < 5 := by omega
  have H4 : Hid (OwnN w3 (w.heap.size + 2) (some ⟨w2.heap.size, 0, none⟩) 0 0 [] ∧ HasBlk w3 w.heap.size #[.int .i64 0, .slice none 0 0] 25 ∧ DS W0 (w.heap.size + 1) a k cap (2 + 2 * 0) w3) := Lib.hid ⟨own_grown HO3.out g4 (by omega), HX3.out.kept g4 (fun e => by injection e; omega), D4.mono (by omega)⟩
  clear D4 g4 h2 HX2 HD2 HO3 HD3 HX3 hs2
  go_wp2
  go_loopw [5, 7] (fun s5 s7 wr => ∃ (j : Nat) (a' : Option Addr) (c' : Nat) (zs : List Int), j ≤ r2 ∧ s7 = .int .i64 (j : Int) ∧ s5 = .slice a' j c' ∧ Hid (OwnN wr (w.heap.size + 2) a' j c' zs ∧ HasBlk wr w.heap.size #[.int .i64 0, .slice none 0 0] 25 ∧ DS W0 (w.heap.size + 1) a k cap (2 + 2 * j) wr)) (fun _ s7 _ => r2 - (intOf s7).toNat)
  case atStart => exact ⟨0, _, _, [], Nat.zero_le _, rfl, rfl, H4⟩
  case round =>
    obtain ⟨j, a', c', zs, hj, rfl, rfl, HI⟩ := hrel
    clear H4
    have hj0 : (0 : Int) ≤ (j : Int) := by omega
    by_cases hlt : j < r2
    · have hjI : (j : Int) < (r2 : Int) := by omega
      go_wp2_with fail
      refine (pickX HI.out.2.2 HB1.out hR hkn (by omega) _).mono ?_
      rintro e w4 ⟨r3, rfl, h3, D5, g5⟩
      have hr3 : r3 < k0 := by have := HK0.out; have := h3 (by omega); omega
      have H5 : Hid (OwnN w4 (w.heap.size + 2) a' j c' zs ∧ HasBlk w4 w.heap.size #[.int .i64 0, .slice none 0 0] 25 ∧ DS W0 (w.heap.size + 1) a k cap (2 + 2 * j + 1) w4) := Lib.hid ⟨own_grown HI.out.1 g5 (by omega), HI.out.2.1.kept g5 (fun e => by injection e; omega), D5⟩
      have hr3I : (r3 : Int) ≤ 5 := by omega
      have hr30 : (0 : Int) ≤ (r3 : Int) := by omega
      clear D5 g5 h3 HI
      go_wp2_with fail
      refine (pickX H5.out.2.2 HB1.out hR hkn (by omega) _).mono ?_
      rintro e w5 ⟨r4, rfl, h4, D6, g6⟩
      have hr4 : r4 < 6 := by have := HK0.out; have := h4 (by omega); omega
      have hr4I : (r4 : Int) < 6 := by omega
      have hr40 : (0 : Int) ≤ (r4 : Int) := by omega
      have H6 : Hid (OwnN w5 (w.heap.size + 2) a' j c' zs ∧ HasBlk w5 w.heap.size #[.int .i64 0, .slice none 0 0] 25 ∧ DS W0 (w.heap.size + 1) a k cap (2 + 2 * (j + 1)) w5) := Lib.hid ⟨own_grown H5.out.1 g6 (by omega), H5.out.2.1.kept g6 (fun e => by injection e; omega), D6.mono (by omega)⟩
      clear D6 g6 h4 H5
      have hs5 : w.heap.size < w5.heap.size := lt_of_some H6.out.2.1
      go_wp2_with (at_builtin; refine wpList_append_own _ rfl _ _ 23 rfl (w.heap.size + 2) 3 i0 (.int .i64 0) 1 8 Tryd.underlying23 hi0 hz0 hz1 hz2 rfl (by decide) _ _ _ rfl (H6.out.1.alloc _) ⟨w5.heap.size, 0, none⟩ 1 1 [.int .i64 _] rfl rfl (cell_one_new _ _ _) (by simp [Value.oneCell']) (by simp only [maxLen]; omega) (by omega) (by have := H6.out.2.2.gr.size; simp; omega) ?_; intro v' w9 hown hgrow _; obtain ⟨g', cap', rfl, _, _⟩ := World.ownsRow.form hown (by omega))
      go_roundw
      case rel => exact ⟨j + 1, _, _, _, by omega, by go_num, rfl, Lib.hid ⟨own_more hown, (H6.out.2.1.alloc _).kept hgrow (fun e => by have := (World.ownsRow.lt H6.out.1 _ e).1; omega), ((H6.out.2.2.alloc _ hR).step hgrow (fun g e => by have := (World.ownsRow.lt H6.out.1 g e).1; omega) hR).mono (by omega)⟩⟩
      case measure => simp [intOf]; omega
    · obtain rfl : j = r2 := by omega
      have hzl : zs.length = j := HI.out.1.len
      have HZL := Lib.hid hzl
      clear hzl
      go_wp2_with fail
      rw [HKI.out]
      refine (namesD_any (w.heap.size + 1) a k cap (2 + 2 * j) k0 _ HI.out.2.2.rebase (HB1.out.kept hR HI.out.2.2.gr) (by have := HI.out.2.2.gr.size; omega) hkn (by omega) hk1 (by omega)).mono ?_
      rintro e w6 ⟨pa, ps, pc, rfl, hpl, hop, D7⟩
      have hs6 : wr.heap.size ≤ w6.heap.size := D7.gr.size
      have HO6 : Hid (OwnN w6 (w.heap.size + 2) a' j c' zs) := Lib.hid (own_grown HI.out.1 D7.gr (by omega))
      have HX6 : Hid (HasBlk w6 w.heap.size #[.int .i64 0, .slice none 0 0] 25) := Lib.hid (HI.out.2.1.kept D7.gr (fun e => by injection e; omega))
      have HD6 : Hid (DS W0 (w.heap.size + 1) a k cap 400 w6) := Lib.hid ((D7.over HI.out.2.2.gr).mono (by omega))
      have hI6 : Ints w6 w6.heap.size a' zs := own_ints (show OwnI w6 (w.heap.size + 2) (.slice a' zs.length c') zs from by unfold OwnI; rw [HZL.out]; exact HO6.out)
      have hnm := specNamed_any (k0 : Int) a' pa c' pc zs ps w6 hI6 (own_ints hop) (by have := HZL.out; omega) (by omega)
      have hyl : (namZ (k0 : Int) zs ps).length ≤ 9 := by
        unfold namZ
        split
        · rw [List.length_map, HZL.out]; omega
        · simp
      rw [HZL.out] at hnm
      obtain ⟨ys, hys⟩ : ∃ ys, ys = namZ (k0 : Int) zs ps := ⟨_, rfl⟩
      obtain ⟨mm, hmm⟩ : ∃ mm, mm = namM (k0 : Int) zs ps := ⟨_, rfl⟩
      obtain ⟨ok, hok⟩ : ∃ ok, ok = namIn (k0 : Int) zs ps := ⟨_, rfl⟩
      rw [← hys, ← hmm, ← hok] at hnm
      rw [← hys] at hyl
      have HNM := Lib.hid hnm
      have hs6w : w.heap.size + 2 ≤ w6.heap.size := by have := HD6.out.gr.size; omega
      clear hys hmm hok hnm hI6 hop D7 HI hpl
      go_wp2_with fail
      refine HNM.out.mono ?_
      rintro e w7 ⟨a5, c5, rfl, ho5, hb5⟩
      have HO7 : Hid (OwnI w7 (w.heap.size + 2) (.slice a5 ys.length c5) ys) := Lib.hid (own_mono ho5 hs6w)
      have HX7 : Hid (HasBlk w7 w.heap.size #[.int .i64 0, .slice none 0 0] 25) := Lib.hid ((hb5.block _ (by omega)).trans HX6.out)
      have HD7 : Hid (DS W0 (w.heap.size + 1) a k cap 400 w7) := Lib.hid (HD6.out.step (only_of_below hb5 none) (fun g e => by cases e) hR)
      clear ho5 hb5 HNM HO6 HX6 HD6
      obtain ⟨W8, hW8⟩ : ∃ W8, W8 = w7.alloc (.cells #[.int .i64 mm, .slice a5 ys.length c5] 25) := ⟨_, rfl⟩
      have HO8 : Hid (OwnI W8 (w.heap.size + 2) (.slice a5 ys.length c5) ys) := Lib.hid (by rw [hW8]; exact World.ownsRow.alloc HO7.out _)
      have HX8 : Hid (HasBlk W8 w.heap.size #[.int .i64 0, .slice none 0 0] 25) := Lib.hid (by rw [hW8]; exact HX7.out.alloc _)
      have HD8 : Hid (DS W0 (w.heap.size + 1) a k cap 401 W8) := Lib.hid (by rw [hW8]; exact (HD7.out.alloc _ hR).mono (by omega))
      have HF8 : Hid (HasBlk W8 w7.heap.size #[.int .i64 mm, .slice a5 ys.length c5] 25) := Lib.hid (by rw [hW8]; exact alloc_new w7 _)
      have hs7 : w.heap.size + 2 ≤ w7.heap.size := by have := HD7.out.gr.size; omega
      clear HO7 HX7 HD7
      cases ok
      · go_wp2_with fail
        rw [← hW8]
        clear hW8
        refine (someD_any 5 5 5 5 rfl rfl (by decide) (by decide) (by decide) (w.heap.size + 1) a k cap 401 _ HD8.out.rebase (HB1.out.kept hR HD8.out.gr) (by have := HD8.out.gr.size; omega) (by omega) (by omega)).mono ?_
        rintro e w9 ⟨m9, a9, xs, c9, rfl, ⟨hl9, -, -⟩, ho9, D9⟩
        have q := HX8.out.kept D9.gr (fun e => by injection e; omega)
        have d0 := (blk_cell q 0).trans (cell2_0 _ _)
        have d1 := (blk_cell q 1).trans (cell2_1 _ _)
        have f0 := blk_frozen q 0
        have f1 := blk_frozen q 1
        have HBw := Lib.hid (HBL.out.trans ((D9.over HD8.out.gr).belowR (B := w.heap.size) (by omega) (by omega)))
        have HO9 : Hid (OwnI w9 (w.heap.size + 1) (.slice a9 xs.length c9) xs) := Lib.hid (own_mono ho9 (by have := HD8.out.gr.size; omega))
        clear ho9 D9 q
        go_wp2
        refine bodyPost_ret (v := .agg #[.int .i64 m9, .slice a9 xs.length c9]) (by simp [results, Tryd.results34, go_sem, d0, d1]) rfl ?_
        exact drawn_end HO9.out (by omega) HBw.out
      · go_wp2_with fail
        rw [← hW8]
        clear hW8
        refine (pickX HD8.out HB1.out hR hkn (by omega) _).mono ?_
        rintro e w8 ⟨r8, rfl, -, D8, g8⟩
        have HO9 : Hid (OwnI w8 (w.heap.size + 2) (.slice a5 ys.length c5) ys) := Lib.hid (own_grown HO8.out g8 (by omega))
        have HX9 : Hid (HasBlk w8 w.heap.size #[.int .i64 0, .slice none 0 0] 25) := Lib.hid (HX8.out.kept g8 (fun e => by injection e; omega))
        have HD9 : Hid (DS W0 (w.heap.size + 1) a k cap 402 w8) := Lib.hid D8
        have hf9 : HasBlk w8 w7.heap.size #[.int .i64 mm, .slice a5 ys.length c5] 25 := HF8.out.kept g8 (fun e => by injection e; omega)
        have v0 := (blk_cell hf9 0).trans (cell2_0 _ _)
        have v1 := (blk_cell hf9 1).trans (cell2_1 _ _)
        clear D8 g8 HO8 HX8 HD8 HF8 hf9
        by_cases h0 : r8 = 0
        · subst h0
          go_wp2_with fail
          refine (someD_any 5 5 5 5 rfl rfl (by decide) (by decide) (by decide) (w.heap.size + 1) a k cap 402 _ HD9.out.rebase (HB1.out.kept hR HD9.out.gr) (by have := HD9.out.gr.size; omega) (by omega) (by omega)).mono ?_
          rintro e w9 ⟨m9, a9, xs, c9, rfl, ⟨hl9, -, -⟩, ho9, D9⟩
          have q := HX9.out.kept D9.gr (fun e => by injection e; omega)
          have d0 := (blk_cell q 0).trans (cell2_0 _ _)
          have d1 := (blk_cell q 1).trans (cell2_1 _ _)
          have f0 := blk_frozen q 0
          have f1 := blk_frozen q 1
          have HBw := Lib.hid (HBL.out.trans ((D9.over HD9.out.gr).belowR (B := w.heap.size) (by omega) (by omega)))
          have HO10 : Hid (OwnI w9 (w.heap.size + 1) (.slice a9 xs.length c9) xs) := Lib.hid (own_mono ho9 (by have := HD9.out.gr.size; omega))
          clear ho9 D9 q
          go_wp2
          refine bodyPost_ret (v := .agg #[.int .i64 m9, .slice a9 xs.length c9]) (by simp [results, Tryd.results34, go_sem, d0, d1]) rfl ?_
          exact drawn_end HO10.out (by omega) HBw.out
        · have hb1 : ((r8 : Int) == 0) = false := by rw [beq_eq_false_iff_ne]; omega
          have hb2 : (r8 == 0) = false := by rw [beq_eq_false_iff_ne]; exact h0
          have d0 := (blk_cell HX9.out 0).trans (cell2_0 _ _)
          have d1 := (blk_cell HX9.out 1).trans (cell2_1 _ _)
          have f0 := blk_frozen HX9.out 0
          have f1 := blk_frozen HX9.out 1
          have HBw := Lib.hid (HBL.out.trans (HD9.out.belowR (B := w.heap.size) (by omega) (by omega)))
          clear h0
          go_wp2
          refine bodyPost_ret (v := .agg #[.int .i64 mm, .slice a5 ys.length c5]) (by simp [results, Tryd.results34, go_sem, d0, d1]) rfl ?_
          exact drawn_end (own_mono HO9.out (by omega)) hyl HBw.out

end Go.Proofs.YtacglafoahmcnaaDoor
