/- It is proved what CoverFree of the reference model returns; conditions: those of each statement. -/
import Derived.RowKit
import Derived.Laws.CopyRow
import Derived.Lib.SlBuf
import Derived.Deep.QuietTactic
import Derived.RangeFuncNested
import Derived.RangeFuncBound
import Derived.RangeFuncCalls
import Derived.RangeFuncLeaves
import Derived.RangeFuncBox
import Derived.RangeFuncWrites
import Derived.StillTailTactics
import Derived.Maps.OwnIn
import Derived.Maps.Ext
import Derived.DeepKeys4
import Derived.MapKept
import Derived.Test.YtmojkeokkebbfaaDoorRows
import Derived.WalkKit
import Derived.WalkSpells
import Derived.ProofKit
import Derived.OpenShut
import Derived.ShutString
import Derived.ChangeOld
import Derived.Below
import Derived.Deep.RegionHeld3
import Derived.BigQuiet
import Derived.Lib.Hide
import Derived.Lib.SmallJoins
import Derived.Outline
import Derived.Laws.MakeOwn
import Derived.Laws.OwnMore
import Derived.IntWalk
import Derived.Maps.AppendAt
import Derived.Sort.MapsRangeIn
import Derived.Shelf.Slices.Reverse
import Derived.Lib.AppendZeros
import Derived.Deep.AppendLies
import Derived.OwnWalk
import Derived.Lib.SlicesCompact
import Derived.Lib.OwnBridge
import Derived.OrdersIn
import Derived.TacticsIn
import Derived.Shelf.Sort.Plain
import Derived.Shelf.Slices.In.SortNone
import Derived.Shelf.Slices.CompactI
import Derived.Ground.Names2Prog
import Derived.Lib.SliceRun
import Derived.Shelf.Abstract
import Derived.Shelf.RegionOpen
import Derived.OwnWalkIn
import Derived.TacticsInMore
import Derived.LoopNIn
import Derived.LoopIn
import Derived.StillTail
import Derived.StillTactics
import Derived.Shelf.Spec.TrailingZeros
import Derived.Test.YtmojkeokkebbfaaDoorMzaa
import Derived.Test.YtmojkeokkebbfaaDoorMzad
import Derived.Test.YtmojkeokkebbfaaDoorMzae
import Derived.Test.YtmojkeokkebbfaaDoorMzaw
import Derived.Test.YtmojkeokkebbfaaDoorMzaf
import Derived.Test.YtmojkeokkebbfaaDoorHa
import Derived.Test.YtmojkeokkebbfaaDoorMzap
import Derived.Test.YtmojkeokkebbfaaDoorKc
import Derived.Test.YtmojkeokkebbfaaDoorMzav
import Derived.Test.YtmojkeokkebbfaaDoorKk
import Derived.Test.YtmojkeokkebbfaaDoorMzaz
import Derived.Test.YtmojkeokkebbfaaDoorMzag
import Derived.Test.YtmojkeokkebbfaaDoorMzab
import Derived.Test.YtmojkeokkebbfaaDoorMzan
namespace Go.Proofs.YtmojkeokkebbfaaDoor
open Go.RowKit

theorem put_front {w w' : World} {b off n c : Nat} {zs : List Int} {x : Int} {e : Ending} (h : PutPost w b off n c zs x e w') (hl : zs.length = n) (hx : ∀ z ∈ zs, x < z) :
    ∃ g c', e = .returned (.slice (some ⟨g, 0, none⟩) (n + 1) c') ∧ OwnN w' w.heap.size (some ⟨g, 0, none⟩) (n + 1) c' (x :: zs) ∧ Below w.heap.size w w' := by
  obtain ⟨k, hk, -, h3⟩ := h
  have at_ : ∀ k', k' < n → x < zs[k']?.getD 0 := fun k' h => by
    rw [List.getElem?_eq_getElem (by omega)]; exact hx _ (List.getElem_mem _)
  rcases h3 with ⟨k', rfl, e1, -⟩ | ⟨h1, a', c', rfl, h2, h4⟩
  · have := at_ k' (by omega)
    omega
  · have hk0 : k = 0 := by
      refine Classical.byContradiction fun h => ?_
      obtain ⟨k', rfl⟩ : ∃ k', k = k' + 1 := ⟨k - 1, by omega⟩
      have := h1 k' rfl
      have := at_ k' (by omega)
      omega
    subst hk0
    obtain ⟨g, rfl, -, -⟩ := h2.addr (by omega)
    exact ⟨g, c', rfl, by simpa using h2, h4⟩

set_option maxRecDepth 100000 in
theorem oth_fin : ∀ k : Fin 7, ∀ z : Fin 64, z.val < 2 ^ k.val → bits .andNot .i64 (2 ^ k.val - 1) (z.val : Int) = 2 ^ k.val - 1 - (z.val : Int) := by decide +kernel

theorem oth_at {k : Nat} (hk : k ≤ 6) {x : Int} (h0 : 0 ≤ x) (h : x.toNat < 2 ^ k) : bits .andNot .i64 (fullI (k : Int)) x = 2 ^ k - 1 - x := by
  have h1 := oth_fin ⟨k, by omega⟩ ⟨x.toNat, p64 hk h⟩ h
  unfold fullI
  rw [Int.toNat_natCast]
  simp only [Int.toNat_of_nonneg h0] at h1
  exact h1

theorem othL_take (k : Nat) (L : List Int) (j : Nat) (hj : j < L.length) : (othL k (L.take (j + 1))).reverse = bits .andNot .i64 (fullI (k : Int)) (L[j]?.getD 0) :: (othL k (L.take j)).reverse := by
  rw [List.take_succ_eq_append_getElem hj, othL, List.map_append, List.reverse_append, List.getElem?_eq_getElem hj]
  rfl

theorem othL_less {k : Nat} (hk : k ≤ 6) (zs : List Int) (j : Nat) (hj : j < (lcL k zs).length) : ∀ z ∈ (othL k ((lcL k zs).take j)).reverse, bits .andNot .i64 (fullI (k : Int)) ((lcL k zs)[j]?.getD 0) < z := by
  intro z hz
  rw [List.mem_reverse] at hz
  obtain ⟨y, hy, rfl⟩ := List.mem_map.1 hz
  obtain ⟨i, hi, rfl⟩ := List.getElem_of_mem hy
  rw [List.length_take] at hi
  rw [List.getElem_take, List.getElem?_eq_getElem hj]
  have h1 := List.pairwise_iff_getElem.1 (lcL_asc k zs) i j (by omega) hj (by omega)
  have mem : ∀ (x : Int), x ∈ lcL k zs → 0 ≤ x ∧ x.toNat < 2 ^ k := fun x hx => by
    obtain ⟨s, rfl, hs, -⟩ := lcL_mem.1 hx
    exact ⟨by omega, by rwa [Int.toNat_natCast]⟩
  obtain ⟨a1, a2⟩ := mem _ (List.getElem_mem (show i < (lcL k zs).length by omega))
  obtain ⟨b1, b2⟩ := mem _ (List.getElem_mem hj)
  rw [oth_at hk a1 a2]
  show bits .andNot .i64 (fullI (k : Int)) ((lcL k zs)[j]) < _
  rw [oth_at hk b1 b2]
  omega

set_option maxRecDepth 100000 in
set_option maxHeartbeats 4000000 in
theorem specCoverFree_any (m : Int) (a : Option Addr) (c : Nat) (zs : List Int) (w : World) (ha : Ints w w.heap.size a zs) (hx : zs.length ≤ 1048576) :
    Calls Tryd.prog 45 #[.agg #[.int .i64 m, .slice a zs.length c]] w (RetSB w (freeZ m zs) (famIn m zs)) := by
  have HB0 := Lib.hid (below1 w (.cells #[.int .i64 m, .slice a zs.length c] 25))
  obtain ⟨W1, hW1, b0, hs1⟩ : ∃ W1, w.alloc (.cells #[.int .i64 m, .slice a zs.length c] 25) = W1 ∧ HasBlk W1 w.heap.size #[.int .i64 m, .slice a zs.length c] 25 ∧ W1.heap.size = w.heap.size + 1 := ⟨_, rfl, alloc_new w _, by simp⟩
  rw [hW1] at HB0
  obtain ⟨W2, hW2, o2, hb2, hs2⟩ : ∃ W2, W1.alloc (.cells #[] 3) = W2 ∧ OwnN W2 W1.heap.size (some ⟨W1.heap.size, 0, none⟩) 0 0 [] ∧ Below W1.heap.size W1 W2 ∧ W2.heap.size = W1.heap.size + 1 :=
    ⟨_, rfl, own_empty (alloc_new W1 _) (Nat.le_refl _), below1 _ _, by simp⟩
  have hB2 := HB0.out.trans (hb2.mono (show w.heap.size ≤ W1.heap.size by omega))
  have hA := (ha.below hB2).mono (show w.heap.size ≤ W2.heap.size by omega)
  have b2 : HasBlk W2 w.heap.size #[.int .i64 m, .slice a zs.length c] 25 := (hb2.block _ (by omega)).trans b0
  have x0 := (blk_cell b2 0).trans (cell2_0 _ _)
  have x1 := (blk_cell b2 1).trans (cell2_1 _ _)
  have HFI := Lib.hid (specFamilyIn_any m a c zs W2 hA hx)
  have HA := Lib.hid hA
  have BB := Lib.hid b2
  have HB2 := Lib.hid hB2
  have HO2 := Lib.hid o2
  have HS1 := Lib.hid hs1
  have HS2 := Lib.hid hs2
  clear ha hA b0 hs1 o2 hb2 hs2 hB2 b2
  cases hf : famIn m zs
  · have HF := Lib.hid hf
    have HZ : Hid (freeZ m zs = []) := Lib.hid (by unfold freeZ; rw [hf]; rfl)
    clear hf
    go_enter Tryd.func45, Tryd.ntmps45
    go_wp2_with fail
    refine HFI.out.mono ?_
    rintro e w3 ⟨rfl, hb⟩
    rw [HF.out]
    have HB := Lib.hid hb
    clear hb hW1 hW2
    go_wp2
    go_ret2
    exact ⟨_, 0, by rw [HZ.out]; rfl, by rw [HZ.out]; exact own_mono (HO2.out.below HB.out) (by have := HS1.out; omega), HB2.out.trans (HB.out.mono (by have := HS1.out; have := HS2.out; omega))⟩
  · have HF := Lib.hid hf
    obtain ⟨k, rfl, hk1, hk6, hset, hl8⟩ := fam_nat hf
    have hk1I : (1 : Int) ≤ (k : Int) := by omega
    have hk6I : (k : Int) ≤ 6 := by omega
    have HZ : Hid (freeZ (k : Int) zs = (othL k (lcL k zs)).reverse) := Lib.hid (by unfold freeZ; rw [hf]; rfl)
    have HTK := Lib.hid (othL_take k (lcL k zs))
    have HLS := Lib.hid (othL_less hk6 zs)
    obtain ⟨n, hn⟩ : ∃ n, n = (lcL k zs).length := ⟨_, rfl⟩
    have HN := Lib.hid hn
    have hn64 : n ≤ 64 := by rw [hn]; exact lcL_len hk6 zs
    clear hf
    go_enter Tryd.func45, Tryd.ntmps45
    go_wp2_with fail
    refine HFI.out.mono ?_
    rintro e w3 ⟨rfl, hb⟩
    rw [HF.out]
    have b3 : HasBlk w3 w.heap.size #[.int .i64 (k : Int), .slice a zs.length c] 25 := (hb.block _ (lt_of_some BB.out)).trans BB.out
    have y0 := (blk_cell b3 0).trans (cell2_0 _ _)
    have y1 := (blk_cell b3 1).trans (cell2_1 _ _)
    have HC := Lib.hid (l4Sets_any k hk1 hk6 a c zs w3 ((HA.out.below hb).mono hb.size) hx hset)
    have HB3 := Lib.hid hb
    have B3 := Lib.hid b3
    have HW21 := Lib.hid (show w.heap.size < W2.heap.size from lt_of_some BB.out)
    clear hb b3 hW1 hW2 x0 x1
    go_wp2_with fail
    refine HC.out.mono ?_
    rintro e w4 ⟨g4, c4, rfl, ho, hb⟩
    have HI := Lib.hid ho
    have HB4 := Lib.hid (HB3.out.trans (hb.mono HB3.out.size))
    have B4 : Hid (HasBlk w4 w.heap.size #[.int .i64 (k : Int), .slice a zs.length c] 25) := Lib.hid ((hb.block _ (lt_of_some B3.out)).trans B3.out)
    rw [← hn] at ho ⊢
    have HIN : Hid (OwnN w4 w3.heap.size (some ⟨g4, 0, none⟩) n c4 (lcL k zs)) := Lib.hid ho
    clear ho hb hn
    go_wp2
    go_loopw [4, 6] (fun v i wr => ∃ (j g c' : Nat), j ≤ n ∧ i = .int .i64 j ∧ v = .slice (some ⟨g, 0, none⟩) j c' ∧ OwnN wr w.heap.size (some ⟨g, 0, none⟩) j c' (othL k ((lcL k zs).take j)).reverse ∧ Below w4.heap.size w4 wr) (fun _ i _ => n - (intOf i).toNat)
    case atStart => exact ⟨0, _, _, Nat.zero_le _, rfl, rfl, (HO2.out.below HB4.out).base (by have := HS1.out; omega), Below.refl _ _⟩
    case round =>
      obtain ⟨j, g, c', hj, rfl, rfl, ho, hb⟩ := hrel
      have hsz : w4.heap.size ≤ wr.heap.size := hb.size
      have hw4 : w.heap.size < w4.heap.size := lt_of_some B4.out
      have HO := Lib.hid ho
      have HB := Lib.hid hb
      by_cases hlt : j < n
      · have hcl := (hb.cell (p := ⟨g4, j, none⟩) (World.ownsRow.lt HIN.out _ rfl).2).trans (HIN.out.cell hlt)
        have z0 := (hb.cell (p := ⟨w.heap.size, 0, none⟩) hw4).trans ((blk_cell B4.out 0).trans (cell2_0 _ _))
        have z1 := (hb.cell (p := ⟨w.heap.size, 1, none⟩) hw4).trans ((blk_cell B4.out 1).trans (cell2_1 _ _))
        have hjI : (j : Int) < (n : Int) := by omega
        have hj0 : (0 : Int) ≤ (j : Int) := by omega
        have HT := Lib.hid (HTK.out j (by rw [← HN.out]; exact hlt))
        have HL := Lib.hid (HLS.out j (by rw [← HN.out]; exact hlt))
        have Z0 : Hid (w.heap.size < wr.drew.heap.size) := Lib.hid (by show w.heap.size < wr.heap.size; omega)
        have ZG : Hid (g4 < wr.drew.heap.size) := Lib.hid (Nat.lt_of_lt_of_le (World.ownsRow.lt HIN.out _ rfl).2 hsz)
        clear ho hb
        go_wp2_with fail
        go_region_held3 (fun w' => w'.cell? ⟨w.heap.size, 0, none⟩ = some (.int .i64 (k : Int)) ∧ w'.cell? ⟨w.heap.size, 1, none⟩ = some (.slice a zs.length c) ∧ w'.cell? ⟨g4, j, none⟩ = some (.int .i64 ((lcL k zs)[j]?.getD 0)))
          (first
            | exact ⟨z0, z1, hcl⟩
            | exact ⟨(hb5.cell (p := ⟨w.heap.size, 0, none⟩) Z0.out).trans z0, (hb5.cell (p := ⟨w.heap.size, 1, none⟩) Z0.out).trans z1, (hb5.cell (p := ⟨g4, j, none⟩) ZG.out).trans hcl⟩
            | exact ⟨((hb5.trans (hb6.mono hb5.size)).cell (p := ⟨w.heap.size, 0, none⟩) Z0.out).trans z0, ((hb5.trans (hb6.mono hb5.size)).cell (p := ⟨w.heap.size, 1, none⟩) Z0.out).trans z1, ((hb5.trans (hb6.mono hb5.size)).cell (p := ⟨g4, j, none⟩) ZG.out).trans hcl⟩)
          (first
            | (go_at_call 52; refine (l1All_b _ _ _ _ _ hk1I hk6I).mono ?_; rintro e w5 ⟨rfl, hb5⟩; have ho5 := OwnN.below HO.out (Below.trans (Below.refl wr.heap.size wr).drew hb5))
            | (go_at_call 83; refine ((l1Put_any g 0 j c' _ _ _ ho5.len ho5.ints (by omega) ho5.cap_le).mono (fun e w' h => put_front h ho5.len HL.out)).mono ?_; rintro e w6 ⟨g6, c6, rfl, ho6, hb6⟩))
        have HO6 := Lib.hid (ho6.base (B' := w.heap.size) (by have := hb5.size; have := Z0.out; omega))
        have HB6 := Lib.hid (HB.out.drew.trans ((hb5.trans (hb6.mono hb5.size)).mono (by show w4.heap.size ≤ wr.heap.size; omega)))
        clear hb5 hb6 ho5 ho6
        go_wp2
        go_roundw
        case rel => exact ⟨j + 1, g6, c6, by omega, by go_num, rfl, by rw [HT.out]; exact HO6.out, HB6.out⟩
        case measure => simp [intOf]; omega
      · obtain rfl : j = n := by omega
        have HT : Hid ((lcL k zs).take j = lcL k zs) := Lib.hid (by rw [HN.out, List.take_length])
        have HEN : Hid ((freeZ (k : Int) zs).length = j) := Lib.hid (by rw [HZ.out, List.length_reverse, othL, List.length_map, ← HN.out])
        clear ho hb
        go_wp2
        go_ret2
        refine ⟨_, c', by rw [HEN.out]; rfl, ?_, (HB2.out.trans (HB4.out.mono (by have := HW21.out; omega))).trans (HB.out.mono (by omega))⟩
        have h1 := HO.out
        rw [HT.out, ← HZ.out] at h1
        unfold OwnI
        rw [HEN.out]
        exact h1

end Go.Proofs.YtmojkeokkebbfaaDoor
