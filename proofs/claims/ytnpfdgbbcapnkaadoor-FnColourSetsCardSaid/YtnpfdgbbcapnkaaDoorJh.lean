/- It is proved what the reference model's ColourSets returns; conditions: those of each statement. -/
import Derived.RowKit
import Derived.Laws.CopyRow
import Derived.Lib.SlBuf
import Derived.Deep.QuietTactic
import Derived.RangeFuncNested
import Derived.RangeFuncBound
import Derived.RangeFuncCalls
import Derived.RangeFuncLeaves
import Derived.RangeFuncBox
import Derived.RangeFuncWrites
import Derived.StillTailTactics
import Derived.Maps.OwnIn
import Derived.Maps.Ext
import Derived.DeepKeys4
import Derived.MapKept
import Derived.Test.YtnpfdgbbcapnkaaDoorRows
import Derived.WalkKit
import Derived.WalkSpells
import Derived.ProofKit
import Derived.OpenShut
import Derived.ShutString
import Derived.ChangeOld
import Derived.Below
import Derived.Deep.RegionHeld3
import Derived.BigQuiet
import Derived.Lib.Hide
import Derived.Lib.SmallJoins
import Derived.Outline
import Derived.Laws.MakeOwn
import Derived.Laws.OwnMore
import Derived.IntWalk
import Derived.Lib.AppendZeros
import Derived.Maps.AppendAt
import Derived.Deep.AppendLies
import Derived.OwnWalk
import Derived.Lib.SlicesCompact
import Derived.Lib.OwnBridge
import Derived.OrdersIn
import Derived.TacticsIn
import Derived.Shelf.Sort.Plain
import Derived.Shelf.Slices.In.SortNone
import Derived.Shelf.Slices.CompactI
import Derived.Ground.Names2Prog
import Derived.Lib.SliceRun
import Derived.Shelf.Abstract
import Derived.Shelf.RegionOpen
import Derived.OwnWalkIn
import Derived.TacticsInMore
import Derived.LoopNIn
import Derived.LoopIn
import Derived.StillTail
import Derived.StillTactics
import Derived.Shelf.Spec.TrailingZeros
import Derived.Test.YtnpfdgbbcapnkaaDoorRbaa
import Derived.Test.YtnpfdgbbcapnkaaDoorRbab
import Derived.Test.YtnpfdgbbcapnkaaDoorRbas
import Derived.Test.YtnpfdgbbcapnkaaDoorRbaf
import Derived.Test.YtnpfdgbbcapnkaaDoorRbah
import Derived.Test.YtnpfdgbbcapnkaaDoorRbaq
import Derived.Test.YtnpfdgbbcapnkaaDoorRbak
import Derived.Test.YtnpfdgbbcapnkaaDoorKi
import Derived.Test.YtnpfdgbbcapnkaaDoorKj
import Derived.Test.YtnpfdgbbcapnkaaDoorRbag
namespace Go.Proofs.YtnpfdgbbcapnkaaDoor
open Go.RowKit

/-- Sets that are covers, and whose other members are one. -/
def csB (m : Nat) (zs : List Int) (s : Nat) : Bool := covB zs s && covB zs (2 ^ m - 1 - s)

def csTo (m : Nat) (zs : List Int) (n : Nat) : List Int := ((List.range n).filter (csB m zs)).map fun s => ((s : Nat) : Int)
theorem csTo_succ (m : Nat) (zs : List Int) (n : Nat) : csTo m zs (n + 1) = csTo m zs n ++ if csB m zs n then [(n : Int)] else [] := by
  rw [csTo, List.range_succ, List.filter_append, List.map_append]
  cases h : csB m zs n <;> simp [csTo, h]

theorem csTo_len (m : Nat) (zs : List Int) (n : Nat) : (csTo m zs n).length ≤ n := by
  unfold csTo
  rw [List.length_map]
  exact Nat.le_trans (List.length_filter_le _ _) (by simp)

def csL (m : Nat) (zs : List Int) : List Int := csTo m zs (2 ^ m)
def csZ (m : Int) (zs : List Int) : List Int := if famIn m zs then csL m.toNat zs else []
set_option maxRecDepth 100000 in
theorem oth_fin : ∀ m : Fin 7, ∀ s : Fin 64, s.val < 2 ^ m.val → bits BinOp.andNot IntKind.i64 ((2 ^ m.val - 1 : Nat) : Int) (s.val : Int) = ((2 ^ m.val - 1 - s.val : Nat) : Int) := by decide +kernel

theorem oth_at {m s : Nat} (hm : m ≤ 6) (hs : s < 2 ^ m) : bits BinOp.andNot IntKind.i64 ((2 ^ m - 1 : Nat) : Int) (s : Int) = ((2 ^ m - 1 - s : Nat) : Int) :=
  oth_fin ⟨m, by omega⟩ ⟨s, Nat.lt_of_lt_of_le hs (Nat.pow_le_pow_right (n := 2) (by decide) hm)⟩ hs

set_option maxRecDepth 100000 in
set_option maxHeartbeats 4000000 in
theorem specColourSets_any (m : Int) (a : Option Addr) (c : Nat) (zs : List Int) (w : World) (ha : Ints w w.heap.size a zs) (hx : zs.length ≤ 1048576) :
    Calls Tryd.prog 40 #[.agg #[.int .i64 m, .slice a zs.length c]] w (RetSB w (csZ m zs) (famIn m zs)) := by
  obtain ⟨i0, hi0, hz0, hz1, hz2⟩ := info_parts Tryd.info3
  unfold csZ
  obtain ⟨W0, hW0, b0, hs0, hB0⟩ : ∃ W0, (w.alloc (.cells #[.int .i64 m, .slice a zs.length c] 25)).alloc (.cells #[] 3) = W0 ∧ HasBlk W0 w.heap.size #[.int .i64 m, .slice a zs.length c] 25 ∧ W0.heap.size = w.heap.size + 1 + 1 ∧ Below w.heap.size w W0 :=
    ⟨_, rfl, alloc2_0 w _ _, by simp, below2 w _ _⟩
  have hO0 : OwnN W0 (w.heap.size + 1) (some ⟨w.heap.size + 1, 0, none⟩) 0 0 ([] : List Int) := by
    rw [← hW0]
    have h := alloc_new (w.alloc (.cells #[.int .i64 m, .slice a zs.length c] 25)) (.cells #[] 3)
    simp only [World.size_alloc] at h
    exact own_empty h (Nat.le_refl _)
  have x0 := (blk_cell b0 0).trans (cell2_0 _ _)
  have x1 := (blk_cell b0 1).trans (cell2_1 _ _)
  rw [← hW0] at x0 x1
  have HW0 := Lib.hid hW0
  have HS0 := Lib.hid hs0
  have HB0 := Lib.hid hB0
  have HO0 := Lib.hid hO0
  have B0 := Lib.hid b0
  have HA := Lib.hid ((ha.below hB0).mono hB0.size)
  have HA0 := Lib.hid ha
  clear ha hW0 hs0 hB0 hO0 b0
  cases hf : famIn m zs
  · have HF := Lib.hid hf
    clear hf
    go_enter Tryd.func40, Tryd.ntmps40
    go_wp2_with fail
    rw [HW0.out]
    refine (specFamilyIn_any _ _ _ zs _ HA.out hx).mono ?_
    rintro e w1 ⟨rfl, hb⟩
    rw [HF.out]
    have HB := Lib.hid hb
    clear hb
    go_wp2
    go_ret2
    exact ⟨_, 0, rfl, own_mono (HO0.out.below (HB.out.mono (by have := HS0.out; omega))) (by omega), HB0.out.trans (HB.out.mono (by have := HS0.out; omega))⟩
  · have HF := Lib.hid hf
    obtain ⟨k, rfl, hk1, hk6, hset, hl8⟩ := fam_nat hf
    have hp64 : 2 ^ k ≤ 64 := Nat.pow_le_pow_right (n := 2) (by decide) hk6
    have hz64 : ∀ z ∈ zs, 0 ≤ z ∧ z.toNat < 64 := fun z h => ⟨(hset z h).1, by have := (hset z h).2; omega⟩
    have hfull : fullI (k : Int) = ((2 ^ k - 1 : Nat) : Int) := by unfold fullI; rw [cast_full]; simp
    have hoth : ∀ s : Nat, s < 2 ^ k → bits BinOp.andNot IntKind.i64 ((2 ^ k - 1 : Nat) : Int) (s : Int) = ((2 ^ k - 1 - s : Nat) : Int) := fun s h => oth_at hk6 h
    obtain ⟨N, hN⟩ : ∃ N, N = 2 ^ k := ⟨_, rfl⟩
    have hN1 : 1 ≤ N := by rw [hN]; exact Nat.one_le_two_pow
    have HNN := Lib.hid hN
    rw [← hN] at hp64 hfull hoth
    have HOTH := Lib.hid hoth
    have HFU := Lib.hid hfull
    have HZ := Lib.hid hz64
    have hm1I : (1 : Int) ≤ (k : Int) := by omega
    have hm6I : (k : Int) ≤ 6 := by omega
    have HBO : Hid (∀ s : Nat, csB k zs s = (covB zs s && covB zs (N - 1 - s))) := Lib.hid fun s => by rw [hN, csB]
    have HIN : Hid (∀ (s : Nat) (W : World), s < 64 → Ints W W.heap.size a zs → Calls Tryd.prog 83 #[.slice a zs.length c, .int .i64 (s : Int)] W fun e w' => e = .returned (.bool (covB zs s)) ∧ W = w') := Lib.hid fun s W hs hi => l4In_any a c zs s W hi hx HZ.out hs
    clear hf hset hz64 hfull hN hoth
    go_enter Tryd.func40, Tryd.ntmps40
    go_wp2_with fail
    rw [HW0.out]
    refine (specFamilyIn_any _ _ _ zs _ HA.out hx).mono ?_
    rintro e w1 ⟨rfl, hb⟩
    rw [HF.out]
    have hs1 := hb.size
    have HB1 := Lib.hid (hb.mono (show w.heap.size + 1 ≤ W0.heap.size by have := HS0.out; omega))
    have HBb := Lib.hid (HB0.out.trans (hb.mono (show w.heap.size ≤ W0.heap.size by have := HS0.out; omega)))
    have hbk : HasBlk w1 w.heap.size #[.int .i64 (k : Int), .slice a zs.length c] 25 := (hb.block _ (by have := HS0.out; omega)).trans B0.out
    have HBK := Lib.hid hbk
    have HO1 := Lib.hid (HO0.out.below hb)
    have HI1 := Lib.hid ((HA.out.below hb).mono hb.size)
    have HS1 := Lib.hid (show w.heap.size + 2 ≤ w1.heap.size by have := HS0.out; omega)
    clear hb hbk hs1 x0 x1
    go_wp2
    go_loopw [4, 5] (fun v i wr => ∃ (j n' : Nat) (g' c' : Nat), j ≤ N ∧ i = .int .i64 (j : Int) ∧ v = .slice (some ⟨g', 0, none⟩) n' c' ∧ n' ≤ j ∧ OwnN wr (w.heap.size + 1) (some ⟨g', 0, none⟩) n' c' (csTo k zs j) ∧ Below (w.heap.size + 1) w1 wr) (fun _ i _ => N - (intOf i).toNat)
    case atStart => exact ⟨0, _, _, _, Nat.zero_le _, rfl, rfl, Nat.le_refl _, HO1.out, Below.refl _ _⟩
    case round =>
      obtain ⟨j, n', g', c', hj, rfl, rfl, hn', ho, hb⟩ := hrel
      obtain ⟨wo, rfl⟩ : ∃ wo, wo = wr := ⟨wr, rfl⟩
      have HO := Lib.hid ho
      have HB := Lib.hid hb
      have hsw := hb.size
      have hs1 := HS1.out
      have hwo : w.heap.size < wo.heap.size := by omega
      have hbo : HasBlk wo w.heap.size #[.int .i64 (k : Int), .slice a zs.length c] 25 := (hb.block _ (by omega)).trans HBK.out
      have x0 := (blk_cell hbo 0).trans (cell2_0 _ _)
      have x1 := (blk_cell hbo 1).trans (cell2_1 _ _)
      have HIr := Lib.hid (HA0.out.below (HBb.out.trans (hb.mono (show w.heap.size ≤ w.heap.size + 1 by omega))))
      have HCS := Lib.hid (csTo_succ k zs j)
      have HBJ := Lib.hid (HBO.out j)
      clear ho hb hbo hs1
      have HAL := Lib.hid (l1All_b (k : Int) a zs.length c wo hm1I hm6I)
      have hj0 : (0 : Int) ≤ (j : Int) := by omega
      have hj64I : (j : Int) ≤ 64 := by omega
      by_cases hlt : j < N
      · have hjN : (j : Int) ≤ ((N - 1 : Nat) : Int) := by omega
        have hj64 : j < 64 := by omega
        have hoj := HOTH.out j hlt
        obtain ⟨U, hU⟩ : ∃ U, U = N - 1 - j := ⟨_, rfl⟩
        have hU64 : U < 64 := by omega
        rw [← hU] at hoj HBJ
        clear hU
        go_wp2_with fail
        refine HAL.out.mono ?_
        rintro e w2 ⟨rfl, hb2⟩
        rw [HFU.out]
        have y0 := (hb2.cell (p := ⟨w.heap.size, 0, none⟩) hwo).trans x0
        have y1 := (hb2.cell (p := ⟨w.heap.size, 1, none⟩) hwo).trans x1
        have hs2 := hb2.size
        have hsv : w.heap.size < w2.drew.heap.size := by show w.heap.size < w2.heap.size; omega
        have HI2 : Hid (Ints w2.drew w2.drew.heap.size a zs) := Lib.hid (show Ints w2 w2.heap.size a zs from (HIr.out.below (hb2.mono (show w.heap.size ≤ wo.heap.size by omega))).mono (by omega))
        have HB2 := Lib.hid hb2
        clear hb2 x0 x1
        have HI3X : ∀ {W : World}, Below w2.drew.heap.size w2.drew W → Ints W W.heap.size a zs := fun h => (HI2.out.below h).mono h.size
        cases hc1 : covB zs j
        · have HC1 := Lib.hid hc1
          have HMB : Hid (csTo k zs (j + 1) = csTo k zs j) := Lib.hid (by rw [HCS.out, HBJ.out, hc1]; simp)
          have HIV := Lib.hid (HIN.out j w2.drew hj64 HI2.out)
          clear hc1
          go_wp2
          go_still_tail 12, (by kernel_rfl)
          still_call (HIV.out.mono fun _ _ h => ⟨by rw [h.1, HC1.out], h.2.symm⟩)
          repeat still_step
          refine wpStill_nil ?_
          change wpList _ _ _ _ _ w2.drew
          have HBW := Lib.hid (HB2.out.drew)
          go_wp2
          go_roundw
          case rel => exact ⟨j + 1, n', g', c', by omega, by go_num, rfl, by omega, by rw [HMB.out]; exact HO.out.below HBW.out, HB.out.trans (HBW.out.mono (by omega))⟩
          case measure => simp [intOf]; omega
        · have HC1 := Lib.hid hc1
          cases hc2 : covB zs U
          · have HC2 := Lib.hid hc2
            have HMB : Hid (csTo k zs (j + 1) = csTo k zs j) := Lib.hid (by rw [HCS.out, HBJ.out, hc1, hc2]; simp)
            clear hc1 hc2
            go_wp2
            go_region_held3 (fun w' => w'.cell? ⟨w.heap.size, 0, none⟩ = some (.int .i64 (k : Int)) ∧ w'.cell? ⟨w.heap.size, 1, none⟩ = some (.slice a zs.length c))
              (first
                | exact ⟨y0, y1⟩
                | exact ⟨(hb3.cell (p := ⟨w.heap.size, 0, none⟩) hsv).trans y0, (hb3.cell (p := ⟨w.heap.size, 1, none⟩) hsv).trans y1⟩)
              (first
                | (go_at_call 83; with_reducible refine (HIN.out j w2.drew hj64 HI2.out).mono ?_; rintro e w4 ⟨rfl, rfl⟩; rw [HC1.out])
                | (go_at_call 57; with_reducible refine (l1All_b (k : Int) a zs.length c _ hm1I hm6I).mono ?_; rintro e w3 ⟨rfl, hb3⟩; rw [HFU.out])
                | (go_at_call 83; with_reducible refine (HIN.out U w3 hU64 (HI3X hb3)).mono ?_; rintro e w4 ⟨rfl, rfl⟩; rw [HC2.out]))
            rename_i hHeldX
            clear hHeldX y0 y1
            all_goals
              have HB3 : Hid (Below wo.heap.size wo w3) := Lib.hid (HB2.out.drew.trans (hb3.mono (show wo.heap.size ≤ w2.heap.size by omega)))
              go_wp2
              go_roundw
              case rel => exact ⟨j + 1, n', g', c', by omega, by go_num, rfl, by omega, by rw [HMB.out]; exact HO.out.below HB3.out, HB.out.trans (HB3.out.mono (by omega))⟩
              case measure => simp [intOf]; omega
          · have HC2 := Lib.hid hc2
            have HMB : Hid (csTo k zs (j + 1) = csTo k zs j ++ [(j : Int)]) := Lib.hid (by rw [HCS.out, HBJ.out, hc1, hc2]; simp)
            clear hc1 hc2
            go_wp2
            go_region_held3 (fun w' => w'.cell? ⟨w.heap.size, 0, none⟩ = some (.int .i64 (k : Int)) ∧ w'.cell? ⟨w.heap.size, 1, none⟩ = some (.slice a zs.length c))
              (first
                | exact ⟨y0, y1⟩
                | exact ⟨(hb3.cell (p := ⟨w.heap.size, 0, none⟩) hsv).trans y0, (hb3.cell (p := ⟨w.heap.size, 1, none⟩) hsv).trans y1⟩)
              (first
                | (go_at_call 83; with_reducible refine (HIN.out j w2.drew hj64 HI2.out).mono ?_; rintro e w4 ⟨rfl, rfl⟩; rw [HC1.out])
                | (go_at_call 57; with_reducible refine (l1All_b (k : Int) a zs.length c _ hm1I hm6I).mono ?_; rintro e w3 ⟨rfl, hb3⟩; rw [HFU.out])
                | (go_at_call 83; with_reducible refine (HIN.out U w3 hU64 (HI3X hb3)).mono ?_; rintro e w4 ⟨rfl, rfl⟩; rw [HC2.out]))
            rename_i hHeldX
            clear hHeldX y0 y1
            have HB3 : Hid (Below wo.heap.size wo w3) := Lib.hid (HB2.out.drew.trans (hb3.mono (show wo.heap.size ≤ w2.heap.size by omega)))
            have HOS := Lib.hid (HO.out.below HB3.out)
            have HBW := Lib.hid (HB.out.trans (HB3.out.mono (by omega)))
            have hs3 := HB3.out.size
            clear hb3
            go_wp2_with (at_builtin; refine wpList_append_own _ rfl _ _ 23 rfl (w.heap.size + 1) 3 i0 (.int .i64 0) 1 8 Tryd.underlying23 hi0 hz0 hz1 hz2 rfl (by decide) _ _ _ rfl (HOS.out.alloc _) ⟨w3.heap.size, 0, none⟩ 1 1 [.int .i64 (j : Int)] rfl rfl (cell_one_new _ _ _) (by simp [Value.oneCell']) (by simp only [maxLen]; omega) (by omega) (by simp; omega) ?_; intro v' w5 hown hgrow _; obtain ⟨g2, cap', rfl, _, _⟩ := World.ownsRow.form hown (by omega))
            go_roundw
            case rel => exact ⟨j + 1, n' + 1, _, cap', by omega, by go_num, rfl, by omega, by
              rw [HMB.out]
              have h1 := hown
              unfold OwnN
              rw [List.map_append]
              exact h1, (HBW.out.alloc (by omega) _).grown hgrow (by simp; omega) (fun g e => (World.ownsRow.lt HOS.out g e).1)⟩
            case measure => simp [intOf]; omega
      · obtain rfl : j = N := by omega
        have HLL : Hid (csTo k zs j = csL k zs) := Lib.hid (by rw [HNN.out]; rfl)
        have hl : n' = (csL k zs).length := by rw [← HLL.out]; exact HO.out.len.symm
        subst hl
        have hjN : (((j - 1 : Nat) : Int)) < (j : Int) := by omega
        go_wp2_with fail
        refine HAL.out.mono ?_
        rintro e w2 ⟨rfl, hb2⟩
        rw [HFU.out]
        have HB2 := Lib.hid hb2
        clear hb2
        go_wp2
        go_ret2
        refine ⟨_, c', rfl, ?_, (HBb.out.trans (HB.out.mono (by omega))).trans (HB2.out.mono (by omega))⟩
        have h1 := (HO.out.below HB2.out).base (B' := w.heap.size) (by omega)
        rw [HLL.out] at h1
        exact h1

end Go.Proofs.YtnpfdgbbcapnkaaDoor
