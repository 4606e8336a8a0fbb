/- It is proved what the reference model's l7Many, ColourMany and ColourFirst return; conditions: those of each statement. -/
import Derived.RowKit
import Derived.Laws.CopyRow
import Derived.Lib.SlBuf
import Derived.Deep.QuietTactic
import Derived.RangeFuncNested
import Derived.RangeFuncBound
import Derived.RangeFuncCalls
import Derived.RangeFuncLeaves
import Derived.RangeFuncBox
import Derived.RangeFuncWrites
import Derived.StillTailTactics
import Derived.Maps.OwnIn
import Derived.Maps.Ext
import Derived.DeepKeys4
import Derived.MapKept
import Derived.Test.YtnpfdgbbcapnkaaDoorRows
import Derived.WalkKit
import Derived.WalkSpells
import Derived.ProofKit
import Derived.OpenShut
import Derived.ShutString
import Derived.ChangeOld
import Derived.Below
import Derived.Deep.RegionHeld3
import Derived.BigQuiet
import Derived.Lib.Hide
import Derived.Lib.SmallJoins
import Derived.Outline
import Derived.Laws.MakeOwn
import Derived.Laws.OwnMore
import Derived.IntWalk
import Derived.Maps.AppendAt
import Derived.Sort.MapsRangeIn
import Derived.Deep.RegionLaw
import Derived.Deep.AppendLies
import Derived.Lib.AppendZeros
import Derived.OwnWalk
import Derived.Lib.SlicesCompact
import Derived.Lib.OwnBridge
import Derived.OrdersIn
import Derived.TacticsIn
import Derived.Shelf.Sort.Plain
import Derived.Shelf.Slices.In.SortNone
import Derived.Shelf.Slices.CompactI
import Derived.Ground.Names2Prog
import Derived.Lib.SliceRun
import Derived.Shelf.RegionOpen
import Derived.Shelf.Abstract
import Derived.OwnWalkIn
import Derived.TacticsInMore
import Derived.LoopNIn
import Derived.LoopIn
import Derived.StillTail
import Derived.StillTactics
import Derived.Shelf.Spec.TrailingZeros
import Derived.Deep.LoopGhost
import Derived.Test.YtnpfdgbbcapnkaaDoorRbaq
import Derived.Test.YtnpfdgbbcapnkaaDoorRbaa
import Derived.Test.YtnpfdgbbcapnkaaDoorRbbb
import Derived.Test.YtnpfdgbbcapnkaaDoorRbab
import Derived.Test.YtnpfdgbbcapnkaaDoorRbai
import Derived.Test.YtnpfdgbbcapnkaaDoorRbaj
import Derived.Test.YtnpfdgbbcapnkaaDoorRbba
import Derived.Test.YtnpfdgbbcapnkaaDoorRbaf
import Derived.Test.YtnpfdgbbcapnkaaDoorRbah
import Derived.Test.YtnpfdgbbcapnkaaDoorRbak
import Derived.Test.YtnpfdgbbcapnkaaDoorRbas
import Derived.Test.YtnpfdgbbcapnkaaDoorRbav
import Derived.Test.YtnpfdgbbcapnkaaDoorRbag
import Derived.Test.YtnpfdgbbcapnkaaDoorRbal
import Derived.Test.YtnpfdgbbcapnkaaDoorRbaw
import Derived.Test.YtnpfdgbbcapnkaaDoorRbap
namespace Go.Proofs.YtnpfdgbbcapnkaaDoor
open Go.RowKit

theorem in_col (k l : Int) : inB k l 4 = colIn k l := by
  unfold colIn
  by_cases h1 : l ≤ k
  · by_cases h2 : k ≤ 4
    · rw [inB_true h1 h2]; simp [h1, h2]
    · rw [inB_false (.inr (by omega))]; simp [h2]
  · rw [inB_false (.inl (by omega))]; simp [h1]

theorem allM_mix {m : Nat} (hm : m ≤ 6) {zs : List Int} (hz : Sets m zs) {cs : List Int} (hc : cs.length = m) : zs.all (mixM cs) = mixB zs cs := by
  unfold mixB
  rw [Bool.eq_iff_iff, List.all_eq_true, List.all_eq_true]
  refine forall_congr' fun z => forall_congr' fun h => ?_
  rw [mixM_is (by omega) (by rw [hc]; exact (hz z h).2)]

/-- How many of the first lists are mixed. -/
def manyTo (m : Nat) (zs : List Int) (k j : Nat) : Nat := (List.range j).countP fun c => mixB zs (digs k m c)

theorem manyTo_succ (m : Nat) (zs : List Int) (k j : Nat) : manyTo m zs k (j + 1) = manyTo m zs k j + if mixB zs (digs k m j) then 1 else 0 := by
  unfold manyTo
  rw [List.range_succ, List.countP_append]
  cases h : mixB zs (digs k m j) <;> simp [h]

theorem manyTo_all (m : Nat) (zs : List Int) (k : Nat) : manyTo m zs k (k ^ m) = cntCM m zs k := by
  unfold manyTo cntCM
  rw [← digs_words, List.countP_map]
  rfl

theorem manyTo_le (m : Nat) (zs : List Int) (k j : Nat) : manyTo m zs k j ≤ j := by
  unfold manyTo
  exact Nat.le_trans List.countP_le_length (by simp)

theorem pow_le6 {k m : Nat} (hk : k ≤ 6) (hm : m ≤ 6) : k ^ m ≤ 46656 := Nat.le_trans (Nat.pow_le_pow_left hk m) (Nat.le_trans (Nat.pow_le_pow_right (n := 6) (by decide) hm) (by decide))
theorem kpos {k m j : Nat} (hm : 1 ≤ m) (h : j < k ^ m) : 1 ≤ k := by
  cases k with
  | zero => rw [Nat.zero_pow (by omega)] at h; omega
  | succ k => omega

set_option maxRecDepth 100000 in
set_option maxHeartbeats 4000000 in
theorem l7Many_any (m k : Nat) (hm1 : 1 ≤ m) (hm : m ≤ 6) (hk : k ≤ 6) (a : Option Addr) (c : Nat) (zs : List Int) (w : World) (ha : Ints w w.heap.size a zs) (hx : zs.length ≤ 1048576) (hz : Sets m zs) :
    Calls Tryd.prog 63 #[.agg #[.int .i64 (m : Int), .slice a zs.length c], .int .i64 (k : Int)] w fun e w' => e = .returned (.int .i64 ((cntCM m zs k : Nat) : Int)) ∧ Below w.heap.size w w' := by
  have hP := pow_le6 hk hm
  obtain ⟨P, hPP⟩ : ∃ P, P = k ^ m := ⟨_, rfl⟩
  have HP : Hid (∀ W, Calls Tryd.prog 69 #[.int .i64 (k : Int), .int .i64 (m : Int)] W fun e w' => e = .returned (.int .i64 (P : Int)) ∧ W = w') := Lib.hid fun W => by rw [hPP]; exact l7Power_any k m hk hm W
  have HPP := Lib.hid hPP
  rw [← hPP] at hP
  have hz64 : ∀ z ∈ zs, 0 ≤ z ∧ z.toNat < 64 := fun z h => ⟨(hz z h).1, p64 hm (hz z h).2⟩
  obtain ⟨W1, hW1, b0, hs1, hb1⟩ : ∃ W1, w.alloc (.cells #[.int .i64 (m : Int), .slice a zs.length c] 25) = W1 ∧ HasBlk W1 w.heap.size #[.int .i64 (m : Int), .slice a zs.length c] 25 ∧ W1.heap.size = w.heap.size + 1 ∧ Below w.heap.size w W1 := ⟨_, rfl, alloc_new w _, by simp, below1 w _⟩
  have HB1 := Lib.hid hb1
  have HI1 : Hid (Ints W1 W1.heap.size a zs) := Lib.hid ((ha.below hb1).mono (by omega))
  have HKEEP : Hid (∀ W, Below W1.heap.size W1 W → W.cell? ⟨w.heap.size, 0, none⟩ = some (.int .i64 (m : Int)) ∧ W.cell? ⟨w.heap.size, 1, none⟩ = some (.slice a zs.length c)) := Lib.hid fun W hW =>
    ⟨(hW.cell (p := ⟨w.heap.size, 0, none⟩) (show w.heap.size < W1.heap.size by omega)).trans ((blk_cell b0 0).trans (cell2_0 _ _)), (hW.cell (p := ⟨w.heap.size, 1, none⟩) (show w.heap.size < W1.heap.size by omega)).trans ((blk_cell b0 1).trans (cell2_1 _ _))⟩
  have HS1 := Lib.hid hs1
  have HZ := Lib.hid hz
  have HZ64 := Lib.hid hz64
  have HR0 : Hid (Below W1.heap.size W1 W1) := Lib.hid (Below.refl _ _)
  have hm1I : (1 : Int) ≤ (m : Int) := by omega
  have hm6I : (m : Int) ≤ 6 := by omega
  have hPI : (P : Int) ≤ 46656 := by omega
  clear ha b0 hs1 hb1 hPP hz hz64
  go_enter Tryd.func63, Tryd.ntmps63
  go_wp2
  clear hW1
  go_loopw [5, 6] (fun s5 s6 wr => ∃ j : Nat, j ≤ P ∧ s6 = .int .i64 (j : Int) ∧ s5 = .int .i64 ((manyTo m zs k j : Nat) : Int) ∧ Hid (Below W1.heap.size W1 wr)) (fun _ s6 _ => P - (intOf s6).toNat)
  case atStart => exact ⟨0, Nat.zero_le _, rfl, rfl, HR0⟩
  case round =>
    obtain ⟨j, hj, rfl, rfl, HB⟩ := hrel
    clear HR0
    obtain ⟨x0, x1⟩ := HKEEP.out _ HB.out
    have hMl := manyTo_le m zs k j
    obtain ⟨M, hM⟩ : ∃ M, M = manyTo m zs k j := ⟨_, rfl⟩
    have HM := Lib.hid hM
    rw [← hM] at hMl ⊢
    clear hM
    have hjI : (j : Int) ≤ 46656 := by omega
    have hj0 : (0 : Int) ≤ (j : Int) := by omega
    have hMI : (M : Int) ≤ 46656 := by omega
    have hM0 : (0 : Int) ≤ (M : Int) := by omega
    by_cases hlt : j < P
    · have hjP : (j : Int) < (P : Int) := by omega
      have hk1 : 1 ≤ k := kpos hm1 (by rw [← HPP.out]; exact hlt)
      have HCO : Hid (∀ W, Calls Tryd.prog 70 #[.int .i64 (m : Int), .int .i64 (k : Int), .int .i64 (j : Int)] W fun e w' => e = .returned (.slice (some ⟨W.heap.size, 0, none⟩) m m) ∧ Nums w' W.heap.size 3 (digs k m j) ∧ Below W.heap.size W w') := Lib.hid fun W => l7Colours_any m k j hm1 hm hk1 hk (by omega) W
      have HSU := Lib.hid (manyTo_succ m zs k j)
      have HMX : Hid (∀ W (g : Nat), Below W1.heap.size W1 W → Nums W g 3 (digs k m j) → Calls Tryd.prog 71 #[.slice a zs.length c, .slice (some ⟨g, 0, none⟩) m m] W fun e w' => e = .returned (.bool (mixB zs (digs k m j))) ∧ Below W.heap.size W w') := Lib.hid fun W g hW hn => by
        have := l7Mixed_any m hm a c zs (some ⟨g, 0, none⟩) m (digs k m j) (digs_len k m j) W (HI1.out.step hW) (ints_blk (show HasBlk W g (iv (digs k m j)) 3 from hn) _ hn.lt) hx HZ64.out
        rwa [allM_mix hm HZ.out (digs_len k m j)] at this
      have HRX := Lib.hid HB.out
      cases hmx : mixB zs (digs k m j)
      · have HF := Lib.hid hmx
        have HEE : Hid (manyTo m zs k (j + 1) = M) := Lib.hid (by have HE := HSU.out; rw [hmx, ← HM.out] at HE; simpa using HE)
        rw [hmx] at HMX
        clear hmx HSU
        go_wp2_with (go_at_call 69; refine (HP.out _).mono ?_; rintro e w2 ⟨rfl, rfl⟩)
        have hbz : Below W1.heap.size W1 wr.drew := HB.out.drew
        have HDR : Hid (∀ W, Below wr.heap.size wr.drew W → Below W1.heap.size W1 W) := Lib.hid fun W h => HB.out.drew.trans (h.mono HB.out.size)
        go_region_held3 (fun w' => w'.cell? ⟨w.heap.size, 0, none⟩ = some (.int .i64 (m : Int)) ∧ w'.cell? ⟨w.heap.size, 1, none⟩ = some (.slice a zs.length c))
          (first | exact ⟨x0, x1⟩ | exact HKEEP.out _ (by assumption))
          (first
            | (go_at_call 70; refine (HCO.out _).mono ?_; rintro e w3 ⟨rfl, hn3, hb3⟩; have hb31 := HDR.out _ hb3; have HN3 := Lib.hid hn3)
            | (go_at_call 71; refine (HMX.out _ _ (by assumption) HN3.out).mono ?_; rintro e w4 ⟨rfl, hb4⟩; have HB4 := Lib.hid (hb31.trans (hb4.mono hb31.size))))
        all_goals
          go_wp2
          go_roundw
          case rel => exact ⟨j + 1, by omega, by go_num, by rw [HEE.out], HB4⟩
          case measure => simp [intOf]; omega
      · have HF := Lib.hid hmx
        have HEE : Hid (manyTo m zs k (j + 1) = M + 1) := Lib.hid (by have HE := HSU.out; rw [hmx, ← HM.out] at HE; simpa using HE)
        rw [hmx] at HMX
        clear hmx HSU
        go_wp2_with (go_at_call 69; refine (HP.out _).mono ?_; rintro e w2 ⟨rfl, rfl⟩)
        have hbz : Below W1.heap.size W1 wr.drew := HB.out.drew
        have HDR : Hid (∀ W, Below wr.heap.size wr.drew W → Below W1.heap.size W1 W) := Lib.hid fun W h => HB.out.drew.trans (h.mono HB.out.size)
        go_region_held3 (fun w' => w'.cell? ⟨w.heap.size, 0, none⟩ = some (.int .i64 (m : Int)) ∧ w'.cell? ⟨w.heap.size, 1, none⟩ = some (.slice a zs.length c))
          (first | exact ⟨x0, x1⟩ | exact HKEEP.out _ (by assumption))
          (first
            | (go_at_call 70; refine (HCO.out _).mono ?_; rintro e w3 ⟨rfl, hn3, hb3⟩; have hb31 := HDR.out _ hb3; have HN3 := Lib.hid hn3)
            | (go_at_call 71; refine (HMX.out _ _ (by assumption) HN3.out).mono ?_; rintro e w4 ⟨rfl, hb4⟩; have HB4 := Lib.hid (hb31.trans (hb4.mono hb31.size))))
        all_goals
          go_wp2
          go_roundw
          case rel => exact ⟨j + 1, by omega, by go_num, by rw [HEE.out]; go_num, HB4⟩
          case measure => simp [intOf]; omega
    · obtain rfl : j = P := by omega
      have HE : Hid (M = cntCM m zs k) := Lib.hid (by rw [HM.out, HPP.out, manyTo_all])
      have HR : Hid (Below w.heap.size w wr) := Lib.hid (HB1.out.trans (HB.out.mono (by have := HS1.out; omega)))
      go_wp2_with (go_at_call 69; refine (HP.out _).mono ?_; rintro e w2 ⟨rfl, rfl⟩)
      go_ret
      exact ⟨by rw [← HE.out]; rfl, HR.out⟩

end Go.Proofs.YtnpfdgbbcapnkaaDoor

/- It is proved what the reference model's ColourMany and ColourFirst return; conditions: those of each statement. -/
namespace Go.Proofs.YtnpfdgbbcapnkaaDoor
open Go.RowKit

set_option maxRecDepth 100000 in
set_option maxHeartbeats 2000000 in
theorem specColourMany_any (m k : Int) (a : Option Addr) (c : Nat) (zs : List Int) (w : World) (ha : Ints w w.heap.size a zs) (hx : zs.length ≤ 1048576) :
    Calls Tryd.prog 24 #[.agg #[.int .i64 m, .slice a zs.length c], .int .i64 k] w (RetIB w (outCM m zs k) (okCM m zs k)) := by
  have HB0 := Lib.hid (below1 w (.cells #[.int .i64 m, .slice a zs.length c] 25))
  have HA := Lib.hid (ha.below HB0.out)
  clear ha
  cases hf : famIn m zs
  · have HF := Lib.hid hf
    have HZ : Hid (outCM m zs k = 0) := Lib.hid (by unfold outCM; rw [hf]; rfl)
    have HO : Hid (okCM m zs k = false) := Lib.hid (by unfold okCM; rw [hf]; rfl)
    clear hf
    go_enter Tryd.func24, Tryd.ntmps24
    go_wp2_with fail
    refine (specFamilyIn_any _ _ _ zs _ (HA.out.mono (by simp)) hx).mono ?_
    rintro e w1 ⟨rfl, hb⟩
    rw [HF.out]
    have HB := Lib.hid (HB0.out.trans (hb.mono (by simp)))
    clear hb
    go_wp2
    go_ret2
    exact ⟨by rw [HZ.out, HO.out]; rfl, HB.out⟩
  · cases hc : colIn k 0
    · have HF := Lib.hid hf
      have HC : Hid (inB k 0 4 = false) := Lib.hid (by rw [in_col]; exact hc)
      have HZ : Hid (outCM m zs k = 0) := Lib.hid (by unfold outCM; rw [hf, hc]; rfl)
      have HO : Hid (okCM m zs k = false) := Lib.hid (by unfold okCM; rw [hf, hc]; rfl)
      clear hf hc
      go_enter Tryd.func24, Tryd.ntmps24
      go_wp2_with fail
      refine (specFamilyIn_any _ _ _ zs _ (HA.out.mono (by simp)) hx).mono ?_
      rintro e w1 ⟨rfl, hb⟩
      rw [HF.out]
      have HB := Lib.hid (HB0.out.trans (hb.mono (by simp)))
      clear hb
      go_wp2_with fail
      refine (l6In_any _ _ _ _).mono ?_
      rintro e w2 ⟨rfl, rfl⟩
      rw [HC.out]
      go_wp2
      go_ret2
      exact ⟨by rw [HZ.out, HO.out]; rfl, HB.out⟩
    · have HF := Lib.hid hf
      have HC : Hid (inB k 0 4 = true) := Lib.hid (by rw [in_col]; exact hc)
      obtain ⟨k, rfl, hk4, -⟩ := colIn_nat (Int.le_refl 0) hc
      obtain ⟨m, rfl, hm1, hm6, hset, hl8⟩ := fam_nat2 hf
      have HZ : Hid (outCM (m : Int) zs (k : Int) = ((cntCM m zs k : Nat) : Int)) := Lib.hid (by unfold outCM; rw [hf, hc]; rfl)
      have HO : Hid (okCM (m : Int) zs (k : Int) = true) := Lib.hid (by unfold okCM; rw [hf, hc]; rfl)
      have HMA : Hid (∀ W, Ints W W.heap.size a zs → Calls Tryd.prog 63 #[.agg #[.int .i64 (m : Int), .slice a zs.length c], .int .i64 (k : Int)] W fun e w' => e = .returned (.int .i64 ((cntCM m zs k : Nat) : Int)) ∧ Below W.heap.size W w') := Lib.hid fun W h => l7Many_any m k hm1 hm6 (by omega) a c zs W h hx hset
      clear hf hc hset
      go_enter Tryd.func24, Tryd.ntmps24
      go_wp2_with fail
      refine (specFamilyIn_any _ _ _ zs _ (HA.out.mono (by simp)) hx).mono ?_
      rintro e w1 ⟨rfl, hb⟩
      rw [HF.out]
      have b0 : HasBlk w1 w.heap.size #[.int .i64 (m : Int), .slice a zs.length c] 25 := (hb.block _ (by simp)).trans (alloc_new w _)
      have x0 := (blk_cell b0 0).trans (cell2_0 _ _)
      have x1 := (blk_cell b0 1).trans (cell2_1 _ _)
      have HB := Lib.hid (HB0.out.trans (hb.mono (by simp)))
      have HI1 := Lib.hid ((HA.out.below (hb.mono (by simp))).mono (show w.heap.size ≤ w1.heap.size from Nat.le_of_lt (lt_of_some b0)))
      clear hb b0
      go_wp2_with fail
      refine (l6In_any _ _ _ _).mono ?_
      rintro e w2 ⟨rfl, rfl⟩
      rw [HC.out]
      go_wp2_with fail
      refine (HMA.out _ HI1.out).mono ?_
      rintro e w3 ⟨rfl, hb3⟩
      have HB3 := Lib.hid (HB.out.trans (hb3.mono HB.out.size))
      clear hb3
      go_wp2
      go_ret2
      exact ⟨by rw [HZ.out, HO.out]; rfl, HB3.out⟩

theorem own_full {w : World} {B g : Nat} {xs : List Int} (h : Nums w g 3 xs) (hB : B ≤ g) (hl : xs.length ≤ 100000) : OwnI w B (.slice (some ⟨g, 0, none⟩) xs.length xs.length) xs := by
  refine ⟨by simp, .inr ⟨g, xs.length, iv xs, rfl, hB, h, Nat.le_refl _, by simp only [maxLen]; omega, by simp [iv_size], ?_⟩⟩
  have e : List.take xs.length (xs.map (Value.int .i64)) = xs.map (Value.int .i64) := List.take_of_length_le (by simp)
  simpa [iv] using e

/-- The first fair colours. -/
def firstC (m : Nat) (zs : List Int) (k : Nat) : Option (List Int) := (wordsL (palI k) m).find? (mixB zs)

def firstCZ (m : Int) (zs : List Int) (k : Int) : List Int := if famIn m zs && colIn k 1 then (firstC m.toNat zs k.toNat).getD [] else []
def firstCB (m : Int) (zs : List Int) (k : Int) : Bool := famIn m zs && colIn k 1 && (firstC m.toNat zs k.toNat).isSome
theorem find_range {α : Type} (f : Nat → α) (p : α → Bool) {P j : Nat} (hj : j < P) (h0 : ∀ i, i < j → p (f i) = false) (h1 : p (f j) = true) : ((List.range P).map f).find? p = some (f j) := by
  obtain ⟨r, rfl⟩ : ∃ r, P = j + (r + 1) := ⟨P - j - 1, by omega⟩
  rw [List.range_add, List.map_append, List.find?_append, List.range_succ_eq_map]
  rw [List.find?_eq_none.2 (fun x hx => by
    obtain ⟨i, hi, rfl⟩ := List.mem_map.1 hx
    rw [h0 i (List.mem_range.1 hi)]; simp)]
  simp [h1]

theorem find_range_none {α : Type} (f : Nat → α) (p : α → Bool) {P : Nat} (h0 : ∀ i, i < P → p (f i) = false) : ((List.range P).map f).find? p = none :=
  List.find?_eq_none.2 (fun x hx => by
    obtain ⟨i, hi, rfl⟩ := List.mem_map.1 hx
    rw [h0 i (List.mem_range.1 hi)]; simp)

set_option maxRecDepth 100000 in
set_option maxHeartbeats 4000000 in
theorem specColourFirst_any (m k : Int) (a : Option Addr) (c : Nat) (zs : List Int) (w : World) (ha : Ints w w.heap.size a zs) (hx : zs.length ≤ 1048576) :
    Calls Tryd.prog 29 #[.agg #[.int .i64 m, .slice a zs.length c], .int .i64 k] w (RetSB w (firstCZ m zs k) (firstCB m zs k)) := by
  have HB0 := Lib.hid (below1 w (.cells #[.int .i64 m, .slice a zs.length c] 25))
  have HA := Lib.hid (ha.below HB0.out)
  clear ha
  cases hf : famIn m zs
  · have HF := Lib.hid hf
    have HZ : Hid (firstCZ m zs k = []) := Lib.hid (by unfold firstCZ; rw [hf]; rfl)
    have HO : Hid (firstCB m zs k = false) := Lib.hid (by unfold firstCB; rw [hf]; rfl)
    clear hf
    rw [HZ.out, HO.out]
    go_enter Tryd.func29, Tryd.ntmps29
    go_wp2_with fail
    refine (specFamilyIn_any _ _ _ zs _ (HA.out.mono (by simp)) hx).mono ?_
    rintro e w1 ⟨rfl, hb⟩
    rw [HF.out]
    have HB := Lib.hid (HB0.out.trans (hb.mono (by simp)))
    clear hb
    go_wp2
    go_ret2
    exact ⟨_, 0, rfl, own_mono (own_empty (alloc_new w1 _) (Nat.le_refl _)) HB.out.size, HB.out.alloc HB.out.size _⟩
  · cases hc : colIn k 1
    · have HF := Lib.hid hf
      have HC : Hid (inB k 1 4 = false) := Lib.hid (by rw [in_col]; exact hc)
      have HZ : Hid (firstCZ m zs k = []) := Lib.hid (by unfold firstCZ; rw [hf, hc]; rfl)
      have HO : Hid (firstCB m zs k = false) := Lib.hid (by unfold firstCB; rw [hf, hc]; rfl)
      clear hf hc
      rw [HZ.out, HO.out]
      go_enter Tryd.func29, Tryd.ntmps29
      go_wp2_with fail
      refine (specFamilyIn_any _ _ _ zs _ (HA.out.mono (by simp)) hx).mono ?_
      rintro e w1 ⟨rfl, hb⟩
      rw [HF.out]
      have HB := Lib.hid (HB0.out.trans (hb.mono (by simp)))
      clear hb
      go_wp2_with fail
      refine (l6In_any _ _ _ _).mono ?_
      rintro e w2 ⟨rfl, rfl⟩
      rw [HC.out]
      go_wp2
      go_ret2
      exact ⟨_, 0, rfl, own_mono (own_empty (alloc_new w1 _) (Nat.le_refl _)) HB.out.size, HB.out.alloc HB.out.size _⟩
    · have HF := Lib.hid hf
      have HC : Hid (inB k 1 4 = true) := Lib.hid (by rw [in_col]; exact hc)
      obtain ⟨k, rfl, hk4, hk1⟩ := colIn_nat (by omega : (0 : Int) ≤ 1) hc
      obtain ⟨m, rfl, hm1, hm6, hset, hl8⟩ := fam_nat2 hf
      have HZ : Hid (firstCZ (m : Int) zs (k : Int) = (firstC m zs k).getD []) := Lib.hid (by unfold firstCZ; rw [hf, hc]; rfl)
      have HO : Hid (firstCB (m : Int) zs (k : Int) = (firstC m zs k).isSome) := Lib.hid (by unfold firstCB; rw [hf, hc]; rfl)
      have hP := pow_le6 (show k ≤ 6 by omega) hm6
      obtain ⟨P, hPP⟩ : ∃ P, P = k ^ m := ⟨_, rfl⟩
      have HP : Hid (∀ W, Calls Tryd.prog 69 #[.int .i64 (k : Int), .int .i64 (m : Int)] W fun e w' => e = .returned (.int .i64 (P : Int)) ∧ W = w') := Lib.hid fun W => by rw [hPP]; exact l7Power_any k m (by omega) hm6 W
      have HPP := Lib.hid hPP
      rw [← hPP] at hP
      have hz64 : ∀ z ∈ zs, 0 ≤ z ∧ z.toNat < 64 := fun z h => ⟨(hset z h).1, p64 hm6 (hset z h).2⟩
      have HSET := Lib.hid hset
      have HZ64 := Lib.hid hz64
      have hPI : (P : Int) ≤ 46656 := by omega
      clear hf hc hset hz64 hPP
      go_enter Tryd.func29, Tryd.ntmps29
      go_wp2_with fail
      refine (specFamilyIn_any _ _ _ zs _ (HA.out.mono (by simp)) hx).mono ?_
      rintro e w1 ⟨rfl, hb⟩
      rw [HF.out]
      have b0 : HasBlk w1 w.heap.size #[.int .i64 (m : Int), .slice a zs.length c] 25 := (hb.block _ (by simp)).trans (alloc_new w _)
      have hz1 : w.heap.size < w1.heap.size := lt_of_some b0
      have HB := Lib.hid (HB0.out.trans (hb.mono (by simp)))
      have HI1 := Lib.hid ((HA.out.below (hb.mono (by simp))).mono (show w.heap.size ≤ w1.heap.size by omega))
      have HKEEP : Hid (∀ W, Below w1.heap.size w1 W → W.cell? ⟨w.heap.size, 0, none⟩ = some (.int .i64 (m : Int)) ∧ W.cell? ⟨w.heap.size, 1, none⟩ = some (.slice a zs.length c)) := Lib.hid fun W hW =>
        ⟨(hW.cell (p := ⟨w.heap.size, 0, none⟩) hz1).trans ((blk_cell b0 0).trans (cell2_0 _ _)), (hW.cell (p := ⟨w.heap.size, 1, none⟩) hz1).trans ((blk_cell b0 1).trans (cell2_1 _ _))⟩
      have HR0 : Hid ((∀ i, i < 0 → mixB zs (digs k m i) = false) ∧ Below w1.heap.size w1 w1) := Lib.hid ⟨fun i h => by omega, Below.refl _ _⟩
      clear hb b0
      go_wp2_with fail
      refine (l6In_any _ _ _ _).mono ?_
      rintro e w2 ⟨rfl, rfl⟩
      rw [HC.out]
      go_wp2
      go_loopw [6, 7] (fun s6 _ wr => ∃ j : Nat, j ≤ P ∧ s6 = .int .i64 (j : Int) ∧ Hid ((∀ i, i < j → mixB zs (digs k m i) = false) ∧ Below w1.heap.size w1 wr)) (fun s6 _ _ => P - (intOf s6).toNat)
      case atStart => exact ⟨0, Nat.zero_le _, rfl, HR0⟩
      case round =>
        obtain ⟨j, hj, rfl, HS⟩ := hrel
        clear HR0
        obtain ⟨x0, x1⟩ := HKEEP.out _ HS.out.2
        have hjI : (j : Int) ≤ 46656 := by omega
        have hj0 : (0 : Int) ≤ (j : Int) := by omega
        by_cases hlt : j < P
        · have hjP : (j : Int) < (P : Int) := by omega
          have HCO := Lib.hid (l7Colours_any m k j hm1 hm6 (by omega) (by omega) (by omega) wr)
          cases hmx : mixB zs (digs k m j)
          · have HF2 := Lib.hid hmx
            clear hmx
            go_wp2_with fail
            refine (HP.out _).mono ?_
            rintro e w2 ⟨rfl, rfl⟩
            go_wp2_with fail
            refine HCO.out.mono ?_
            rintro e w3 ⟨rfl, hn3, hb3⟩
            have hb13 := HS.out.2.trans (hb3.mono HS.out.2.size)
            obtain ⟨y0, y1⟩ := HKEEP.out _ hb13
            have hMX := l7Mixed_any m hm6 a c zs (some ⟨wr.heap.size, 0, none⟩) m (digs k m j) (digs_len k m j) w3 (HI1.out.step hb13) (ints_blk (show HasBlk w3 wr.heap.size (iv (digs k m j)) 3 from hn3) _ hn3.lt) hx HZ64.out
            rw [allM_mix hm6 HSET.out (digs_len k m j), HF2.out] at hMX
            have HMX := Lib.hid hMX
            have HB13 := Lib.hid hb13
            clear hn3 hb3 hb13 hMX x0 x1
            go_wp2_with fail
            refine HMX.out.mono ?_
            rintro e w4 ⟨rfl, hb4⟩
            have HR : Hid ((∀ i, i < j + 1 → mixB zs (digs k m i) = false) ∧ Below w1.heap.size w1 w4) := Lib.hid ⟨fun i hi => by
              rcases Nat.lt_succ_iff_lt_or_eq.1 hi with h | rfl
              · exact HS.out.1 i h
              · exact HF2.out, HB13.out.trans (hb4.mono HB13.out.size)⟩
            clear hb4
            go_wp2
            go_roundw
            case rel => exact ⟨j + 1, by omega, by go_num, HR⟩
            case measure => simp [intOf]; omega
          · have HF2 := Lib.hid hmx
            have HFC : Hid (firstC m zs k = some (digs k m j)) := Lib.hid (by unfold firstC; rw [← digs_words]; exact find_range _ _ (by rw [← HPP.out]; exact hlt) HS.out.1 hmx)
            clear hmx
            go_wp2_with fail
            refine (HP.out _).mono ?_
            rintro e w2 ⟨rfl, rfl⟩
            go_wp2_with fail
            refine HCO.out.mono ?_
            rintro e w3 ⟨rfl, hn3, hb3⟩
            have hb13 := HS.out.2.trans (hb3.mono HS.out.2.size)
            obtain ⟨y0, y1⟩ := HKEEP.out _ hb13
            have hMX := l7Mixed_any m hm6 a c zs (some ⟨wr.heap.size, 0, none⟩) m (digs k m j) (digs_len k m j) w3 (HI1.out.step hb13) (ints_blk (show HasBlk w3 wr.heap.size (iv (digs k m j)) 3 from hn3) _ hn3.lt) hx HZ64.out
            rw [allM_mix hm6 HSET.out (digs_len k m j), HF2.out] at hMX
            have HMX := Lib.hid hMX
            have HB13 := Lib.hid hb13
            have HN3 := Lib.hid hn3
            clear hn3 hb3 hb13 hMX x0 x1
            go_wp2_with fail
            refine HMX.out.mono ?_
            rintro e w4 ⟨rfl, hb4⟩
            have HRB := Lib.hid (HB.out.trans ((HB13.out.trans (hb4.mono HB13.out.size)).mono HB.out.size))
            have HN4 : Hid (Nums w4 wr.heap.size 3 (digs k m j)) := Lib.hid ((hb4.block _ HN3.out.lt).trans HN3.out)
            have HSZ : Hid (w.heap.size ≤ wr.heap.size) := Lib.hid (Nat.le_trans HB.out.size HS.out.2.size)
            clear hb4
            go_wp2
            go_ret2
            rw [HZ.out, HO.out, HFC.out]
            have hf := own_full (B := w.heap.size) HN4.out HSZ.out (by rw [digs_len]; omega)
            rw [digs_len] at hf
            exact ⟨some ⟨wr.heap.size, 0, none⟩, m, by rw [Option.getD_some, digs_len]; rfl, by rw [Option.getD_some, digs_len]; exact hf, HRB.out⟩
        · obtain rfl : j = P := by omega
          have HFC : Hid (firstC m zs k = none) := Lib.hid (by unfold firstC; rw [← digs_words]; exact find_range_none _ _ (by rw [← HPP.out]; exact HS.out.1))
          have HRB := Lib.hid (HB.out.trans (HS.out.2.mono HB.out.size))
          go_wp2_with fail
          refine (HP.out _).mono ?_
          rintro e w2 ⟨rfl, rfl⟩
          go_wp2
          go_ret2
          rw [HZ.out, HO.out, HFC.out]
          exact ⟨_, 0, rfl, own_mono (own_empty (alloc_new wr _) (Nat.le_refl _)) HRB.out.size, HRB.out.alloc HRB.out.size _⟩

end Go.Proofs.YtnpfdgbbcapnkaaDoor

/- It is proved that the call of the law FnForestCount returns true; conditions: those of each statement. -/
namespace Go.Proofs.YtnpfdgbbcapnkaaDoor
open Go.RowKit

set_option maxRecDepth 100000 in
theorem pop_fin : ∀ z : Fin 64, pop (z.val : Int) = ((memK 8 z.val).length : Int) := by decide +kernel

set_option maxRecDepth 100000 in
theorem pop_zero : ∀ z : Fin 64, (pop (z.val : Int) == 0) = decide (z.val = 0) := by decide +kernel

def zeroN (ys : List Int) : Nat := ys.countP fun y => y == 0
theorem zero_take {ys : List Int} {i : Nat} (h : i < ys.length) : zeroN (ys.take (i + 1)) = zeroN (ys.take i) + if (ys[i]?.getD 0 == 0) = true then 1 else 0 := by
  unfold zeroN
  rw [List.take_succ_eq_append_getElem h, List.countP_append, List.countP_singleton, List.getElem?_eq_getElem h, Option.getD_some]

theorem siz_pop : ∀ zs : List Int, (∀ z ∈ zs, 0 ≤ z ∧ z.toNat < 64) → (zs.map pop).sum + ((zeroN (zs.map pop) : Nat) : Int) = ((sizN zs : Nat) : Int)
  | [], _ => by simp [zeroN, sizN]
  | z :: zs, h => by
    have ih := siz_pop zs fun z hz => h z (by simp [hz])
    obtain ⟨h0, h1⟩ := h z (by simp)
    have e1 := pop_fin ⟨z.toNat, h1⟩
    have e2 := pop_zero ⟨z.toNat, h1⟩
    simp only [Int.toNat_of_nonneg h0] at e1 e2
    have e3 : zeroN ((z :: zs).map pop) = zeroN (zs.map pop) + if z.toNat = 0 then 1 else 0 := by
      unfold zeroN
      rw [List.map_cons, List.countP_cons, e2]
      by_cases e : z.toNat = 0 <;> simp [e]
    have e4 : sizN (z :: zs) = ((memK 8 z.toNat).length + if z = 0 then 1 else 0) + sizN zs := by simp [sizN]
    rw [e3, e4, List.map_cons, List.sum_cons, e1]
    by_cases e : z = 0
    · subst e; simp at ih ⊢; omega
    · have : ¬ z.toNat = 0 := by omega
      rw [if_neg e, if_neg this]
      omega

theorem sum_nn : ∀ l : List Int, (∀ y ∈ l, 0 ≤ y) → 0 ≤ l.sum
  | [], _ => by simp
  | x :: l, h => by
    have h1 := h x (by simp)
    have h2 := sum_nn l fun y hy => h y (by simp [hy])
    rw [List.sum_cons]; omega

theorem pop_bound {zs : List Int} (h : ∀ z ∈ zs, 0 ≤ z ∧ z.toNat < 64) : ∀ y ∈ zs.map pop, 0 ≤ y ∧ y ≤ 8 := by
  intro y hy
  obtain ⟨z, hz, rfl⟩ := List.mem_map.1 hy
  obtain ⟨h0, h1⟩ := h z hz
  have e1 := pop_fin ⟨z.toNat, h1⟩
  simp only [Int.toNat_of_nonneg h0] at e1
  have := memK_len 8 z.toNat
  omega

end Go.Proofs.YtnpfdgbbcapnkaaDoor

/- It is proved what the FamilySizes of the model returns; conditions: those of each statement. -/
namespace Go.Proofs.YtnpfdgbbcapnkaaDoor
open Go.RowKit

theorem fullI_63 {m : Int} (h1 : 1 ≤ m) (h2 : m ≤ 6) : fullI m ≤ 63 := by
  rcases m16 h1 h2 with rfl | rfl | rfl | rfl | rfl | rfl <;> decide

def sizesZ (m : Int) (zs : List Int) : List Int := if famIn m zs then zs.map pop else []
end Go.Proofs.YtnpfdgbbcapnkaaDoor
