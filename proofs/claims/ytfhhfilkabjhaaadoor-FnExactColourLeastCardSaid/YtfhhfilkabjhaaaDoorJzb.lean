/- It is proved what the reference model's ColourMany and ColourFirst return; conditions: those of each statement. -/
import Derived.RowKit
import Derived.Laws.CopyRow
import Derived.Lib.SlBuf
import Derived.Deep.QuietTactic
import Derived.RangeFuncNested
import Derived.RangeFuncBound
import Derived.RangeFuncCalls
import Derived.RangeFuncLeaves
import Derived.RangeFuncBox
import Derived.RangeFuncWrites
import Derived.StillTailTactics
import Derived.Maps.OwnIn
import Derived.Maps.Ext
import Derived.DeepKeys4
import Derived.MapKept
import Derived.Test.YtfhhfilkabjhaaaDoorRows
import Derived.WalkKit
import Derived.WalkSpells
import Derived.ProofKit
import Derived.OpenShut
import Derived.ShutString
import Derived.ChangeOld
import Derived.Below
import Derived.Deep.RegionHeld3
import Derived.BigQuiet
import Derived.Lib.Hide
import Derived.Lib.SmallJoins
import Derived.Outline
import Derived.Laws.MakeOwn
import Derived.Laws.OwnMore
import Derived.IntWalk
import Derived.Maps.AppendAt
import Derived.Sort.MapsRangeIn
import Derived.Deep.RegionLaw
import Derived.Deep.AppendLies
import Derived.Lib.AppendZeros
import Derived.OwnWalk
import Derived.Lib.SlicesCompact
import Derived.Lib.OwnBridge
import Derived.OrdersIn
import Derived.TacticsIn
import Derived.Shelf.Sort.Plain
import Derived.Shelf.Slices.In.SortNone
import Derived.Shelf.Slices.CompactI
import Derived.Ground.Names2Prog
import Derived.Lib.SliceRun
import Derived.Shelf.RegionOpen
import Derived.Shelf.Abstract
import Derived.OwnWalkIn
import Derived.TacticsInMore
import Derived.LoopNIn
import Derived.LoopIn
import Derived.StillTail
import Derived.StillTactics
import Derived.Shelf.Spec.TrailingZeros
import Derived.Deep.LoopGhost
import Derived.Test.YtfhhfilkabjhaaaDoorRaac
import Derived.Test.YtfhhfilkabjhaaaDoorRaaa
import Derived.Test.YtfhhfilkabjhaaaDoorRaad
import Derived.Test.YtfhhfilkabjhaaaDoorRaab
import Derived.Test.YtfhhfilkabjhaaaDoorRaae
import Derived.Test.YtfhhfilkabjhaaaDoorJc
import Derived.Test.YtfhhfilkabjhaaaDoorRaao
import Derived.Test.YtfhhfilkabjhaaaDoorRabc
import Derived.Test.YtfhhfilkabjhaaaDoorRabd
import Derived.Test.YtfhhfilkabjhaaaDoorRabe
import Derived.Test.YtfhhfilkabjhaaaDoorKa
import Derived.Test.YtfhhfilkabjhaaaDoorKc
import Derived.Test.YtfhhfilkabjhaaaDoorRaat
namespace Go.Proofs.YtfhhfilkabjhaaaDoor
open Go.RowKit

set_option maxRecDepth 100000 in
set_option maxHeartbeats 2000000 in
theorem specColourMany_any (m k : Int) (a : Option Addr) (c : Nat) (zs : List Int) (w : World) (ha : Ints w w.heap.size a zs) (hx : zs.length ≤ 1048576) :
    Calls Tryd.prog 21 #[.agg #[.int .i64 m, .slice a zs.length c], .int .i64 k] w (RetIB w (outCM m zs k) (okCM m zs k)) := by
  have HB0 := Lib.hid (below1 w (.cells #[.int .i64 m, .slice a zs.length c] 27))
  have HA := Lib.hid (ha.below HB0.out)
  clear ha
  cases hf : famIn m zs
  · have HF := Lib.hid hf
    have HZ : Hid (outCM m zs k = 0) := Lib.hid (by unfold outCM; rw [hf]; rfl)
    have HO : Hid (okCM m zs k = false) := Lib.hid (by unfold okCM; rw [hf]; rfl)
    clear hf
    go_enter Tryd.func21, Tryd.ntmps21
    go_wp2_with fail
    refine (specFamilyIn_any _ _ _ zs _ (HA.out.mono (by simp)) hx).mono ?_
    rintro e w1 ⟨rfl, hb⟩
    rw [HF.out]
    have HB := Lib.hid (HB0.out.trans (hb.mono (by simp)))
    clear hb
    go_wp2
    go_ret2
    exact ⟨by rw [HZ.out, HO.out]; rfl, HB.out⟩
  · cases hc : colIn k 0
    · have HF := Lib.hid hf
      have HC : Hid (inB k 0 4 = false) := Lib.hid (by rw [in_col]; exact hc)
      have HZ : Hid (outCM m zs k = 0) := Lib.hid (by unfold outCM; rw [hf, hc]; rfl)
      have HO : Hid (okCM m zs k = false) := Lib.hid (by unfold okCM; rw [hf, hc]; rfl)
      clear hf hc
      go_enter Tryd.func21, Tryd.ntmps21
      go_wp2_with fail
      refine (specFamilyIn_any _ _ _ zs _ (HA.out.mono (by simp)) hx).mono ?_
      rintro e w1 ⟨rfl, hb⟩
      rw [HF.out]
      have HB := Lib.hid (HB0.out.trans (hb.mono (by simp)))
      clear hb
      go_wp2_with fail
      refine (l6In_any _ _ _ _).mono ?_
      rintro e w2 ⟨rfl, rfl⟩
      rw [HC.out]
      go_wp2
      go_ret2
      exact ⟨by rw [HZ.out, HO.out]; rfl, HB.out⟩
    · have HF := Lib.hid hf
      have HC : Hid (inB k 0 4 = true) := Lib.hid (by rw [in_col]; exact hc)
      obtain ⟨k, rfl, hk4, -⟩ := colIn_nat (Int.le_refl 0) hc
      obtain ⟨m, rfl, hm1, hm6, hset, hl8⟩ := fam_nat2 hf
      have HZ : Hid (outCM (m : Int) zs (k : Int) = ((cntCM m zs k : Nat) : Int)) := Lib.hid (by unfold outCM; rw [hf, hc]; rfl)
      have HO : Hid (okCM (m : Int) zs (k : Int) = true) := Lib.hid (by unfold okCM; rw [hf, hc]; rfl)
      have HMA : Hid (∀ W, Ints W W.heap.size a zs → Calls Tryd.prog 50 #[.agg #[.int .i64 (m : Int), .slice a zs.length c], .int .i64 (k : Int)] W fun e w' => e = .returned (.int .i64 ((cntCM m zs k : Nat) : Int)) ∧ Below W.heap.size W w') := Lib.hid fun W h => l7Many_any m k hm1 hm6 (by omega) a c zs W h hx hset
      clear hf hc hset
      go_enter Tryd.func21, Tryd.ntmps21
      go_wp2_with fail
      refine (specFamilyIn_any _ _ _ zs _ (HA.out.mono (by simp)) hx).mono ?_
      rintro e w1 ⟨rfl, hb⟩
      rw [HF.out]
      have b0 : HasBlk w1 w.heap.size #[.int .i64 (m : Int), .slice a zs.length c] 27 := (hb.block _ (by simp)).trans (alloc_new w _)
      have x0 := (blk_cell b0 0).trans (cell2_0 _ _)
      have x1 := (blk_cell b0 1).trans (cell2_1 _ _)
      have HB := Lib.hid (HB0.out.trans (hb.mono (by simp)))
      have HI1 := Lib.hid ((HA.out.below (hb.mono (by simp))).mono (show w.heap.size ≤ w1.heap.size from Nat.le_of_lt (lt_of_some b0)))
      clear hb b0
      go_wp2_with fail
      refine (l6In_any _ _ _ _).mono ?_
      rintro e w2 ⟨rfl, rfl⟩
      rw [HC.out]
      go_wp2_with fail
      refine (HMA.out _ HI1.out).mono ?_
      rintro e w3 ⟨rfl, hb3⟩
      have HB3 := Lib.hid (HB.out.trans (hb3.mono HB.out.size))
      clear hb3
      go_wp2
      go_ret2
      exact ⟨by rw [HZ.out, HO.out]; rfl, HB3.out⟩

theorem own_full {w : World} {B g : Nat} {xs : List Int} (h : Nums w g 3 xs) (hB : B ≤ g) (hl : xs.length ≤ 100000) : OwnI w B (.slice (some ⟨g, 0, none⟩) xs.length xs.length) xs := by
  refine ⟨by simp, .inr ⟨g, xs.length, iv xs, rfl, hB, h, Nat.le_refl _, by simp only [maxLen]; omega, by simp [iv_size], ?_⟩⟩
  have e : List.take xs.length (xs.map (Value.int .i64)) = xs.map (Value.int .i64) := List.take_of_length_le (by simp)
  simpa [iv] using e

/-- The first fair colours. -/
def firstC (m : Nat) (zs : List Int) (k : Nat) : Option (List Int) := (wordsL (palI k) m).find? (mixB zs)

def firstCZ (m : Int) (zs : List Int) (k : Int) : List Int := if famIn m zs && colIn k 1 then (firstC m.toNat zs k.toNat).getD [] else []
def firstCB (m : Int) (zs : List Int) (k : Int) : Bool := famIn m zs && colIn k 1 && (firstC m.toNat zs k.toNat).isSome
theorem find_range {α : Type} (f : Nat → α) (p : α → Bool) {P j : Nat} (hj : j < P) (h0 : ∀ i, i < j → p (f i) = false) (h1 : p (f j) = true) : ((List.range P).map f).find? p = some (f j) := by
  obtain ⟨r, rfl⟩ : ∃ r, P = j + (r + 1) := ⟨P - j - 1, by omega⟩
  rw [List.range_add, List.map_append, List.find?_append, List.range_succ_eq_map]
  rw [List.find?_eq_none.2 (fun x hx => by
    obtain ⟨i, hi, rfl⟩ := List.mem_map.1 hx
    rw [h0 i (List.mem_range.1 hi)]; simp)]
  simp [h1]

theorem find_range_none {α : Type} (f : Nat → α) (p : α → Bool) {P : Nat} (h0 : ∀ i, i < P → p (f i) = false) : ((List.range P).map f).find? p = none :=
  List.find?_eq_none.2 (fun x hx => by
    obtain ⟨i, hi, rfl⟩ := List.mem_map.1 hx
    rw [h0 i (List.mem_range.1 hi)]; simp)

set_option maxRecDepth 100000 in
set_option maxHeartbeats 4000000 in
theorem specColourFirst_any (m k : Int) (a : Option Addr) (c : Nat) (zs : List Int) (w : World) (ha : Ints w w.heap.size a zs) (hx : zs.length ≤ 1048576) :
    Calls Tryd.prog 23 #[.agg #[.int .i64 m, .slice a zs.length c], .int .i64 k] w (RetSB w (firstCZ m zs k) (firstCB m zs k)) := by
  have HB0 := Lib.hid (below1 w (.cells #[.int .i64 m, .slice a zs.length c] 27))
  have HA := Lib.hid (ha.below HB0.out)
  clear ha
  cases hf : famIn m zs
  · have HF := Lib.hid hf
    have HZ : Hid (firstCZ m zs k = []) := Lib.hid (by unfold firstCZ; rw [hf]; rfl)
    have HO : Hid (firstCB m zs k = false) := Lib.hid (by unfold firstCB; rw [hf]; rfl)
    clear hf
    rw [HZ.out, HO.out]
    go_enter Tryd.func23, Tryd.ntmps23
    go_wp2_with fail
    refine (specFamilyIn_any _ _ _ zs _ (HA.out.mono (by simp)) hx).mono ?_
    rintro e w1 ⟨rfl, hb⟩
    rw [HF.out]
    have HB := Lib.hid (HB0.out.trans (hb.mono (by simp)))
    clear hb
    go_wp2
    go_ret2
    exact ⟨_, 0, rfl, own_mono (own_empty (alloc_new w1 _) (Nat.le_refl _)) HB.out.size, HB.out.alloc HB.out.size _⟩
  · cases hc : colIn k 1
    · have HF := Lib.hid hf
      have HC : Hid (inB k 1 4 = false) := Lib.hid (by rw [in_col]; exact hc)
      have HZ : Hid (firstCZ m zs k = []) := Lib.hid (by unfold firstCZ; rw [hf, hc]; rfl)
      have HO : Hid (firstCB m zs k = false) := Lib.hid (by unfold firstCB; rw [hf, hc]; rfl)
      clear hf hc
      rw [HZ.out, HO.out]
      go_enter Tryd.func23, Tryd.ntmps23
      go_wp2_with fail
      refine (specFamilyIn_any _ _ _ zs _ (HA.out.mono (by simp)) hx).mono ?_
      rintro e w1 ⟨rfl, hb⟩
      rw [HF.out]
      have HB := Lib.hid (HB0.out.trans (hb.mono (by simp)))
      clear hb
      go_wp2_with fail
      refine (l6In_any _ _ _ _).mono ?_
      rintro e w2 ⟨rfl, rfl⟩
      rw [HC.out]
      go_wp2
      go_ret2
      exact ⟨_, 0, rfl, own_mono (own_empty (alloc_new w1 _) (Nat.le_refl _)) HB.out.size, HB.out.alloc HB.out.size _⟩
    · have HF := Lib.hid hf
      have HC : Hid (inB k 1 4 = true) := Lib.hid (by rw [in_col]; exact hc)
      obtain ⟨k, rfl, hk4, hk1⟩ := colIn_nat (by omega : (0 : Int) ≤ 1) hc
      obtain ⟨m, rfl, hm1, hm6, hset, hl8⟩ := fam_nat2 hf
      have HZ : Hid (firstCZ (m : Int) zs (k : Int) = (firstC m zs k).getD []) := Lib.hid (by unfold firstCZ; rw [hf, hc]; rfl)
      have HO : Hid (firstCB (m : Int) zs (k : Int) = (firstC m zs k).isSome) := Lib.hid (by unfold firstCB; rw [hf, hc]; rfl)
      have hP := pow_le6 (show k ≤ 6 by omega) hm6
      obtain ⟨P, hPP⟩ : ∃ P, P = k ^ m := ⟨_, rfl⟩
      have HP : Hid (∀ W, Calls Tryd.prog 53 #[.int .i64 (k : Int), .int .i64 (m : Int)] W fun e w' => e = .returned (.int .i64 (P : Int)) ∧ W = w') := Lib.hid fun W => by rw [hPP]; exact l7Power_any k m (by omega) hm6 W
      have HPP := Lib.hid hPP
      rw [← hPP] at hP
      have hz64 : ∀ z ∈ zs, 0 ≤ z ∧ z.toNat < 64 := fun z h => ⟨(hset z h).1, p64 hm6 (hset z h).2⟩
      have HSET := Lib.hid hset
      have HZ64 := Lib.hid hz64
      have hPI : (P : Int) ≤ 46656 := by omega
      clear hf hc hset hz64 hPP
      go_enter Tryd.func23, Tryd.ntmps23
      go_wp2_with fail
      refine (specFamilyIn_any _ _ _ zs _ (HA.out.mono (by simp)) hx).mono ?_
      rintro e w1 ⟨rfl, hb⟩
      rw [HF.out]
      have b0 : HasBlk w1 w.heap.size #[.int .i64 (m : Int), .slice a zs.length c] 27 := (hb.block _ (by simp)).trans (alloc_new w _)
      have hz1 : w.heap.size < w1.heap.size := lt_of_some b0
      have HB := Lib.hid (HB0.out.trans (hb.mono (by simp)))
      have HI1 := Lib.hid ((HA.out.below (hb.mono (by simp))).mono (show w.heap.size ≤ w1.heap.size by omega))
      have HKEEP : Hid (∀ W, Below w1.heap.size w1 W → W.cell? ⟨w.heap.size, 0, none⟩ = some (.int .i64 (m : Int)) ∧ W.cell? ⟨w.heap.size, 1, none⟩ = some (.slice a zs.length c)) := Lib.hid fun W hW =>
        ⟨(hW.cell (p := ⟨w.heap.size, 0, none⟩) hz1).trans ((blk_cell b0 0).trans (cell2_0 _ _)), (hW.cell (p := ⟨w.heap.size, 1, none⟩) hz1).trans ((blk_cell b0 1).trans (cell2_1 _ _))⟩
      have HR0 : Hid ((∀ i, i < 0 → mixB zs (digs k m i) = false) ∧ Below w1.heap.size w1 w1) := Lib.hid ⟨fun i h => by omega, Below.refl _ _⟩
      clear hb b0
      go_wp2_with fail
      refine (l6In_any _ _ _ _).mono ?_
      rintro e w2 ⟨rfl, rfl⟩
      rw [HC.out]
      go_wp2
      go_loopw [6, 7] (fun s6 _ wr => ∃ j : Nat, j ≤ P ∧ s6 = .int .i64 (j : Int) ∧ Hid ((∀ i, i < j → mixB zs (digs k m i) = false) ∧ Below w1.heap.size w1 wr)) (fun s6 _ _ => P - (intOf s6).toNat)
      case atStart => exact ⟨0, Nat.zero_le _, rfl, HR0⟩
      case round =>
        obtain ⟨j, hj, rfl, HS⟩ := hrel
        clear HR0
        obtain ⟨x0, x1⟩ := HKEEP.out _ HS.out.2
        have hjI : (j : Int) ≤ 46656 := by omega
        have hj0 : (0 : Int) ≤ (j : Int) := by omega
        by_cases hlt : j < P
        · have hjP : (j : Int) < (P : Int) := by omega
          have HCO := Lib.hid (l7Colours_any m k j hm1 hm6 (by omega) (by omega) (by omega) wr)
          cases hmx : mixB zs (digs k m j)
          · have HF2 := Lib.hid hmx
            clear hmx
            go_wp2_with fail
            refine (HP.out _).mono ?_
            rintro e w2 ⟨rfl, rfl⟩
            go_wp2_with fail
            refine HCO.out.mono ?_
            rintro e w3 ⟨rfl, hn3, hb3⟩
            have hb13 := HS.out.2.trans (hb3.mono HS.out.2.size)
            obtain ⟨y0, y1⟩ := HKEEP.out _ hb13
            have hMX := l7Mixed_any m hm6 a c zs (some ⟨wr.heap.size, 0, none⟩) m (digs k m j) (digs_len k m j) w3 (HI1.out.step hb13) (ints_blk (show HasBlk w3 wr.heap.size (iv (digs k m j)) 3 from hn3) _ hn3.lt) hx HZ64.out
            rw [allM_mix hm6 HSET.out (digs_len k m j), HF2.out] at hMX
            have HMX := Lib.hid hMX
            have HB13 := Lib.hid hb13
            clear hn3 hb3 hb13 hMX x0 x1
            go_wp2_with fail
            refine HMX.out.mono ?_
            rintro e w4 ⟨rfl, hb4⟩
            have HR : Hid ((∀ i, i < j + 1 → mixB zs (digs k m i) = false) ∧ Below w1.heap.size w1 w4) := Lib.hid ⟨fun i hi => by
              rcases Nat.lt_succ_iff_lt_or_eq.1 hi with h | rfl
              · exact HS.out.1 i h
              · exact HF2.out, HB13.out.trans (hb4.mono HB13.out.size)⟩
            clear hb4
            go_wp2
            go_roundw
            case rel => exact ⟨j + 1, by omega, by go_num, HR⟩
            case measure => simp [intOf]; omega
          · have HF2 := Lib.hid hmx
            have HFC : Hid (firstC m zs k = some (digs k m j)) := Lib.hid (by unfold firstC; rw [← digs_words]; exact find_range _ _ (by rw [← HPP.out]; exact hlt) HS.out.1 hmx)
            clear hmx
            go_wp2_with fail
            refine (HP.out _).mono ?_
            rintro e w2 ⟨rfl, rfl⟩
            go_wp2_with fail
            refine HCO.out.mono ?_
            rintro e w3 ⟨rfl, hn3, hb3⟩
            have hb13 := HS.out.2.trans (hb3.mono HS.out.2.size)
            obtain ⟨y0, y1⟩ := HKEEP.out _ hb13
            have hMX := l7Mixed_any m hm6 a c zs (some ⟨wr.heap.size, 0, none⟩) m (digs k m j) (digs_len k m j) w3 (HI1.out.step hb13) (ints_blk (show HasBlk w3 wr.heap.size (iv (digs k m j)) 3 from hn3) _ hn3.lt) hx HZ64.out
            rw [allM_mix hm6 HSET.out (digs_len k m j), HF2.out] at hMX
            have HMX := Lib.hid hMX
            have HB13 := Lib.hid hb13
            have HN3 := Lib.hid hn3
            clear hn3 hb3 hb13 hMX x0 x1
            go_wp2_with fail
            refine HMX.out.mono ?_
            rintro e w4 ⟨rfl, hb4⟩
            have HRB := Lib.hid (HB.out.trans ((HB13.out.trans (hb4.mono HB13.out.size)).mono HB.out.size))
            have HN4 : Hid (Nums w4 wr.heap.size 3 (digs k m j)) := Lib.hid ((hb4.block _ HN3.out.lt).trans HN3.out)
            have HSZ : Hid (w.heap.size ≤ wr.heap.size) := Lib.hid (Nat.le_trans HB.out.size HS.out.2.size)
            clear hb4
            go_wp2
            go_ret2
            rw [HZ.out, HO.out, HFC.out]
            have hf := own_full (B := w.heap.size) HN4.out HSZ.out (by rw [digs_len]; omega)
            rw [digs_len] at hf
            exact ⟨some ⟨wr.heap.size, 0, none⟩, m, by rw [Option.getD_some, digs_len]; rfl, by rw [Option.getD_some, digs_len]; exact hf, HRB.out⟩
        · obtain rfl : j = P := by omega
          have HFC : Hid (firstC m zs k = none) := Lib.hid (by unfold firstC; rw [← digs_words]; exact find_range_none _ _ (by rw [← HPP.out]; exact HS.out.1))
          have HRB := Lib.hid (HB.out.trans (HS.out.2.mono HB.out.size))
          go_wp2_with fail
          refine (HP.out _).mono ?_
          rintro e w2 ⟨rfl, rfl⟩
          go_wp2
          go_ret2
          rw [HZ.out, HO.out, HFC.out]
          exact ⟨_, 0, rfl, own_mono (own_empty (alloc_new wr _) (Nat.le_refl _)) HRB.out.size, HRB.out.alloc HRB.out.size _⟩

end Go.Proofs.YtfhhfilkabjhaaaDoor
