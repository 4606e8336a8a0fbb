/- It is proved what the model's l8Even returns; conditions: those of each statement. -/
import Derived.RowKit
import Derived.Laws.CopyRow
import Derived.Lib.SlBuf
import Derived.Deep.QuietTactic
import Derived.RangeFuncNested
import Derived.RangeFuncBound
import Derived.RangeFuncCalls
import Derived.RangeFuncLeaves
import Derived.RangeFuncBox
import Derived.RangeFuncWrites
import Derived.StillTailTactics
import Derived.Maps.OwnIn
import Derived.Maps.Ext
import Derived.DeepKeys4
import Derived.MapKept
import Derived.Test.YtgjcjllhkkkioaaDoorRows
import Derived.WalkKit
import Derived.WalkSpells
import Derived.ProofKit
import Derived.OpenShut
import Derived.ShutString
import Derived.ChangeOld
import Derived.Below
import Derived.Deep.RegionHeld3
import Derived.BigQuiet
import Derived.Lib.Hide
import Derived.Lib.SmallJoins
import Derived.Outline
import Derived.Laws.MakeOwn
import Derived.Laws.OwnMore
import Derived.IntWalk
import Derived.Lib.AppendZeros
import Derived.Maps.AppendAt
import Derived.Deep.AppendLies
import Derived.OwnWalk
import Derived.Lib.SlicesCompact
import Derived.Lib.OwnBridge
import Derived.OrdersIn
import Derived.TacticsIn
import Derived.Shelf.Sort.Plain
import Derived.Shelf.Slices.In.SortNone
import Derived.Shelf.Slices.CompactI
import Derived.Ground.Names2Prog
import Derived.Lib.SliceRun
import Derived.Laws.BitsAllLaws
import Derived.Shelf.RegionOpen
import Derived.Shelf.Abstract
import Derived.OwnWalkIn
import Derived.TacticsInMore
import Derived.LoopNIn
import Derived.LoopIn
import Derived.StillTail
import Derived.StillTactics
import Derived.Shelf.Spec.TrailingZeros
import Derived.Test.YtgjcjllhkkkioaaDoorRaaa
import Derived.Test.YtgjcjllhkkkioaaDoorRaaf
import Derived.Test.YtgjcjllhkkkioaaDoorIb
import Derived.Test.YtgjcjllhkkkioaaDoorRabjxMeetOr
import Derived.Test.YtgjcjllhkkkioaaDoorTd
import Derived.Test.YtgjcjllhkkkioaaDoorXe
import Derived.Sort.MapsRangeIn
import Derived.Deep.RegionLaw
import Derived.Test.YtgjcjllhkkkioaaDoorRaab
import Derived.Test.YtgjcjllhkkkioaaDoorRaad
import Derived.Test.YtgjcjllhkkkioaaDoorRablxMeetOr
import Derived.Test.YtgjcjllhkkkioaaDoorRabhxMeetOr
import Derived.Test.YtgjcjllhkkkioaaDoorRaaj
import Derived.Test.YtgjcjllhkkkioaaDoorRaae
import Derived.Test.YtgjcjllhkkkioaaDoorKa
import Derived.Test.YtgjcjllhkkkioaaDoorRaav
import Derived.Test.YtgjcjllhkkkioaaDoorRaay
import Derived.Test.YtgjcjllhkkkioaaDoorRabb
import Derived.Test.YtgjcjllhkkkioaaDoorRaah
import Derived.Test.YtgjcjllhkkkioaaDoorRaal
import Derived.Test.YtgjcjllhkkkioaaDoorRaac
namespace Go.Proofs.YtgjcjllhkkkioaaDoor
open Go.RowKit Go.Shelf

theorem bit_one {s v : Nat} (hs : s < 64) (hv : v < 6) (h : s.testBit v = true) : bits BinOp.and IntKind.i64 ((s : Int) / 2 ^ v) 1 = 1 := by
  rw [bit_at s v hs hv, bit_if s hs v hv, if_pos h]; rfl

theorem bit_zero {s v : Nat} (hs : s < 64) (hv : v < 6) (h : s.testBit v = false) : bits BinOp.and IntKind.i64 ((s : Int) / 2 ^ v) 1 = 0 := by
  rw [bit_at s v hs hv, bit_if s hs v hv, if_neg (by rw [h]; decide)]; rfl

set_option maxRecDepth 100000 in
set_option maxHeartbeats 4000000 in
theorem l8Even_any (z : Nat) (hz : z < 64) (a : Option Addr) (c : Nat) (o : List Int) (ho : ∀ x ∈ o, 0 ≤ x ∧ x < 6) (hol : o.length ≤ 6) (w : World) (ha : Ints w w.heap.size a o) :
    Calls Tryd.prog 49 #[.slice a o.length c, .int .i64 (z : Int)] w fun e w' => e = .returned (.bool (!brkB o z)) ∧ w = w' := by
  have HU : Hid ((!brkB o z) = decide (((runF (atF z o) o.length : Nat) : Int) ≤ 1)) := Lib.hid (by
    unfold brkB
    rw [Bool.not_not, unb_run _ _ hol]
    congr 1
    exact propext (by omega))
  rw [HU.out]
  obtain ⟨N, hN⟩ : ∃ N, N = o.length := ⟨_, rfl⟩
  have HN := Lib.hid hN
  have HI := Lib.hid ha
  have HO := Lib.hid ho
  rw [← hN]
  rw [← hN] at hol
  clear hN ha ho HU
  go_enter Tryd.func49, Tryd.ntmps49
  go_wp2
  go_loop [5, 6] (fun x i => ∃ k : Nat, k ≤ N ∧ i = .int .i64 k ∧ x = .int .i64 ((runF (atF z o) k : Nat) : Int)) (fun _ i => N - (intOf i).toNat)
  case atStart => exact ⟨0, Nat.zero_le _, rfl, rfl⟩
  case round =>
    obtain ⟨j, hk, rfl, rfl⟩ := hrel
    by_cases hlt : j < N
    · have hki : (j : Int) < (N : Int) := by omega
      have hk0 : (0 : Int) ≤ (j : Int) := by omega
      obtain ⟨b1, o1, rfl, hb1, hc⟩ := HI.out.at_ (k := j) (by rw [← HN.out]; exact hlt)
      have hvm := HO.out _ (getD_mem (zs := o) (i := j) (by rw [← HN.out]; exact hlt))
      obtain ⟨v, hv⟩ : ∃ v : Nat, o[j]?.getD 0 = (v : Int) := ⟨(o[j]?.getD 0).toNat, by have := hvm.1; omega⟩
      have hv6 : v < 6 := by have := hvm.2; omega
      have HAT : Hid (atF z o j = z.testBit v) := Lib.hid (by unfold atF; rw [hv, Int.toNat_natCast])
      rw [hv] at hc
      have HPL : Hid (runF (atF z o) (j + 1) = if z.testBit v && (j == 0 || !atF z o (j - 1)) then runF (atF z o) j + 1 else runF (atF z o) j) := Lib.hid (by rw [← HAT.out]; rfl)
      have hp := runF_le (atF z o) j
      obtain ⟨P, hP⟩ : ∃ P, P = runF (atF z o) j := ⟨_, rfl⟩
      rw [← hP] at hp HPL
      rw [← hP]
      have hPI : (P : Int) ≤ 6 := by omega
      have hv0 : (0 : Int) ≤ (v : Int) := by omega
      have hv64 : (v : Int) < 64 := by omega
      clear hP hvm hv hp
      cases hb : z.testBit v
      · have hz0 := bit_zero hz hv6 hb
        have HR : Hid (runF (atF z o) (j + 1) = P) := Lib.hid (by rw [HPL.out, hb]; rfl)
        clear hb
        go_wp2
        go_round
        case rel => exact ⟨j + 1, by omega, by go_num, by rw [HR.out]⟩
        case measure => simp [intOf]; omega
      · have hz1 := bit_one hz hv6 hb
        by_cases hj0 : j = 0
        · subst hj0
          have HR : Hid (runF (atF z o) (0 + 1) = P + 1) := Lib.hid (by rw [HPL.out, hb]; rfl)
          clear hb HPL
          rw [Nat.add_zero] at hc
          go_wp2
          go_round
          case rel => exact ⟨0 + 1, by omega, by go_num, by rw [HR.out]; go_num⟩
          case measure => simp [intOf]; omega
        · have hjI : ¬ ((j : Int) = 0) := by omega
          obtain ⟨b2, o2, e2, hb2, hc2⟩ := HI.out.at_ (k := j - 1) (by rw [← HN.out]; omega)
          injection e2 with e2
          injection e2 with e2 e3 _
          subst e2 e3
          have hum := HO.out _ (getD_mem (zs := o) (i := j - 1) (by rw [← HN.out]; omega))
          obtain ⟨u, hu⟩ : ∃ u : Nat, o[j - 1]?.getD 0 = (u : Int) := ⟨(o[j - 1]?.getD 0).toNat, by have := hum.1; omega⟩
          have hu6 : u < 6 := by have := hum.2; omega
          have HAU : Hid (atF z o (j - 1) = z.testBit u) := Lib.hid (by unfold atF; rw [hu, Int.toNat_natCast])
          rw [hu] at hc2
          have hu0 : (0 : Int) ≤ (u : Int) := by omega
          have hu64 : (u : Int) < 64 := by omega
          obtain ⟨i, rfl⟩ : ∃ i, j = i + 1 := ⟨j - 1, by omega⟩
          rw [Nat.add_sub_cancel] at hc2 HAU HPL
          have hcast : ((i + 1 : Nat) : Int) - 1 = (i : Int) := by omega
          clear hum hu
          cases hbu : z.testBit u
          · have hzu := bit_zero hz hu6 hbu
            have HR : Hid (runF (atF z o) (i + 1 + 1) = P + 1) := Lib.hid (by rw [HPL.out, hb, HAU.out, hbu]; simp)
            clear hb hbu
            go_wp2
            go_round
            case rel => exact ⟨i + 1 + 1, by omega, by go_num, by rw [HR.out]; go_num⟩
            case measure => simp [intOf]; omega
          · have hzu := bit_one hz hu6 hbu
            have HR : Hid (runF (atF z o) (i + 1 + 1) = P) := Lib.hid (by rw [HPL.out, hb, HAU.out, hbu]; simp)
            clear hb hbu
            go_wp2
            go_round
            case rel => exact ⟨i + 1 + 1, by omega, by go_num, by rw [HR.out]⟩
            case measure => simp [intOf]; omega
    · obtain rfl : j = N := by omega
      go_wp2
      go_ret
      exact ⟨rfl, rfl⟩

end Go.Proofs.YtgjcjllhkkkioaaDoor

/- It is proved what the model's MeetOrder returns; conditions: those of each statement. -/
namespace Go.Proofs.YtgjcjllhkkkioaaDoor
open Go.RowKit Go.Shelf

/-- No club, of the first ones, is broken. -/
def goodT (zs : List Int) (o : List Int) (i : Nat) : Bool := (zs.take i).all fun z => !brkB o z.toNat

theorem goodT_succ (zs : List Int) (o : List Int) {i : Nat} (h : i < zs.length) : goodT zs o (i + 1) = (goodT zs o i && !brkB o (zs[i]?.getD 0).toNat) := by
  unfold goodT
  rw [List.take_succ_eq_append_getElem h, List.all_append]
  simp [h]

theorem goodT_all (zs : List Int) (o : List Int) : goodT zs o zs.length = !brkC zs o := by
  unfold goodT brkC
  rw [List.take_length, List.all_eq_not_any_not]
  simp

theorem firstO_at {m : Nat} {zs : List Int} {j : Nat} (hj : j < (lvlL m m).length) (h0 : ∀ i, i < j → brkC zs (nI ((lvlL m m)[i]?.getD [])) = true) (h1 : brkC zs (nI ((lvlL m m)[j]?.getD [])) = false) : firstO m zs = some ((lvlL m m)[j]?.getD []) := by
  have hx : (lvlL m m)[j]?.getD [] = (lvlL m m)[j] := by rw [List.getElem?_eq_getElem hj]; rfl
  rw [hx] at h1 ⊢
  have e : lvlL m m = (lvlL m m).take j ++ (lvlL m m)[j] :: (lvlL m m).drop (j + 1) := by
    rw [← List.drop_eq_getElem_cons hj, List.take_append_drop]
  generalize (lvlL m m)[j] = q at h1 e ⊢
  unfold firstO
  rw [← lvlL_perms]
  conv => lhs; rw [e]
  rw [List.find?_append, List.find?_eq_none.2 (fun p hp => by
    obtain ⟨i, hi, rfl⟩ := List.mem_iff_getElem.1 hp
    rw [List.length_take] at hi
    have := h0 i (by omega)
    rw [List.getElem?_eq_getElem (by omega), Option.getD_some] at this
    rw [List.getElem_take, this]; decide)]
  simp [h1]

theorem firstO_no {m : Nat} {zs : List Int} (h0 : ∀ i, i < (lvlL m m).length → brkC zs (nI ((lvlL m m)[i]?.getD [])) = true) : firstO m zs = none := by
  unfold firstO
  rw [← lvlL_perms, List.find?_eq_none]
  intro p hp
  obtain ⟨i, hi, rfl⟩ := List.mem_iff_getElem.1 hp
  have := h0 i hi
  rw [List.getElem?_eq_getElem hi, Option.getD_some] at this
  rw [this]; decide

set_option maxRecDepth 100000 in
set_option maxHeartbeats 8000000 in
theorem specMeetOrder_any (mI : Int) (a : Option Addr) (c : Nat) (zs : List Int) (w : World) (ha : Ints w w.heap.size a zs) (hx : zs.length ≤ 1048576) :
    Calls Tryd.prog 26 #[.agg #[.int .i64 mI, .slice a zs.length c]] w (RetSB w (ordZ mI zs) (ordB mI zs)) := by
  have HB0 := Lib.hid (below1 w (.cells #[.int .i64 mI, .slice a zs.length c] 26))
  have HA := Lib.hid (ha.below HB0.out)
  have HA0 := Lib.hid ha
  clear ha
  cases hf : famIn mI zs
  · have HF := Lib.hid hf
    have HZ : Hid (ordZ mI zs = []) := Lib.hid (by unfold ordZ; rw [hf]; rfl)
    have HO : Hid (ordB mI zs = false) := Lib.hid (by unfold ordB; rw [hf]; rfl)
    clear hf
    rw [HZ.out, HO.out]
    go_enter Tryd.func26, Tryd.ntmps26
    go_wp2_with fail
    refine (specFamilyIn_any _ _ _ zs _ (HA.out.mono (by simp)) hx).mono ?_
    rintro e w1 ⟨rfl, hb⟩
    rw [HF.out]
    have HB := Lib.hid (HB0.out.trans (hb.mono (by simp)))
    clear hb
    go_wp2
    go_ret2
    exact ⟨_, 0, rfl, own_mono (own_empty (alloc_new w1 _) (Nat.le_refl _)) HB.out.size, HB.out.alloc HB.out.size _⟩
  · have HF := Lib.hid hf
    obtain ⟨m, rfl, hm1, hm6, hset, hl8⟩ := fam_nat2 hf
    have HZ : Hid (ordZ (m : Int) zs = nI ((firstO m zs).getD [])) := Lib.hid (by unfold ordZ; rw [hf]; rfl)
    have HO : Hid (ordB (m : Int) zs = (firstO m zs).isSome) := Lib.hid (by unfold ordB; rw [hf]; rfl)
    have HSET := Lib.hid hset
    have HFI := Lib.hid (specFamilyIn_any (m : Int) a c zs _ (HA.out.mono (show w.heap.size ≤ (w.alloc (.cells #[.int .i64 (m : Int), .slice a zs.length c] 26)).heap.size by simp)) hx)
    obtain ⟨n, hn⟩ : ∃ n, n = zs.length := ⟨_, rfl⟩
    have HN := Lib.hid hn
    rw [HZ.out, HO.out]
    rw [← hn] at HFI HB0 hl8 ⊢
    clear hf hset hn
    go_enter Tryd.func26, Tryd.ntmps26
    go_wp2_with fail
    refine HFI.out.mono ?_
    rintro e w1 ⟨rfl, hb⟩
    rw [HF.out]
    have b0 : HasBlk w1 w.heap.size #[.int .i64 (m : Int), .slice a n c] 26 := (hb.block _ (by simp)).trans (alloc_new w _)
    have hz1 : w.heap.size < w1.heap.size := lt_of_some b0
    have z0 := (blk_cell b0 0).trans (cell2_0 _ _)
    have z1 := (blk_cell b0 1).trans (cell2_1 _ _)
    have HB := Lib.hid (HB0.out.trans (hb.mono (by simp)))
    have HQ0 := Lib.hid b0
    clear hb b0
    go_wp2_with fail
    refine (perms_any m hm6 w1).mono ?_
    rintro e w2 ⟨pv, rfl, hRp, hb2⟩
    obtain ⟨pa, pc, rfl⟩ := hRp.form
    have hpos := lvlL_pos hm6
    obtain ⟨g, rfl⟩ : ∃ g, pa = some ⟨g, 0, none⟩ := by
      obtain ⟨g, _, _, e, _⟩ := hRp.at_ (i := 0) (by rw [List.length_map]; exact hpos)
      exact ⟨g, e⟩
    have hg2 : g < w2.heap.size := by
      obtain ⟨vals, h1, -⟩ := hRp
      exact (World.ownsRow.lt h1 g rfl).2
    obtain ⟨N, hN⟩ : ∃ N, N = (lvlL m m).length := ⟨_, rfl⟩
    have hNs : N ≤ 46656 := by rw [hN]; exact lvlL_small hm6 (Nat.le_refl m)
    have HAT : Hid (∀ j, j < N → ∃ a' c', (∀ W, Below w2.heap.size w2 W → W.cell? ⟨g, j, none⟩ = some (.slice a' m c') ∧ Ints W W.heap.size a' (nI ((lvlL m m)[j]?.getD []))) ∧ OwnI w2 w1.heap.size (.slice a' m c') (nI ((lvlL m m)[j]?.getD [])) ∧ (nI ((lvlL m m)[j]?.getD [])).length = m ∧ (∀ x ∈ nI ((lvlL m m)[j]?.getD []), 0 ≤ x ∧ x < 6)) := Lib.hid fun j hj => by
      have hjl : j < (lvlL m m).length := by omega
      obtain ⟨g', a', c', e, hc, ho⟩ := hRp.at_ (i := j) (by rw [List.length_map]; exact hjl)
      injection e with e
      injection e with e _ _
      subst e
      have e2 : ((lvlL m m).map nI)[j]?.getD [] = nI ((lvlL m m)[j]?.getD []) := by rw [List.getElem?_map, List.getElem?_eq_getElem hjl]; rfl
      have hp : (nI ((lvlL m m)[j]?.getD [])).length = m := by rw [nI_len, List.getElem?_eq_getElem hjl, Option.getD_some]; exact lvlL_in (List.getElem_mem hjl)
      rw [e2, hp] at hc ho
      have hoi : OwnI w2 w1.heap.size (.slice a' m c') (nI ((lvlL m m)[j]?.getD [])) := by unfold OwnI; rw [hp]; exact ho
      have hin : Ints w2 w2.heap.size a' (nI ((lvlL m m)[j]?.getD [])) := own_ints (show OwnI w2 w1.heap.size (.slice a' (nI ((lvlL m m)[j]?.getD [])).length c') _ from by rw [hp]; exact hoi)
      refine ⟨a', c', fun W hW => ⟨(hW.cell (p := ⟨g, j, none⟩) hg2).trans hc, (hin.below hW).mono hW.size⟩, hoi, hp, ?_⟩
      rw [List.getElem?_eq_getElem hjl, Option.getD_some]
      exact nI_in6 hm6 (lvlL_lt (List.getElem_mem hjl))
    rw [List.length_map, ← hN]
    have hbw2 : Below w.heap.size w w2 := HB.out.trans (hb2.mono HB.out.size)
    have HBW2 := Lib.hid hbw2
    have hz2 : w.heap.size < w2.heap.size := Nat.lt_of_lt_of_le hz1 hb2.size
    have b02 : HasBlk w2 w.heap.size #[.int .i64 (m : Int), .slice a n c] 26 := (hb2.block _ hz1).trans HQ0.out
    have HKEEP : Hid (∀ W, Below w2.heap.size w2 W → W.cell? ⟨w.heap.size, 0, none⟩ = some (.int .i64 (m : Int)) ∧ W.cell? ⟨w.heap.size, 1, none⟩ = some (.slice a n c)) := Lib.hid fun W hW =>
      ⟨(hW.cell (p := ⟨w.heap.size, 0, none⟩) hz2).trans ((blk_cell b02 0).trans (cell2_0 _ _)), (hW.cell (p := ⟨w.heap.size, 1, none⟩) hz2).trans ((blk_cell b02 1).trans (cell2_1 _ _))⟩
    have HI2 : Hid (∀ W, Below w2.heap.size w2 W → Ints W W.heap.size a zs) := Lib.hid fun W hW => (HA0.out.below (hbw2.trans (hW.mono hbw2.size))).mono (hbw2.trans (hW.mono hbw2.size)).size
    have HW12 : Hid (w.heap.size ≤ w1.heap.size) := Lib.hid (by omega)
    have HNN := Lib.hid hN
    have hN1 : 1 ≤ N := by omega
    have H0 : Hid ((∀ i, i < 0 → brkC zs (nI ((lvlL m m)[i]?.getD [])) = true) ∧ Below w2.heap.size w2 w2) := Lib.hid ⟨fun i h => by omega, Below.refl _ _⟩
    clear hbw2 b02 hRp hb2 hN hpos z0 z1 hz1 hz2 hg2
    go_wp2
    go_loopw [5, 6] (fun s5 _ wr => ∃ j : Nat, j ≤ N ∧ s5 = .int .i64 (j : Int) ∧ Hid ((∀ i, i < j → brkC zs (nI ((lvlL m m)[i]?.getD [])) = true) ∧ Below w2.heap.size w2 wr)) (fun s5 _ _ => N - (intOf s5).toNat)
    case atStart => exact ⟨0, Nat.zero_le _, rfl, H0⟩
    case round =>
      obtain ⟨j, hj, rfl, HS⟩ := hrel
      clear H0
      have hjI : (j : Int) ≤ 46656 := by omega
      have hj0 : (0 : Int) ≤ (j : Int) := by omega
      by_cases hlt : j < N
      · have hjP : (j : Int) < (N : Int) := by omega
        obtain ⟨a', c', hat, hown, hpl, hp6⟩ := HAT.out j hlt
        obtain ⟨p, hp⟩ : ∃ p, p = nI ((lvlL m m)[j]?.getD []) := ⟨_, rfl⟩
        have HP := Lib.hid hp
        rw [← hp] at hat hown hpl hp6
        have HAJ := Lib.hid hat
        have HOWN := Lib.hid hown
        have HPLL := Lib.hid hpl
        have HEV : Hid (∀ (z : Nat) W, z < 64 → Below w2.heap.size w2 W → Calls Tryd.prog 49 #[.slice a' m c', .int .i64 (z : Int)] W fun e w' => e = .returned (.bool (!brkB p z)) ∧ W = w') := Lib.hid fun z W hz hW => by
          have := l8Even_any z hz a' c' p hp6 (by omega) W (hat W hW).2
          rwa [hpl] at this
        have H1 : Hid (goodT zs p 0 = true ∧ Below w2.heap.size w2 wr) := Lib.hid ⟨by simp [goodT], HS.out.2⟩
        clear hat hown hpl hp6 hp
        go_wp2
        go_loopw [6, 7] (fun s6 s7 wi => ∃ i : Nat, i ≤ n ∧ s7 = .int .i64 (i : Int) ∧ s6 = .bool (goodT zs p i) ∧ Below w2.heap.size w2 wi) (fun _ s7 _ => n - (intOf s7).toNat)
        case atStart => exact ⟨0, Nat.zero_le _, rfl, by rw [H1.out.1], H1.out.2⟩
        case round =>
          obtain ⟨i, hi, rfl, rfl, hbi⟩ := hrel
          clear H1
          obtain ⟨x0, x1⟩ := HKEEP.out _ hbi
          have x2 := (HAJ.out _ hbi).1
          have HBI := Lib.hid hbi
          have hi0 : (0 : Int) ≤ (i : Int) := by omega
          have hi8 : (i : Int) ≤ 8 := by omega
          by_cases hin : i < n
          · have hinI : (i : Int) < (n : Int) := by omega
            have hil : i < zs.length := by rw [← HN.out]; exact hin
            have HSU := Lib.hid (goodT_succ zs p hil)
            have hzm := HSET.out _ (getD_mem (zs := zs) (i := i) hil)
            obtain ⟨z, hzz⟩ : ∃ z : Nat, zs[i]?.getD 0 = (z : Int) := ⟨(zs[i]?.getD 0).toNat, by have := hzm.1; omega⟩
            have hz64 : z < 64 := by
              have := p64 hm6 hzm.2
              rwa [hzz, Int.toNat_natCast] at this
            obtain ⟨b1, o1, rfl, hb1, hc⟩ := (HI2.out _ hbi).at_ (k := i) hil
            rw [hzz] at hc
            have HSU2 : Hid (goodT zs p (i + 1) = (goodT zs p i && !brkB p z)) := Lib.hid (by rw [HSU.out, hzz, Int.toNat_natCast])
            obtain ⟨G, hG⟩ : ∃ G, G = goodT zs p i := ⟨_, rfl⟩
            rw [← hG] at HSU2
            rw [← hG]
            obtain ⟨Bk, hBk⟩ : ∃ Bk, Bk = brkB p z := ⟨_, rfl⟩
            have HCALL := Lib.hid (HEV.out z wr.drew hz64 hbi.drew)
            rw [← hBk] at HSU2 HCALL
            have HBD : Hid (Below w2.heap.size w2 wr.drew) := Lib.hid hbi.drew
            clear hG hBk hzm hzz hbi HSU
            cases G
            · have HR : Hid (goodT zs p (i + 1) = false) := Lib.hid (by rw [HSU2.out]; rfl)
              clear HSU2
              go_wp2
              go_region
              all_goals
                go_wp2
                go_roundw
                case rel => exact ⟨i + 1, by omega, by go_num, by rw [HR.out], HBD.out⟩
                case measure => simp [intOf]; omega
            · have HR : Hid (goodT zs p (i + 1) = !Bk) := Lib.hid (by rw [HSU2.out]; rfl)
              clear HSU2
              go_wp2
              go_region_held3 (fun w' => w'.cell? ⟨w.heap.size, 0, none⟩ = some (.int .i64 (m : Int)) ∧ w'.cell? ⟨w.heap.size, 1, none⟩ = some (.slice (some ⟨b1, o1, none⟩) n c) ∧ w'.cell? ⟨g, j, none⟩ = some (.slice a' m c') ∧ w'.cell? ⟨b1, o1 + i, none⟩ = some (.int .i64 (z : Int)) ∧ w' = wr.drew)
                (exact ⟨x0, x1, x2, hc, rfl⟩)
                (first | (go_at_call 49; refine HCALL.out.mono ?_; rintro e w5 ⟨rfl, rfl⟩))
              all_goals
                go_wp2
                go_roundw
                case rel => exact ⟨i + 1, by omega, by go_num, by rw [HR.out], HBD.out⟩
                case measure => simp [intOf]; omega
          · obtain rfl : i = n := by omega
            have HG : Hid (goodT zs p i = !brkC zs p) := Lib.hid (by rw [HN.out]; exact goodT_all zs p)
            cases hk : brkC zs p
            · have HFO : Hid (firstO m zs = some ((lvlL m m)[j]?.getD [])) := Lib.hid (firstO_at (by rw [← HNN.out]; exact hlt) HS.out.1 (by rw [← HP.out]; exact hk))
              rw [HG.out, hk]
              have HOW : Hid (OwnI wr w.heap.size (.slice a' (nI ((firstO m zs).getD [])).length c') (nI ((firstO m zs).getD []))) := Lib.hid (by
                rw [HFO.out, Option.getD_some, ← HP.out, HPLL.out]
                exact own_mono (own_below HOWN.out hbi (Nat.le_refl _)) HW12.out)
              have HBF : Hid (Below w.heap.size w wr) := Lib.hid (HBW2.out.trans (hbi.mono HBW2.out.size))
              have HLEN : Hid ((nI ((firstO m zs).getD [])).length = m) := Lib.hid (by rw [HFO.out, Option.getD_some, ← HP.out]; exact HPLL.out)
              have HSM : Hid ((firstO m zs).isSome = true) := Lib.hid (by rw [HFO.out]; rfl)
              clear hk hbi
              go_wp2
              go_ret2
              exact ⟨a', c', by first | (rw [HLEN.out, HSM.out]; done) | (rw [HLEN.out, HSM.out]; rfl), HOW.out, HBF.out⟩
            · rw [HG.out, hk]
              have HR : Hid ((∀ l, l < j + 1 → brkC zs (nI ((lvlL m m)[l]?.getD [])) = true) ∧ Below w2.heap.size w2 wr) := Lib.hid ⟨fun l hl => by
                rcases Nat.lt_succ_iff_lt_or_eq.1 hl with h | rfl
                · exact HS.out.1 l h
                · rw [← HP.out]; exact hk, hbi⟩
              clear hk hbi
              go_wp2
              go_roundw
              case rel => exact ⟨j + 1, by omega, by go_num, HR⟩
              case measure => simp [intOf]; omega
      · obtain rfl : j = N := by omega
        have HFO : Hid (firstO m zs = none) := Lib.hid (firstO_no (by rw [← HNN.out]; exact HS.out.1))
        have HBF : Hid (Below w.heap.size w wr) := Lib.hid (HBW2.out.trans (HS.out.2.mono HBW2.out.size))
        clear HS
        go_wp2
        go_ret2
        rw [HFO.out]
        exact ⟨_, 0, rfl, own_mono (own_empty (alloc_new wr _) (Nat.le_refl _)) HBF.out.size, HBF.out.alloc HBF.out.size _⟩

end Go.Proofs.YtgjcjllhkkkioaaDoor

/- It is proved that the calls of exact laws of clubs that meet return true, given what the two functions return; conditions: those of each statement. -/
namespace Go.Proofs.YtgjcjllhkkkioaaDoor
open Go.RowKit

theorem ordZ_len (m : Int) (zs : List Int) : (ordZ m zs).length ≤ 1048576 := by
  unfold ordZ
  cases h : famIn m zs
  · simp
  · obtain ⟨-, h2, -, -⟩ := famIn_out h
    rw [if_pos rfl, nI_len]
    cases hf : firstO m.toNat zs with
    | none => simp
    | some p =>
      unfold firstO at hf
      have := permsL_len _ _ _ (List.mem_of_find?_eq_some hf)
      rw [Option.getD_some, this]
      omega

set_option maxRecDepth 100000 in
set_option maxHeartbeats 4000000 in
theorem walkMeetOrder (m : Int) (a : Option Addr) (cap : Nat) (zs : List Int) (zs' : List Int) (ok : Bool) (w : World) (ha : Ints w w.heap.size a zs) (hn : zs.length ≤ 1048576) (hn' : zs'.length ≤ 1048576)
    (hS : ∀ a cap W, Ints W W.heap.size a zs → Calls Tryd.prog 26 #[.agg #[.int .i64 m, .slice a zs.length cap]] W (RetSB W zs' ok))
    (hT : Tab w) (hI : ∀ a cap W, Ints W W.heap.size a zs → Tab W → Calls Tryd.prog 27 #[.agg #[.int .i64 m, .slice a zs.length cap]] W (RetSB W zs' ok)) :
    Calls Tryd.prog 7 #[.agg #[.int .i64 m, .slice a zs.length cap]] w fun e w' => e = .returned (.bool true) ∧ Below w.heap.size w w' := by
  have HS := Lib.hid hS
  have HI := Lib.hid hI
  have HT := Lib.hid hT
  have S0 := AF.start w m a cap zs ha
  clear hS hI hT
  cases ok
  all_goals
    go_enter Tryd.func7, Tryd.ntmps7
    go_wp2_with fail
    refine (szFamily_any _ _ _ _ _ _ (by omega) (by omega) (by omega)).mono ?_
    rintro e w0 ⟨rfl, hb0⟩
    rw [if_neg (by omega)]
    have S1 := S0.step hb0
    clear S0 hb0
    have x0 := S1.x0
    have x1 := S1.x1
    go_wp2_with fail
    refine (toFamily_any _ _ _ zs _ S1.old hn).mono ?_
    rintro e w1 ⟨a1, c1, rfl, ho1, hb1⟩
    have S2 := S1.step hb1
    clear S1 hb1 x0 x1
    go_wp2_with fail
    refine (HS.out _ _ _ (own_ints ho1)).mono ?_
    rintro e w2 ⟨a2, c2, rfl, ho2, hb2⟩
    have P3 := XO.start ho2
    have S3 := S2.step hb2
    have S3size := S3.size
    have x0 := S3.x0
    have x1 := S3.x1
    clear S2 hb2 ho1 ho2
    go_wp2_with fail
    refine (toFamily_any _ _ _ zs _ S3.old hn).mono ?_
    rintro e w4 ⟨a4, c4, rfl, ho4, hb4⟩
    have z4 : w2.heap.size ≤ w4.heap.size := hb4.size
    have X5 := XB.start (m := m) ho4
    have P5 := (P3.step hb4).step (below1 w4 (.cells #[.int .i64 m, .slice a4 zs.length c4] 26))
    have S5 := (S3.step hb4).step (below1 w4 (.cells #[.int .i64 m, .slice a4 zs.length c4] 26))
    clear S3 P3 hb4 ho4 x0 x1
    go_wp2_with fail
    refine (HI.out _ _ _ X5.ints (HT.out.below S5.below HT.out.lt)).mono ?_
    rintro e w6 ⟨a6, c6, rfl, ho6, hb6⟩
    have z6 : w4.heap.size + 1 ≤ w6.heap.size := by have := hb6.size; simpa using this
    have ho6' : OwnI w6 (w4.heap.size + 1) (.slice a6 zs'.length c6) zs' := by simpa using ho6
    have G6 := XO.start ho6'
    have P6 := P5.step hb6
    have X6 := X5.step hb6
    have S6 := S5.step hb6
    clear S5 P5 X5 hb6 ho6 ho6'
    go_wp2_with fail
    refine (eqIntS_any _ _ _ _ zs' zs' _ G6.ints P6.ints hn' hn').mono ?_
    rintro e w8 ⟨rfl, hb8⟩
    rw [sameB_self]
    have P8 := P6.step hb8
    have X8 := X6.step hb8
    have G8 := G6.step hb8
    have S8 := S6.step hb8
    clear P6 X6 G6 S6 hb8
    have x0 := S8.x0
    have x1 := S8.x1
    have y0 := X8.x0
    have y1 := X8.x1
    go_wp2_with fail
    have Sd := S8.drew
    have Pd := P8.drew
    have Xd := X8.drew
    have Gd := G8.drew
    clear S8 P8 X8 G8
    go_region_held3 (fun w' => w'.cell? ⟨w.heap.size, 0, none⟩ = some (.int .i64 m) ∧ w'.cell? ⟨w.heap.size, 1, none⟩ = some (.slice a zs.length cap) ∧ w'.cell? ⟨w4.heap.size, 0, none⟩ = some (.int .i64 m) ∧ w'.cell? ⟨w4.heap.size, 1, none⟩ = some (.slice a4 zs.length c4) ∧
        AF w m a cap zs w' ∧ XO w1.heap.size w2.heap.size a2 zs'.length c2 zs' w' ∧ XB w4.heap.size w2.heap.size w4.heap.size m a4 zs.length c4 zs w' ∧ XO (w4.heap.size + 1) w6.heap.size a6 zs'.length c6 zs' w')
      (first
        | exact ⟨Sd.x0, Sd.x1, Xd.x0, Xd.x1, Sd, Pd, Xd, Gd⟩
        | exact ⟨(Sd.step hb9).x0, (Sd.step hb9).x1, (Xd.step hb9).x0, (Xd.step hb9).x1, Sd.step hb9, Pd.step hb9, Xd.step hb9, Gd.step hb9⟩
        | exact ⟨((Sd.step hb9).step hb10).x0, ((Sd.step hb9).step hb10).x1, ((Xd.step hb9).step hb10).x0, ((Xd.step hb9).step hb10).x1, (Sd.step hb9).step hb10, (Pd.step hb9).step hb10, (Xd.step hb9).step hb10, (Gd.step hb9).step hb10⟩)
      (first
        | (go_at_call 12; refine (toFamily_any _ _ _ zs _ Sd.old hn).mono ?_; rintro e w9 ⟨a9, c9, rfl, ho9, hb9⟩)
        | (go_at_call 14; refine (eqFamily_any _ _ _ _ _ _ zs zs _ (Xd.step hb9).ints (own_ints ho9) hn hn).mono ?_; rintro e w10 ⟨rfl, hb10⟩; rw [sameF_self]))
    rename_i hHeld
    obtain ⟨-, -, -, -, S10, P10, X10, G10⟩ := hHeld
    clear Sd Pd Xd Gd hb9 hb10 ho9 x0 x1 y0 y1
    have y0 := X10.x0
    have y1 := X10.x1
    go_wp2_with fail
    refine (markFamily_any _ _ _ _ zs _ X10.ownI hn).mono ?_
    rintro e w11 ⟨rfl, ho11, hg11⟩
    have r11 := X10.rng
    have S11 := S10.kept hg11 (fun g e => by have := r11 g e; omega)
    have P11 := P10.kept hg11 (fun g e => by have := r11 g e; omega)
    have G11 := G10.kept hg11 (fun g e => by have := r11 g e; omega)
    clear S10 P10 G10 X10 ho11 hg11 r11 y0 y1
    go_wp2_with fail
    refine (eqIntS_any _ _ _ _ zs' zs' _ G11.ints P11.ints hn' hn').mono ?_
    rintro e w12 ⟨rfl, hb12⟩
    rw [sameB_self]
    have P12 := P11.step hb12
    have G12 := G11.step hb12
    have S12 := S11.step hb12
    clear P11 G11 S11 hb12
    go_wp2_with fail
    refine (markIntS_any _ _ _ zs' _ G12.ownI hn').mono ?_
    rintro e w13 ⟨rfl, ho13, hg13⟩
    have r13 := G12.rng
    have S13 := S12.kept hg13 (fun g e => by have := r13 g e; omega)
    have P13 := P12.kept hg13 (fun g e => by have := r13 g e; omega)
    have G13 := G12.marked ho13 hg13
    clear S12 P12 G12 ho13 hg13 r13
    go_wp2_with fail
    refine (heldIntS_any _ _ _ _ _ G13.ints hn').mono ?_
    rintro e w14 ⟨rfl, rfl⟩
    have x0 := S13.x0
    have x1 := S13.x1
    go_wp2_with fail
    refine (toFamily_any _ _ _ zs _ S13.old hn).mono ?_
    rintro e w15 ⟨a15, c15, rfl, ho15, hb15⟩
    have P15 := P13.step hb15
    have G15 := G13.step hb15
    have S15 := S13.step hb15
    clear P13 G13 S13 hb15 x0 x1
    go_wp2_with fail
    refine (HI.out _ _ _ (own_ints ho15) (HT.out.below S15.below HT.out.lt)).mono ?_
    rintro e w16 ⟨a16, c16, rfl, ho16, hb16⟩
    have P16 := P15.step hb16
    have G16 := G15.step hb16
    have S16 := S15.step hb16
    have H16 := XO.start ho16
    clear P15 G15 S15 hb16 ho15 ho16
    go_wp2_with fail
    refine (eqIntS_any _ _ _ _ zs' zs' _ H16.ints P16.ints hn' hn').mono ?_
    rintro e w18 ⟨rfl, hb18⟩
    rw [sameB_self]
    have G18 := G16.step hb18
    have S18 := S16.step hb18
    clear P16 G16 S16 H16 hb18
    go_wp2_with fail
    refine (heldIntS_any _ _ _ _ _ G18.ints hn').mono ?_
    rintro e w19 ⟨rfl, rfl⟩
    have HD := Lib.hid S18.below
    clear G18 S18
    go_wp2
    go_ret
    exact ⟨rfl, HD.out⟩

end Go.Proofs.YtgjcjllhkkkioaaDoor
