/- It is proved that l2Perms lists all names in order; conditions: those of each statement. -/
import Derived.RowKit
import Derived.RangeFuncNested
import Derived.RangeFuncBound
import Derived.RangeFuncCalls
import Derived.RangeFuncLeaves
import Derived.RangeFuncBox
import Derived.RangeFuncWrites
import Derived.Test.YtacglafoahmcnaaDoorRows
import Derived.WalkKit
import Derived.WalkSpells
import Derived.ProofKit
import Derived.OpenShut
import Derived.ShutString
import Derived.ChangeOld
import Derived.Below
import Derived.Deep.RegionHeld3
import Derived.Deep.QuietTactic
import Derived.BigQuiet
import Derived.Lib.Hide
import Derived.Lib.SmallJoins
import Derived.Outline
import Derived.Laws.MakeOwn
import Derived.Laws.OwnMore
import Derived.IntWalk
import Derived.Deep.RegionLaw
import Derived.Deep.AppendLies
import Derived.Lib.AppendZeros
import Derived.Maps.AppendAt
import Derived.OwnWalk
import Derived.Shelf.Abstract
import Derived.Shelf.RegionOpen
import Derived.OwnWalkIn
import Derived.TacticsInMore
import Derived.LoopNIn
import Derived.LoopIn
import Derived.Shelf.Spec.TrailingZeros
import Derived.Test.YtacglafoahmcnaaDoorRaazxFnMeet
import Derived.Test.YtacglafoahmcnaaDoorRaaa
import Derived.Test.YtacglafoahmcnaaDoorRabfxFnMeet
import Derived.Test.YtacglafoahmcnaaDoorRaac
import Derived.Test.YtacglafoahmcnaaDoorRaag
import Derived.Test.YtacglafoahmcnaaDoorRaad
import Derived.Test.YtacglafoahmcnaaDoorRaab
import Derived.Test.YtacglafoahmcnaaDoorRaai
import Derived.Laws.CopyRow
import Derived.Lib.SlBuf
import Derived.StillTailTactics
import Derived.Maps.OwnIn
import Derived.Maps.Ext
import Derived.DeepKeys4
import Derived.MapKept
import Derived.Lib.SlicesCompact
import Derived.Lib.OwnBridge
import Derived.OrdersIn
import Derived.TacticsIn
import Derived.Shelf.Sort.Plain
import Derived.Shelf.Slices.In.SortNone
import Derived.Shelf.Slices.CompactI
import Derived.Ground.Names2Prog
import Derived.StillTail
import Derived.StillTactics
import Derived.Sort.MapsRangeIn
import Derived.Lib.SliceRun
import Derived.Laws.BitsAllLaws
import Derived.Test.YtacglafoahmcnaaDoorRaaq
import Derived.Test.YtacglafoahmcnaaDoorRabbxFnMeet
import Derived.Test.YtacglafoahmcnaaDoorRaal
import Derived.Test.YtacglafoahmcnaaDoorRaam
import Derived.Test.YtacglafoahmcnaaDoorRabcxFnMeet
import Derived.Test.YtacglafoahmcnaaDoorRabdxFnMeet
import Derived.Test.YtacglafoahmcnaaDoorTb
import Derived.Test.YtacglafoahmcnaaDoorRabexFnMeet
import Derived.Test.YtacglafoahmcnaaDoorRabmxFnMeet
import Derived.Test.YtacglafoahmcnaaDoorRaat
namespace Go.Proofs.YtacglafoahmcnaaDoor
open Go.RowKit Go.Shelf

def stepL (n : Nat) (l : List Nat) (v : Nat) : List (List Nat) := ((List.range v).filter fun u => !l.contains u).map fun u => l ++ [u]
theorem stepL_all (n : Nat) (L : List (List Nat)) : L.flatMap (fun l => stepL n l n) = nextL n L := rfl
theorem stepL_len (n : Nat) (l : List Nat) (v : Nat) : (stepL n l v).length ≤ v := by
  unfold stepL; rw [List.length_map]; exact Nat.le_trans (List.length_filter_le _ _) (by simp)

theorem stepL_in {n : Nat} {l : List Nat} {v : Nat} (h : l.contains v = true) : stepL n l (v + 1) = stepL n l v := by
  simp [stepL, List.range_succ, List.filter_append, h]
  simpa using h

theorem stepL_out {n : Nat} {l : List Nat} {v : Nat} (h : l.contains v = false) : stepL n l (v + 1) = stepL n l v ++ [l ++ [v]] := by
  have h' : v ∉ l := by simpa using h
  simp [stepL, List.range_succ, List.filter_append, h']

set_option maxRecDepth 100000 in
set_option maxHeartbeats 8000000 in
theorem perms_any (n : Nat) (hn : n ≤ 6) (w : World) :
    Calls Tryd.prog 83 #[.int .i64 (n : Int)] w fun e w' => ∃ v, e = .returned v ∧ Rws w' w.heap.size v ((lvlL n n).map nI) ∧ Below w.heap.size w w' := by
  have hb2 := below2 w (.cells #[] 3) (.cells #[.slice (some ⟨w.heap.size, 0, none⟩) 0 0] 23)
  have q0 := alloc2_0 w (.cells #[] 3) (.cells #[.slice (some ⟨w.heap.size, 0, none⟩) 0 0] 23)
  have q1 := alloc2_1 w (.cells #[] 3) (.cells #[.slice (some ⟨w.heap.size, 0, none⟩) 0 0] 23)
  have hR0 : Rws ((w.alloc (.cells #[] 3)).alloc (.cells #[.slice (some ⟨w.heap.size, 0, none⟩) 0 0] 23)) w.heap.size (.slice (some ⟨w.heap.size + 1, 0, none⟩) 1 1) ((lvlL n 0).map nI) :=
    ⟨[.slice (some ⟨w.heap.size, 0, none⟩) 0 0], ⟨by simp [lvlL], .inr ⟨w.heap.size + 1, 1, _, rfl, by omega, q1, Nat.le_refl _, by simp [maxLen], by simp, by simp [lvlL]⟩⟩, fun i hi => by
      have hi0 : i = 0 := by simpa [lvlL] using hi
      subst hi0
      exact ⟨some ⟨w.heap.size, 0, none⟩, 0, rfl, own_empty q0 (Nat.le_refl _)⟩⟩
  have HR0 := Lib.hid hR0
  have HB0 := Lib.hid hb2
  clear hb2 q0 q1 hR0
  go_enter Tryd.func83, Tryd.ntmps83
  go_wp2
  go_loopw [3, 4] (fun o i wr => ∃ (k : Nat) (v : Value), k ≤ n ∧ i = .int .i64 (k : Int) ∧ o = v ∧ Rws wr w.heap.size v ((lvlL n k).map nI) ∧ Below w.heap.size w wr) (fun _ i _ => n - (intOf i).toNat)
  case atStart => exact ⟨0, _, Nat.zero_le _, rfl, rfl, HR0.out, HB0.out⟩
  case round =>
    obtain ⟨i, ov, hi, rfl, rfl, hR, hB⟩ := hrel
    by_cases hlt : i < n
    · obtain ⟨wo, hwo⟩ : ∃ wo, wo = wr := ⟨wr, rfl⟩
      subst hwo
      obtain ⟨oa, oc, rfl⟩ := hR.form
      obtain ⟨N, hN⟩ : ∃ N, N = (lvlL n i).length := ⟨_, rfl⟩
      have hNs : N ≤ 7776 := by
        rw [hN]
        exact Nat.le_trans (lvlL_len n i) (Nat.le_trans (Nat.pow_le_pow_left hn i) (Nat.le_trans (Nat.pow_le_pow_right (by decide) (by omega : i ≤ 5)) (by decide)))
      have HN := Lib.hid hN
      have HR := Lib.hid hR
      have HB := Lib.hid hB
      have HN0 : Hid (Rws (wo.alloc (.cells #[] 23)) wo.heap.size (.slice (some ⟨wo.heap.size, 0, none⟩) 0 0) ((((lvlL n i).take 0).flatMap fun l => stepL n l n).map nI)) := Lib.hid (rws_nil _ _ (alloc_new wo _) (Nat.le_refl _))
      have HNB := Lib.hid (below1 wo (.cells #[] 23))
      rw [List.length_map, ← hN]
      clear hN hR hB
      go_wp2
      go_loopw [5, 6] (fun nx kk wr => ∃ (k : Nat) (nv : Value), k ≤ N ∧ kk = .int .i64 (k : Int) ∧ nv = nx ∧ Rws wr wo.heap.size nv ((((lvlL n i).take k).flatMap fun l => stepL n l n).map nI) ∧ Below wo.heap.size wo wr) (fun _ kk _ => N - (intOf kk).toNat)
      case atStart => exact ⟨0, _, Nat.zero_le _, rfl, rfl, HN0.out, HNB.out⟩
      case round =>
        obtain ⟨k, nv, hk, rfl, rfl, hNx, hB2⟩ := hrel
        by_cases hkl : k < N
        · obtain ⟨w2, hw2⟩ : ∃ w2, w2 = wr := ⟨wr, rfl⟩
          subst hw2
          have hkl' : k < (lvlL n i).length := by have := HN.out; omega
          obtain ⟨l, hl⟩ : ∃ l, l = (lvlL n i)[k] := ⟨_, rfl⟩
          have hll : l.length = i := lvlL_in (by rw [hl]; exact List.getElem_mem hkl')
          have HTK : Hid ((lvlL n i).take (k + 1) = (lvlL n i).take k ++ [l]) := Lib.hid (by rw [hl]; exact List.take_succ_eq_append_getElem hkl')
          have HPL : Hid ((((lvlL n i).take k).flatMap fun l => stepL n l n).length ≤ k * 6) := Lib.hid (by
            refine Nat.le_trans (flat_len _ 6 _ (fun l _ => Nat.le_trans (stepL_len n l n) hn)) (Nat.mul_le_mul_right _ ?_)
            rw [List.length_take]; omega)
          have HNX : Hid (Rws w2 wo.heap.size nv (((((lvlL n i).take k).flatMap fun l => stepL n l n) ++ stepL n l 0).map nI)) := Lib.hid (by simpa [stepL] using hNx)
          have HB2 := Lib.hid hB2
          have HRW : Hid (∀ wz, Below wo.heap.size wo wz → ∃ g a' c', oa = some ⟨g, 0, none⟩ ∧ wz.cell? ⟨g, k, none⟩ = some (.slice a' i c') ∧ OwnN wz w.heap.size a' i c' (nI l)) := Lib.hid (fun wz hz => by
            obtain ⟨g, a', c', e, hc, ho⟩ := (HR.out.below hz).at_ (i := k) (by rw [List.length_map]; exact hkl')
            have e2 : ((lvlL n i).map nI)[k]?.getD [] = nI l := by rw [List.getElem?_map, List.getElem?_eq_getElem hkl', ← hl]; rfl
            rw [e2, nI_len, hll] at hc ho
            exact ⟨g, a', c', e, hc, ho⟩)
          have hkN : (k : Int) < (N : Int) := by omega
          have HLL := Lib.hid hll
          clear hl hll hNx hB2 hkl'
          go_wp2
          go_loopw [5, 7] (fun nx vv wr => ∃ (v : Nat) (nv : Value), v ≤ n ∧ vv = .int .i64 (v : Int) ∧ nv = nx ∧ Rws wr wo.heap.size nv (((((lvlL n i).take k).flatMap fun l => stepL n l n) ++ stepL n l v).map nI) ∧ Below wo.heap.size wo wr) (fun _ vv _ => n - (intOf vv).toNat)
          case atStart => exact ⟨0, nv, Nat.zero_le _, rfl, rfl, HNX.out, HB2.out⟩
          case round =>
            obtain ⟨v, nv, hv, rfl, rfl, hNx, hB3⟩ := hrel
            by_cases hvn : v < n
            · obtain ⟨w3, hw3⟩ : ∃ w3, w3 = wr := ⟨wr, rfl⟩
              subst hw3
              obtain ⟨g, a', c', rfl, hcr, hor⟩ := HRW.out w3 hB3
              have HNX := Lib.hid hNx
              have HB3 := Lib.hid hB3
              have HOR := Lib.hid hor
              have hk0 : (0 : Int) ≤ (k : Int) := by omega
              clear hNx hB3 hor
              go_wp2
              go_loop [8, 9] (fun b j => ∃ jj : Nat, jj ≤ i ∧ j = .int .i64 (jj : Int) ∧ b = .bool ((l.take jj).contains v)) (fun _ j => i - (intOf j).toNat)
              case atStart => exact ⟨0, Nat.zero_le _, rfl, by simp⟩
              case round =>
                obtain ⟨j, hj, rfl, rfl⟩ := hrel
                by_cases hji : j < i
                · obtain ⟨b1, rfl, -, -⟩ := HOR.out.addr (by omega)
                  have hjl : j < l.length := by have := HLL.out; omega
                  have c1 := HOR.out.cell (j := j) hji
                  obtain ⟨u, hu⟩ : ∃ u, u = l[j] := ⟨_, rfl⟩
                  rw [show (nI l)[j]?.getD 0 = (u : Int) from by simp [nI, hjl, hu]] at c1
                  have HT : Hid ((l.take (j + 1)).contains v = ((l.take j).contains v || decide (u = v))) := Lib.hid (by
                    rw [List.take_succ_eq_append_getElem hjl, ← hu, Bool.eq_iff_iff, Bool.or_eq_true, decide_eq_true_eq, List.contains_iff_mem, List.contains_iff_mem, List.mem_append, List.mem_singleton]
                    exact or_congr Iff.rfl eq_comm)
                  have hjI : (j : Int) < (i : Int) := by omega
                  have hj0 : (0 : Int) ≤ (j : Int) := by omega
                  obtain ⟨cb, hcb⟩ : ∃ cb, cb = (l.take j).contains v := ⟨_, rfl⟩
                  rw [← hcb]
                  rw [← hcb] at HT
                  clear hcb hu
                  cases cb
                  · by_cases huv : u = v
                    · subst huv
                      go_wp2
                      go_round
                      case rel => exact ⟨j + 1, by omega, by go_num, by rw [HT.out]; simp⟩
                      case measure => simp [intOf]; omega
                    · have hne : ((u : Int) == (v : Int)) = false := by simp; omega
                      go_wp2
                      go_round
                      case rel => exact ⟨j + 1, by omega, by go_num, by rw [HT.out]; simp [huv]⟩
                      case measure => simp [intOf]; omega
                  · go_wp2
                    go_round
                    case rel => exact ⟨j + 1, by omega, by go_num, by rw [HT.out]; rfl⟩
                    case measure => simp [intOf]; omega
                · obtain rfl : j = i := by omega
                  rw [List.take_of_length_le (by rw [HLL.out]; exact Nat.le_refl _)]
                  obtain ⟨cb, hcb⟩ : ∃ cb, cb = l.contains v := ⟨_, rfl⟩
                  rw [← hcb]
                  have HCB := Lib.hid hcb
                  clear hcb
                  cases cb
                  · have hPl : (((((lvlL n j).take k).flatMap fun l => stepL n l n) ++ stepL n l v).map nI).length ≤ 100000 := by
                      rw [List.length_map, List.length_append]
                      have h1 := HPL.out
                      have h2 := stepL_len n l v
                      omega
                    obtain ⟨a3, c3, w3a, a4, c4, w4, a5, c5, w5, hr3, hr4, hr5, hRf, hBf⟩ := ext_row HNX.out HB3.out.size hPl a' c' j (nI l) (by rw [nI_len, HLL.out]) (by omega) (show Ints w3 w3.heap.size a' (nI l) from own_ints (show OwnI w3 w.heap.size (.slice a' (nI l).length c') (nI l) from by rw [nI_len, HLL.out]; unfold OwnI; rw [nI_len, HLL.out]; exact HOR.out)) (v : Int)
                    have HFIN : Hid (Rws w5 wo.heap.size (.slice a5 ((((((lvlL n j).take k).flatMap fun l => stepL n l n) ++ stepL n l v).map nI).length + 1) c5) (((((lvlL n j).take k).flatMap fun l => stepL n l n) ++ stepL n l (v + 1)).map nI)) := Lib.hid (by
                      rw [stepL_out HCB.out.symm, ← List.append_assoc, List.map_append (l₂ := [l ++ [v]]), show [l ++ [v]].map nI = [nI l ++ [(v : Int)]] from by simp [nI_snoc]]
                      exact hRf)
                    have HBF := Lib.hid hBf
                    obtain ⟨T, hT⟩ : ∃ T, T = (((((lvlL n j).take k).flatMap fun l => stepL n l n) ++ stepL n l v).map nI).length + 1 := ⟨_, rfl⟩
                    rw [← hT] at hr5 HFIN
                    have hcr2 := (World.cell?_alloc_lt w3 (.cells #[] 3) ⟨g, k, none⟩ (lt_of_cell hcr)).trans hcr
                    clear hRf hBf hPl hT
                    go_wp2_with (at_builtin; first | refine wpList_append_eq _ rfl _ _ 23 23 rfl _ _ rfl rfl hr3 ?_ | refine wpList_append_eq _ rfl _ _ 23 23 rfl _ _ rfl rfl hr4 ?_ | refine wpList_append_eq _ rfl _ _ 87 87 rfl _ _ rfl rfl hr5 ?_)
                    go_roundw
                    case rel => exact ⟨v + 1, _, by omega, by go_num, rfl, HFIN.out, HB3.out.trans HBF.out⟩
                    case measure => simp [intOf]; omega
                  · go_wp2
                    go_roundw
                    case rel => exact ⟨v + 1, nv, by omega, by go_num, rfl, by rw [stepL_in HCB.out.symm]; exact HNX.out, HB3.out⟩
                    case measure => simp [intOf]; omega
            · obtain rfl : v = n := by omega
              go_wp2
              go_roundw
              case rel => exact ⟨k + 1, nv, by omega, by go_num, rfl, by rw [HTK.out, List.flatMap_append]; simpa using hNx, hB3⟩
              case measure => simp [intOf]; omega
        · obtain rfl : k = N := by omega
          rw [List.take_of_length_le (by rw [← HN.out]; exact Nat.le_refl _), stepL_all] at hNx
          go_wp2
          go_roundw
          case rel => exact ⟨i + 1, nv, by omega, by go_num, rfl, hNx.base HB.out.size, HB.out.trans (hB2.mono HB.out.size)⟩
          case measure => simp [intOf]; omega
    · obtain rfl : i = n := by omega
      go_wp2
      go_ret
      exact ⟨_, rfl, hR, hB⟩

end Go.Proofs.YtacglafoahmcnaaDoor

/- It is proved what l2Best returns; conditions: those of each statement. -/
namespace Go.Proofs.YtacglafoahmcnaaDoor
open Go.RowKit Go.Shelf

set_option maxRecDepth 100000 in
theorem lvlL_pos_fin : ∀ m : Fin 7, 0 < (lvlL m.val m.val).length := by decide +kernel

theorem lvlL_pos {m : Nat} (hm : m ≤ 6) : 0 < (lvlL m m).length := lvlL_pos_fin ⟨m, by omega⟩
end Go.Proofs.YtacglafoahmcnaaDoor

/- It is proved what the model's MeetOrder returns; conditions: those of each statement. -/
namespace Go.Proofs.YtacglafoahmcnaaDoor
open Go.RowKit Go.Shelf

/-- No club, of the first ones, is broken. -/
def goodT (zs : List Int) (o : List Int) (i : Nat) : Bool := (zs.take i).all fun z => !brkB o z.toNat

theorem goodT_succ (zs : List Int) (o : List Int) {i : Nat} (h : i < zs.length) : goodT zs o (i + 1) = (goodT zs o i && !brkB o (zs[i]?.getD 0).toNat) := by
  unfold goodT
  rw [List.take_succ_eq_append_getElem h, List.all_append]
  simp [h]

theorem goodT_all (zs : List Int) (o : List Int) : goodT zs o zs.length = !brkC zs o := by
  unfold goodT brkC
  rw [List.take_length, List.all_eq_not_any_not]
  simp

theorem firstO_at {m : Nat} {zs : List Int} {j : Nat} (hj : j < (lvlL m m).length) (h0 : ∀ i, i < j → brkC zs (nI ((lvlL m m)[i]?.getD [])) = true) (h1 : brkC zs (nI ((lvlL m m)[j]?.getD [])) = false) : firstO m zs = some ((lvlL m m)[j]?.getD []) := by
  have hx : (lvlL m m)[j]?.getD [] = (lvlL m m)[j] := by rw [List.getElem?_eq_getElem hj]; rfl
  rw [hx] at h1 ⊢
  have e : lvlL m m = (lvlL m m).take j ++ (lvlL m m)[j] :: (lvlL m m).drop (j + 1) := by
    rw [← List.drop_eq_getElem_cons hj, List.take_append_drop]
  generalize (lvlL m m)[j] = q at h1 e ⊢
  unfold firstO
  rw [← lvlL_perms]
  conv => lhs; rw [e]
  rw [List.find?_append, List.find?_eq_none.2 (fun p hp => by
    obtain ⟨i, hi, rfl⟩ := List.mem_iff_getElem.1 hp
    rw [List.length_take] at hi
    have := h0 i (by omega)
    rw [List.getElem?_eq_getElem (by omega), Option.getD_some] at this
    rw [List.getElem_take, this]; decide)]
  simp [h1]

theorem firstO_no {m : Nat} {zs : List Int} (h0 : ∀ i, i < (lvlL m m).length → brkC zs (nI ((lvlL m m)[i]?.getD [])) = true) : firstO m zs = none := by
  unfold firstO
  rw [← lvlL_perms, List.find?_eq_none]
  intro p hp
  obtain ⟨i, hi, rfl⟩ := List.mem_iff_getElem.1 hp
  have := h0 i hi
  rw [List.getElem?_eq_getElem hi, Option.getD_some] at this
  rw [this]; decide

set_option maxRecDepth 100000 in
set_option maxHeartbeats 8000000 in
theorem specMeetOrder_any (mI : Int) (a : Option Addr) (c : Nat) (zs : List Int) (w : World) (ha : Ints w w.heap.size a zs) (hx : zs.length ≤ 1048576) :
    Calls Tryd.prog 36 #[.agg #[.int .i64 mI, .slice a zs.length c]] w (RetSB w (ordZ mI zs) (ordB mI zs)) := by
  have HB0 := Lib.hid (below1 w (.cells #[.int .i64 mI, .slice a zs.length c] 25))
  have HA := Lib.hid (ha.below HB0.out)
  have HA0 := Lib.hid ha
  clear ha
  cases hf : famIn mI zs
  · have HF := Lib.hid hf
    have HZ : Hid (ordZ mI zs = []) := Lib.hid (by unfold ordZ; rw [hf]; rfl)
    have HO : Hid (ordB mI zs = false) := Lib.hid (by unfold ordB; rw [hf]; rfl)
    clear hf
    rw [HZ.out, HO.out]
    go_enter Tryd.func36, Tryd.ntmps36
    go_wp2_with fail
    refine (specFamilyIn_any _ _ _ zs _ (HA.out.mono (by simp)) hx).mono ?_
    rintro e w1 ⟨rfl, hb⟩
    rw [HF.out]
    have HB := Lib.hid (HB0.out.trans (hb.mono (by simp)))
    clear hb
    go_wp2
    go_ret2
    exact ⟨_, 0, rfl, own_mono (own_empty (alloc_new w1 _) (Nat.le_refl _)) HB.out.size, HB.out.alloc HB.out.size _⟩
  · have HF := Lib.hid hf
    obtain ⟨m, rfl, hm1, hm6, hset, hl8⟩ := fam_nat2 hf
    have HZ : Hid (ordZ (m : Int) zs = nI ((firstO m zs).getD [])) := Lib.hid (by unfold ordZ; rw [hf]; rfl)
    have HO : Hid (ordB (m : Int) zs = (firstO m zs).isSome) := Lib.hid (by unfold ordB; rw [hf]; rfl)
    have HSET := Lib.hid hset
    have HFI := Lib.hid (specFamilyIn_any (m : Int) a c zs _ (HA.out.mono (show w.heap.size ≤ (w.alloc (.cells #[.int .i64 (m : Int), .slice a zs.length c] 25)).heap.size by simp)) hx)
    obtain ⟨n, hn⟩ : ∃ n, n = zs.length := ⟨_, rfl⟩
    have HN := Lib.hid hn
    rw [HZ.out, HO.out]
    rw [← hn] at HFI HB0 hl8 ⊢
    clear hf hset hn
    go_enter Tryd.func36, Tryd.ntmps36
    go_wp2_with fail
    refine HFI.out.mono ?_
    rintro e w1 ⟨rfl, hb⟩
    rw [HF.out]
    have b0 : HasBlk w1 w.heap.size #[.int .i64 (m : Int), .slice a n c] 25 := (hb.block _ (by simp)).trans (alloc_new w _)
    have hz1 : w.heap.size < w1.heap.size := lt_of_some b0
    have z0 := (blk_cell b0 0).trans (cell2_0 _ _)
    have z1 := (blk_cell b0 1).trans (cell2_1 _ _)
    have HB := Lib.hid (HB0.out.trans (hb.mono (by simp)))
    have HQ0 := Lib.hid b0
    clear hb b0
    go_wp2_with fail
    refine (perms_any m hm6 w1).mono ?_
    rintro e w2 ⟨pv, rfl, hRp, hb2⟩
    obtain ⟨pa, pc, rfl⟩ := hRp.form
    have hpos := lvlL_pos hm6
    obtain ⟨g, rfl⟩ : ∃ g, pa = some ⟨g, 0, none⟩ := by
      obtain ⟨g, _, _, e, _⟩ := hRp.at_ (i := 0) (by rw [List.length_map]; exact hpos)
      exact ⟨g, e⟩
    have hg2 : g < w2.heap.size := by
      obtain ⟨vals, h1, -⟩ := hRp
      exact (World.ownsRow.lt h1 g rfl).2
    obtain ⟨N, hN⟩ : ∃ N, N = (lvlL m m).length := ⟨_, rfl⟩
    have hNs : N ≤ 46656 := by rw [hN]; exact lvlL_small hm6 (Nat.le_refl m)
    have HAT : Hid (∀ j, j < N → ∃ a' c', (∀ W, Below w2.heap.size w2 W → W.cell? ⟨g, j, none⟩ = some (.slice a' m c') ∧ Ints W W.heap.size a' (nI ((lvlL m m)[j]?.getD []))) ∧ OwnI w2 w1.heap.size (.slice a' m c') (nI ((lvlL m m)[j]?.getD [])) ∧ (nI ((lvlL m m)[j]?.getD [])).length = m ∧ (∀ x ∈ nI ((lvlL m m)[j]?.getD []), 0 ≤ x ∧ x < 6)) := Lib.hid fun j hj => by
      have hjl : j < (lvlL m m).length := by omega
      obtain ⟨g', a', c', e, hc, ho⟩ := hRp.at_ (i := j) (by rw [List.length_map]; exact hjl)
      injection e with e
      injection e with e _ _
      subst e
      have e2 : ((lvlL m m).map nI)[j]?.getD [] = nI ((lvlL m m)[j]?.getD []) := by rw [List.getElem?_map, List.getElem?_eq_getElem hjl]; rfl
      have hp : (nI ((lvlL m m)[j]?.getD [])).length = m := by rw [nI_len, List.getElem?_eq_getElem hjl, Option.getD_some]; exact lvlL_in (List.getElem_mem hjl)
      rw [e2, hp] at hc ho
      have hoi : OwnI w2 w1.heap.size (.slice a' m c') (nI ((lvlL m m)[j]?.getD [])) := by unfold OwnI; rw [hp]; exact ho
      have hin : Ints w2 w2.heap.size a' (nI ((lvlL m m)[j]?.getD [])) := own_ints (show OwnI w2 w1.heap.size (.slice a' (nI ((lvlL m m)[j]?.getD [])).length c') _ from by rw [hp]; exact hoi)
      refine ⟨a', c', fun W hW => ⟨(hW.cell (p := ⟨g, j, none⟩) hg2).trans hc, (hin.below hW).mono hW.size⟩, hoi, hp, ?_⟩
      rw [List.getElem?_eq_getElem hjl, Option.getD_some]
      exact nI_in6 hm6 (lvlL_lt (List.getElem_mem hjl))
    rw [List.length_map, ← hN]
    have hbw2 : Below w.heap.size w w2 := HB.out.trans (hb2.mono HB.out.size)
    have HBW2 := Lib.hid hbw2
    have hz2 : w.heap.size < w2.heap.size := Nat.lt_of_lt_of_le hz1 hb2.size
    have b02 : HasBlk w2 w.heap.size #[.int .i64 (m : Int), .slice a n c] 25 := (hb2.block _ hz1).trans HQ0.out
    have HKEEP : Hid (∀ W, Below w2.heap.size w2 W → W.cell? ⟨w.heap.size, 0, none⟩ = some (.int .i64 (m : Int)) ∧ W.cell? ⟨w.heap.size, 1, none⟩ = some (.slice a n c)) := Lib.hid fun W hW =>
      ⟨(hW.cell (p := ⟨w.heap.size, 0, none⟩) hz2).trans ((blk_cell b02 0).trans (cell2_0 _ _)), (hW.cell (p := ⟨w.heap.size, 1, none⟩) hz2).trans ((blk_cell b02 1).trans (cell2_1 _ _))⟩
    have HI2 : Hid (∀ W, Below w2.heap.size w2 W → Ints W W.heap.size a zs) := Lib.hid fun W hW => (HA0.out.below (hbw2.trans (hW.mono hbw2.size))).mono (hbw2.trans (hW.mono hbw2.size)).size
    have HW12 : Hid (w.heap.size ≤ w1.heap.size) := Lib.hid (by omega)
    have HNN := Lib.hid hN
    have hN1 : 1 ≤ N := by omega
    have H0 : Hid ((∀ i, i < 0 → brkC zs (nI ((lvlL m m)[i]?.getD [])) = true) ∧ Below w2.heap.size w2 w2) := Lib.hid ⟨fun i h => by omega, Below.refl _ _⟩
    clear hbw2 b02 hRp hb2 hN hpos z0 z1 hz1 hz2 hg2
    go_wp2
    go_loopw [5, 6] (fun s5 _ wr => ∃ j : Nat, j ≤ N ∧ s5 = .int .i64 (j : Int) ∧ Hid ((∀ i, i < j → brkC zs (nI ((lvlL m m)[i]?.getD [])) = true) ∧ Below w2.heap.size w2 wr)) (fun s5 _ _ => N - (intOf s5).toNat)
    case atStart => exact ⟨0, Nat.zero_le _, rfl, H0⟩
    case round =>
      obtain ⟨j, hj, rfl, HS⟩ := hrel
      clear H0
      have hjI : (j : Int) ≤ 46656 := by omega
      have hj0 : (0 : Int) ≤ (j : Int) := by omega
      by_cases hlt : j < N
      · have hjP : (j : Int) < (N : Int) := by omega
        obtain ⟨a', c', hat, hown, hpl, hp6⟩ := HAT.out j hlt
        obtain ⟨p, hp⟩ : ∃ p, p = nI ((lvlL m m)[j]?.getD []) := ⟨_, rfl⟩
        have HP := Lib.hid hp
        rw [← hp] at hat hown hpl hp6
        have HAJ := Lib.hid hat
        have HOWN := Lib.hid hown
        have HPLL := Lib.hid hpl
        have HEV : Hid (∀ (z : Nat) W, z < 64 → Below w2.heap.size w2 W → Calls Tryd.prog 84 #[.slice a' m c', .int .i64 (z : Int)] W fun e w' => e = .returned (.bool (!brkB p z)) ∧ W = w') := Lib.hid fun z W hz hW => by
          have := l8Even_any z hz a' c' p hp6 (by omega) W (hat W hW).2
          rwa [hpl] at this
        have H1 : Hid (goodT zs p 0 = true ∧ Below w2.heap.size w2 wr) := Lib.hid ⟨by simp [goodT], HS.out.2⟩
        clear hat hown hpl hp6 hp
        go_wp2
        go_loopw [6, 7] (fun s6 s7 wi => ∃ i : Nat, i ≤ n ∧ s7 = .int .i64 (i : Int) ∧ s6 = .bool (goodT zs p i) ∧ Below w2.heap.size w2 wi) (fun _ s7 _ => n - (intOf s7).toNat)
        case atStart => exact ⟨0, Nat.zero_le _, rfl, by rw [H1.out.1], H1.out.2⟩
        case round =>
          obtain ⟨i, hi, rfl, rfl, hbi⟩ := hrel
          clear H1
          obtain ⟨x0, x1⟩ := HKEEP.out _ hbi
          have x2 := (HAJ.out _ hbi).1
          have HBI := Lib.hid hbi
          have hi0 : (0 : Int) ≤ (i : Int) := by omega
          have hi8 : (i : Int) ≤ 8 := by omega
          by_cases hin : i < n
          · have hinI : (i : Int) < (n : Int) := by omega
            have hil : i < zs.length := by rw [← HN.out]; exact hin
            have HSU := Lib.hid (goodT_succ zs p hil)
            have hzm := HSET.out _ (getD_mem (zs := zs) (i := i) hil)
            obtain ⟨z, hzz⟩ : ∃ z : Nat, zs[i]?.getD 0 = (z : Int) := ⟨(zs[i]?.getD 0).toNat, by have := hzm.1; omega⟩
            have hz64 : z < 64 := by
              have := p64 hm6 hzm.2
              rwa [hzz, Int.toNat_natCast] at this
            obtain ⟨b1, o1, rfl, hb1, hc⟩ := (HI2.out _ hbi).at_ (k := i) hil
            rw [hzz] at hc
            have HSU2 : Hid (goodT zs p (i + 1) = (goodT zs p i && !brkB p z)) := Lib.hid (by rw [HSU.out, hzz, Int.toNat_natCast])
            obtain ⟨G, hG⟩ : ∃ G, G = goodT zs p i := ⟨_, rfl⟩
            rw [← hG] at HSU2
            rw [← hG]
            obtain ⟨Bk, hBk⟩ : ∃ Bk, Bk = brkB p z := ⟨_, rfl⟩
            have HCALL := Lib.hid (HEV.out z wr.drew hz64 hbi.drew)
            rw [← hBk] at HSU2 HCALL
            have HBD : Hid (Below w2.heap.size w2 wr.drew) := Lib.hid hbi.drew
            clear hG hBk hzm hzz hbi HSU
            cases G
            · have HR : Hid (goodT zs p (i + 1) = false) := Lib.hid (by rw [HSU2.out]; rfl)
              clear HSU2
              go_wp2
              go_region
              all_goals
                go_wp2
                go_roundw
                case rel => exact ⟨i + 1, by omega, by go_num, by rw [HR.out], HBD.out⟩
                case measure => simp [intOf]; omega
            · have HR : Hid (goodT zs p (i + 1) = !Bk) := Lib.hid (by rw [HSU2.out]; rfl)
              clear HSU2
              go_wp2
              go_region_held3 (fun w' => w'.cell? ⟨w.heap.size, 0, none⟩ = some (.int .i64 (m : Int)) ∧ w'.cell? ⟨w.heap.size, 1, none⟩ = some (.slice (some ⟨b1, o1, none⟩) n c) ∧ w'.cell? ⟨g, j, none⟩ = some (.slice a' m c') ∧ w'.cell? ⟨b1, o1 + i, none⟩ = some (.int .i64 (z : Int)) ∧ w' = wr.drew)
                (exact ⟨x0, x1, x2, hc, rfl⟩)
                (first | (go_at_call 84; refine HCALL.out.mono ?_; rintro e w5 ⟨rfl, rfl⟩))
              all_goals
                go_wp2
                go_roundw
                case rel => exact ⟨i + 1, by omega, by go_num, by rw [HR.out], HBD.out⟩
                case measure => simp [intOf]; omega
          · obtain rfl : i = n := by omega
            have HG : Hid (goodT zs p i = !brkC zs p) := Lib.hid (by rw [HN.out]; exact goodT_all zs p)
            cases hk : brkC zs p
            · have HFO : Hid (firstO m zs = some ((lvlL m m)[j]?.getD [])) := Lib.hid (firstO_at (by rw [← HNN.out]; exact hlt) HS.out.1 (by rw [← HP.out]; exact hk))
              rw [HG.out, hk]
              have HOW : Hid (OwnI wr w.heap.size (.slice a' (nI ((firstO m zs).getD [])).length c') (nI ((firstO m zs).getD []))) := Lib.hid (by
                rw [HFO.out, Option.getD_some, ← HP.out, HPLL.out]
                exact own_mono (own_below HOWN.out hbi (Nat.le_refl _)) HW12.out)
              have HBF : Hid (Below w.heap.size w wr) := Lib.hid (HBW2.out.trans (hbi.mono HBW2.out.size))
              have HLEN : Hid ((nI ((firstO m zs).getD [])).length = m) := Lib.hid (by rw [HFO.out, Option.getD_some, ← HP.out]; exact HPLL.out)
              have HSM : Hid ((firstO m zs).isSome = true) := Lib.hid (by rw [HFO.out]; rfl)
              clear hk hbi
              go_wp2
              go_ret2
              exact ⟨a', c', by first | (rw [HLEN.out, HSM.out]; done) | (rw [HLEN.out, HSM.out]; rfl), HOW.out, HBF.out⟩
            · rw [HG.out, hk]
              have HR : Hid ((∀ l, l < j + 1 → brkC zs (nI ((lvlL m m)[l]?.getD [])) = true) ∧ Below w2.heap.size w2 wr) := Lib.hid ⟨fun l hl => by
                rcases Nat.lt_succ_iff_lt_or_eq.1 hl with h | rfl
                · exact HS.out.1 l h
                · rw [← HP.out]; exact hk, hbi⟩
              clear hk hbi
              go_wp2
              go_roundw
              case rel => exact ⟨j + 1, by omega, by go_num, HR⟩
              case measure => simp [intOf]; omega
      · obtain rfl : j = N := by omega
        have HFO : Hid (firstO m zs = none) := Lib.hid (firstO_no (by rw [← HNN.out]; exact HS.out.1))
        have HBF : Hid (Below w.heap.size w wr) := Lib.hid (HBW2.out.trans (HS.out.2.mono HBW2.out.size))
        clear HS
        go_wp2
        go_ret2
        rw [HFO.out]
        exact ⟨_, 0, rfl, own_mono (own_empty (alloc_new wr _) (Nat.le_refl _)) HBF.out.size, HBF.out.alloc HBF.out.size _⟩

end Go.Proofs.YtacglafoahmcnaaDoor

/- It is proved that the calls of exact laws of clubs that meet return true, given what the two functions return; conditions: those of each statement. -/
namespace Go.Proofs.YtacglafoahmcnaaDoor
open Go.RowKit

theorem ordZ_len (m : Int) (zs : List Int) : (ordZ m zs).length ≤ 1048576 := by
  unfold ordZ
  cases h : famIn m zs
  · simp
  · obtain ⟨-, h2, -, -⟩ := famIn_out h
    rw [if_pos rfl, nI_len]
    cases hf : firstO m.toNat zs with
    | none => simp
    | some p =>
      unfold firstO at hf
      have := permsL_len _ _ _ (List.mem_of_find?_eq_some hf)
      rw [Option.getD_some, this]
      omega

end Go.Proofs.YtacglafoahmcnaaDoor
