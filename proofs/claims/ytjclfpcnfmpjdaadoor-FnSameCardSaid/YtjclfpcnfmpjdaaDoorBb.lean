/- It is proved that l2Perms lists all names in order; conditions: those of each statement. -/
import Derived.RowKit
import Derived.RangeFuncNested
import Derived.RangeFuncBound
import Derived.RangeFuncCalls
import Derived.RangeFuncLeaves
import Derived.RangeFuncBox
import Derived.RangeFuncWrites
import Derived.Test.YtjclfpcnfmpjdaaDoorRows
import Derived.WalkKit
import Derived.WalkSpells
import Derived.ProofKit
import Derived.OpenShut
import Derived.ShutString
import Derived.ChangeOld
import Derived.Below
import Derived.Deep.RegionHeld3
import Derived.Deep.QuietTactic
import Derived.BigQuiet
import Derived.Lib.Hide
import Derived.Lib.SmallJoins
import Derived.Outline
import Derived.Laws.MakeOwn
import Derived.Laws.OwnMore
import Derived.IntWalk
import Derived.Lib.AppendZeros
import Derived.Maps.AppendAt
import Derived.Deep.AppendLies
import Derived.OwnWalk
import Derived.Shelf.Abstract
import Derived.Shelf.RegionOpen
import Derived.OwnWalkIn
import Derived.TacticsInMore
import Derived.LoopNIn
import Derived.LoopIn
import Derived.Shelf.Spec.TrailingZeros
import Derived.Test.YtjclfpcnfmpjdaaDoorMpa
import Derived.Test.YtjclfpcnfmpjdaaDoorBa
import Derived.Test.YtjclfpcnfmpjdaaDoorMpb
namespace Go.Proofs.YtjclfpcnfmpjdaaDoor
open Go.RowKit Go.Shelf

def stepL (n : Nat) (l : List Nat) (v : Nat) : List (List Nat) := ((List.range v).filter fun u => !l.contains u).map fun u => l ++ [u]
theorem stepL_all (n : Nat) (L : List (List Nat)) : L.flatMap (fun l => stepL n l n) = nextL n L := rfl
theorem stepL_len (n : Nat) (l : List Nat) (v : Nat) : (stepL n l v).length ≤ v := by
  unfold stepL; rw [List.length_map]; exact Nat.le_trans (List.length_filter_le _ _) (by simp)

theorem stepL_in {n : Nat} {l : List Nat} {v : Nat} (h : l.contains v = true) : stepL n l (v + 1) = stepL n l v := by
  simp [stepL, List.range_succ, List.filter_append, h]
  simpa using h

theorem stepL_out {n : Nat} {l : List Nat} {v : Nat} (h : l.contains v = false) : stepL n l (v + 1) = stepL n l v ++ [l ++ [v]] := by
  have h' : v ∉ l := by simpa using h
  simp [stepL, List.range_succ, List.filter_append, h']

set_option maxRecDepth 100000 in
set_option maxHeartbeats 8000000 in
theorem perms_any (n : Nat) (hn : n ≤ 6) (w : World) :
    Calls Tryd.prog 83 #[.int .i64 (n : Int)] w fun e w' => ∃ v, e = .returned v ∧ Rws w' w.heap.size v ((lvlL n n).map nI) ∧ Below w.heap.size w w' := by
  have hb2 := below2 w (.cells #[] 3) (.cells #[.slice (some ⟨w.heap.size, 0, none⟩) 0 0] 23)
  have q0 := alloc2_0 w (.cells #[] 3) (.cells #[.slice (some ⟨w.heap.size, 0, none⟩) 0 0] 23)
  have q1 := alloc2_1 w (.cells #[] 3) (.cells #[.slice (some ⟨w.heap.size, 0, none⟩) 0 0] 23)
  have hR0 : Rws ((w.alloc (.cells #[] 3)).alloc (.cells #[.slice (some ⟨w.heap.size, 0, none⟩) 0 0] 23)) w.heap.size (.slice (some ⟨w.heap.size + 1, 0, none⟩) 1 1) ((lvlL n 0).map nI) :=
    ⟨[.slice (some ⟨w.heap.size, 0, none⟩) 0 0], ⟨by simp [lvlL], .inr ⟨w.heap.size + 1, 1, _, rfl, by omega, q1, Nat.le_refl _, by simp [maxLen], by simp, by simp [lvlL]⟩⟩, fun i hi => by
      have hi0 : i = 0 := by simpa [lvlL] using hi
      subst hi0
      exact ⟨some ⟨w.heap.size, 0, none⟩, 0, rfl, own_empty q0 (Nat.le_refl _)⟩⟩
  have HR0 := Lib.hid hR0
  have HB0 := Lib.hid hb2
  clear hb2 q0 q1 hR0
  go_enter Tryd.func83, Tryd.ntmps83
  go_wp2
  go_loopw [3, 4] (fun o i wr => ∃ (k : Nat) (v : Value), k ≤ n ∧ i = .int .i64 (k : Int) ∧ o = v ∧ Rws wr w.heap.size v ((lvlL n k).map nI) ∧ Below w.heap.size w wr) (fun _ i _ => n - (intOf i).toNat)
  case atStart => exact ⟨0, _, Nat.zero_le _, rfl, rfl, HR0.out, HB0.out⟩
  case round =>
    obtain ⟨i, ov, hi, rfl, rfl, hR, hB⟩ := hrel
    by_cases hlt : i < n
    · obtain ⟨wo, hwo⟩ : ∃ wo, wo = wr := ⟨wr, rfl⟩
      subst hwo
      obtain ⟨oa, oc, rfl⟩ := hR.form
      obtain ⟨N, hN⟩ : ∃ N, N = (lvlL n i).length := ⟨_, rfl⟩
      have hNs : N ≤ 7776 := by
        rw [hN]
        exact Nat.le_trans (lvlL_len n i) (Nat.le_trans (Nat.pow_le_pow_left hn i) (Nat.le_trans (Nat.pow_le_pow_right (by decide) (by omega : i ≤ 5)) (by decide)))
      have HN := Lib.hid hN
      have HR := Lib.hid hR
      have HB := Lib.hid hB
      have HN0 : Hid (Rws (wo.alloc (.cells #[] 23)) wo.heap.size (.slice (some ⟨wo.heap.size, 0, none⟩) 0 0) ((((lvlL n i).take 0).flatMap fun l => stepL n l n).map nI)) := Lib.hid (rws_nil _ _ (alloc_new wo _) (Nat.le_refl _))
      have HNB := Lib.hid (below1 wo (.cells #[] 23))
      rw [List.length_map, ← hN]
      clear hN hR hB
      go_wp2
      go_loopw [5, 6] (fun nx kk wr => ∃ (k : Nat) (nv : Value), k ≤ N ∧ kk = .int .i64 (k : Int) ∧ nv = nx ∧ Rws wr wo.heap.size nv ((((lvlL n i).take k).flatMap fun l => stepL n l n).map nI) ∧ Below wo.heap.size wo wr) (fun _ kk _ => N - (intOf kk).toNat)
      case atStart => exact ⟨0, _, Nat.zero_le _, rfl, rfl, HN0.out, HNB.out⟩
      case round =>
        obtain ⟨k, nv, hk, rfl, rfl, hNx, hB2⟩ := hrel
        by_cases hkl : k < N
        · obtain ⟨w2, hw2⟩ : ∃ w2, w2 = wr := ⟨wr, rfl⟩
          subst hw2
          have hkl' : k < (lvlL n i).length := by have := HN.out; omega
          obtain ⟨l, hl⟩ : ∃ l, l = (lvlL n i)[k] := ⟨_, rfl⟩
          have hll : l.length = i := lvlL_in (by rw [hl]; exact List.getElem_mem hkl')
          have HTK : Hid ((lvlL n i).take (k + 1) = (lvlL n i).take k ++ [l]) := Lib.hid (by rw [hl]; exact List.take_succ_eq_append_getElem hkl')
          have HPL : Hid ((((lvlL n i).take k).flatMap fun l => stepL n l n).length ≤ k * 6) := Lib.hid (by
            refine Nat.le_trans (flat_len _ 6 _ (fun l _ => Nat.le_trans (stepL_len n l n) hn)) (Nat.mul_le_mul_right _ ?_)
            rw [List.length_take]; omega)
          have HNX : Hid (Rws w2 wo.heap.size nv (((((lvlL n i).take k).flatMap fun l => stepL n l n) ++ stepL n l 0).map nI)) := Lib.hid (by simpa [stepL] using hNx)
          have HB2 := Lib.hid hB2
          have HRW : Hid (∀ wz, Below wo.heap.size wo wz → ∃ g a' c', oa = some ⟨g, 0, none⟩ ∧ wz.cell? ⟨g, k, none⟩ = some (.slice a' i c') ∧ OwnN wz w.heap.size a' i c' (nI l)) := Lib.hid (fun wz hz => by
            obtain ⟨g, a', c', e, hc, ho⟩ := (HR.out.below hz).at_ (i := k) (by rw [List.length_map]; exact hkl')
            have e2 : ((lvlL n i).map nI)[k]?.getD [] = nI l := by rw [List.getElem?_map, List.getElem?_eq_getElem hkl', ← hl]; rfl
            rw [e2, nI_len, hll] at hc ho
            exact ⟨g, a', c', e, hc, ho⟩)
          have hkN : (k : Int) < (N : Int) := by omega
          have HLL := Lib.hid hll
          clear hl hll hNx hB2 hkl'
          go_wp2
          go_loopw [5, 7] (fun nx vv wr => ∃ (v : Nat) (nv : Value), v ≤ n ∧ vv = .int .i64 (v : Int) ∧ nv = nx ∧ Rws wr wo.heap.size nv (((((lvlL n i).take k).flatMap fun l => stepL n l n) ++ stepL n l v).map nI) ∧ Below wo.heap.size wo wr) (fun _ vv _ => n - (intOf vv).toNat)
          case atStart => exact ⟨0, nv, Nat.zero_le _, rfl, rfl, HNX.out, HB2.out⟩
          case round =>
            obtain ⟨v, nv, hv, rfl, rfl, hNx, hB3⟩ := hrel
            by_cases hvn : v < n
            · obtain ⟨w3, hw3⟩ : ∃ w3, w3 = wr := ⟨wr, rfl⟩
              subst hw3
              obtain ⟨g, a', c', rfl, hcr, hor⟩ := HRW.out w3 hB3
              have HNX := Lib.hid hNx
              have HB3 := Lib.hid hB3
              have HOR := Lib.hid hor
              have hk0 : (0 : Int) ≤ (k : Int) := by omega
              clear hNx hB3 hor
              go_wp2
              go_loop [8, 9] (fun b j => ∃ jj : Nat, jj ≤ i ∧ j = .int .i64 (jj : Int) ∧ b = .bool ((l.take jj).contains v)) (fun _ j => i - (intOf j).toNat)
              case atStart => exact ⟨0, Nat.zero_le _, rfl, by simp⟩
              case round =>
                obtain ⟨j, hj, rfl, rfl⟩ := hrel
                by_cases hji : j < i
                · obtain ⟨b1, rfl, -, -⟩ := HOR.out.addr (by omega)
                  have hjl : j < l.length := by have := HLL.out; omega
                  have c1 := HOR.out.cell (j := j) hji
                  obtain ⟨u, hu⟩ : ∃ u, u = l[j] := ⟨_, rfl⟩
                  rw [show (nI l)[j]?.getD 0 = (u : Int) from by simp [nI, hjl, hu]] at c1
                  have HT : Hid ((l.take (j + 1)).contains v = ((l.take j).contains v || decide (u = v))) := Lib.hid (by
                    rw [List.take_succ_eq_append_getElem hjl, ← hu, Bool.eq_iff_iff, Bool.or_eq_true, decide_eq_true_eq, List.contains_iff_mem, List.contains_iff_mem, List.mem_append, List.mem_singleton]
                    exact or_congr Iff.rfl eq_comm)
                  have hjI : (j : Int) < (i : Int) := by omega
                  have hj0 : (0 : Int) ≤ (j : Int) := by omega
                  obtain ⟨cb, hcb⟩ : ∃ cb, cb = (l.take j).contains v := ⟨_, rfl⟩
                  rw [← hcb]
                  rw [← hcb] at HT
                  clear hcb hu
                  cases cb
                  · by_cases huv : u = v
                    · subst huv
                      go_wp2
                      go_round
                      case rel => exact ⟨j + 1, by omega, by go_num, by rw [HT.out]; simp⟩
                      case measure => simp [intOf]; omega
                    · have hne : ((u : Int) == (v : Int)) = false := by simp; omega
                      go_wp2
                      go_round
                      case rel => exact ⟨j + 1, by omega, by go_num, by rw [HT.out]; simp [huv]⟩
                      case measure => simp [intOf]; omega
                  · go_wp2
                    go_round
                    case rel => exact ⟨j + 1, by omega, by go_num, by rw [HT.out]; rfl⟩
                    case measure => simp [intOf]; omega
                · obtain rfl : j = i := by omega
                  rw [List.take_of_length_le (by rw [HLL.out]; exact Nat.le_refl _)]
                  obtain ⟨cb, hcb⟩ : ∃ cb, cb = l.contains v := ⟨_, rfl⟩
                  rw [← hcb]
                  have HCB := Lib.hid hcb
                  clear hcb
                  cases cb
                  · have hPl : (((((lvlL n j).take k).flatMap fun l => stepL n l n) ++ stepL n l v).map nI).length ≤ 100000 := by
                      rw [List.length_map, List.length_append]
                      have h1 := HPL.out
                      have h2 := stepL_len n l v
                      omega
                    obtain ⟨a3, c3, w3a, a4, c4, w4, a5, c5, w5, hr3, hr4, hr5, hRf, hBf⟩ := ext_row HNX.out HB3.out.size hPl a' c' j (nI l) (by rw [nI_len, HLL.out]) (by omega) (show Ints w3 w3.heap.size a' (nI l) from own_ints (show OwnI w3 w.heap.size (.slice a' (nI l).length c') (nI l) from by rw [nI_len, HLL.out]; unfold OwnI; rw [nI_len, HLL.out]; exact HOR.out)) (v : Int)
                    have HFIN : Hid (Rws w5 wo.heap.size (.slice a5 ((((((lvlL n j).take k).flatMap fun l => stepL n l n) ++ stepL n l v).map nI).length + 1) c5) (((((lvlL n j).take k).flatMap fun l => stepL n l n) ++ stepL n l (v + 1)).map nI)) := Lib.hid (by
                      rw [stepL_out HCB.out.symm, ← List.append_assoc, List.map_append (l₂ := [l ++ [v]]), show [l ++ [v]].map nI = [nI l ++ [(v : Int)]] from by simp [nI_snoc]]
                      exact hRf)
                    have HBF := Lib.hid hBf
                    obtain ⟨T, hT⟩ : ∃ T, T = (((((lvlL n j).take k).flatMap fun l => stepL n l n) ++ stepL n l v).map nI).length + 1 := ⟨_, rfl⟩
                    rw [← hT] at hr5 HFIN
                    have hcr2 := (World.cell?_alloc_lt w3 (.cells #[] 3) ⟨g, k, none⟩ (lt_of_cell hcr)).trans hcr
                    clear hRf hBf hPl hT
                    go_wp2_with (at_builtin; first | refine wpList_append_eq _ rfl _ _ 23 23 rfl _ _ rfl rfl hr3 ?_ | refine wpList_append_eq _ rfl _ _ 23 23 rfl _ _ rfl rfl hr4 ?_ | refine wpList_append_eq _ rfl _ _ 82 82 rfl _ _ rfl rfl hr5 ?_)
                    go_roundw
                    case rel => exact ⟨v + 1, _, by omega, by go_num, rfl, HFIN.out, HB3.out.trans HBF.out⟩
                    case measure => simp [intOf]; omega
                  · go_wp2
                    go_roundw
                    case rel => exact ⟨v + 1, nv, by omega, by go_num, rfl, by rw [stepL_in HCB.out.symm]; exact HNX.out, HB3.out⟩
                    case measure => simp [intOf]; omega
            · obtain rfl : v = n := by omega
              go_wp2
              go_roundw
              case rel => exact ⟨k + 1, nv, by omega, by go_num, rfl, by rw [HTK.out, List.flatMap_append]; simpa using hNx, hB3⟩
              case measure => simp [intOf]; omega
        · obtain rfl : k = N := by omega
          rw [List.take_of_length_le (by rw [← HN.out]; exact Nat.le_refl _), stepL_all] at hNx
          go_wp2
          go_roundw
          case rel => exact ⟨i + 1, nv, by omega, by go_num, rfl, hNx.base HB.out.size, HB.out.trans (hB2.mono HB.out.size)⟩
          case measure => simp [intOf]; omega
    · obtain rfl : i = n := by omega
      go_wp2
      go_ret
      exact ⟨_, rfl, hR, hB⟩

end Go.Proofs.YtjclfpcnfmpjdaaDoor
