/- It is proved what TableIs of the model returns; conditions: those of each statement. -/
import Derived.RowKit
import Derived.Laws.CopyRow
import Derived.Lib.SlBuf
import Derived.RangeFuncNested
import Derived.RangeFuncBound
import Derived.RangeFuncCalls
import Derived.RangeFuncLeaves
import Derived.RangeFuncBox
import Derived.RangeFuncWrites
import Derived.Test.YtbiggilheicfjaaRows
import Derived.WalkKit
import Derived.WalkSpells
import Derived.ProofKit
import Derived.OpenShut
import Derived.ShutString
import Derived.ChangeOld
import Derived.Below
import Derived.Deep.RegionHeld3
import Derived.Deep.QuietTactic
import Derived.BigQuiet
import Derived.Lib.Hide
import Derived.Lib.SmallJoins
import Derived.Outline
import Derived.Laws.MakeOwn
import Derived.Laws.OwnMore
import Derived.IntWalk
import Derived.Lib.AppendZeros
import Derived.Maps.AppendAt
import Derived.Deep.AppendLies
import Derived.OwnWalk
import Derived.Lib.SlicesCompact
import Derived.Lib.OwnBridge
import Derived.Shelf.Sort.Plain
import Derived.Shelf.Slices.In.SortNone
import Derived.Shelf.Slices.CompactI
import Derived.Ground.Names2Prog
import Derived.Shelf.Abstract
import Derived.Shelf.RegionOpen
import Derived.OwnWalkIn
import Derived.TacticsInMore
import Derived.LoopNIn
import Derived.LoopIn
import Derived.StillTail
import Derived.StillTactics
import Derived.OrdersIn
import Derived.TacticsIn
import Derived.Shelf.Spec.TrailingZeros
import Derived.StillTailTactics
import Derived.Test.YtbiggilheicfjaaAf
import Derived.Test.YtbiggilheicfjaaB
import Derived.Test.YtbiggilheicfjaaBc
import Derived.Test.YtbiggilheicfjaaE
import Derived.Test.YtbiggilheicfjaaEa
import Derived.Test.YtbiggilheicfjaaGa
import Derived.Test.YtbiggilheicfjaaGb
namespace Go.Proofs.Ytbiggilheicfjaa
open Go.RowKit

def roomZ (ss : List Int) (k : Int) : Int := (ss.map fun s => min k s).sum
def descL (zs : List Int) : List Int := (zs.mergeSort leZ).reverse
def preZ (D : List Int) (j : Nat) : Int := (D.take j).sum
def fitZ (ss D : List Int) (j : Nat) : Bool := decide (preZ D j ≤ roomZ ss (j : Int))
def isB (ss zs : List Int) : Bool := (List.range (zs.length + 1)).all (fitZ ss (descL zs)) && decide (preZ (descL zs) zs.length = ss.sum)
def tabIs (ss zs : List Int) : Bool := tabIn ss zs && isB ss zs
theorem sum_take (zs : List Int) (k : Nat) (h : k < zs.length) : (zs.take (k + 1)).sum = (zs.take k).sum + zs[k]?.getD 0 := by
  rw [List.take_succ_eq_append_getElem h, List.sum_append]; simp [h]

theorem pre_succ (D : List Int) (j : Nat) (h : j < D.length) : preZ D (j + 1) = preZ D j + D[j]?.getD 0 := sum_take D j h
theorem pre_all (D : List Int) (j : Nat) (h : D.length ≤ j) : preZ D j = D.sum := by rw [preZ, List.take_of_length_le h]
theorem sum_bd : ∀ zs : List Int, (∀ z ∈ zs, 0 ≤ z ∧ z ≤ 5) → 0 ≤ zs.sum ∧ zs.sum ≤ 5 * (zs.length : Int)
  | [], _ => by simp
  | z :: zs, h => by
    have h1 := h z (by simp)
    have h2 := sum_bd zs (fun y hy => h y (by simp [hy]))
    simp only [List.sum_cons, List.length_cons]
    omega

theorem pre_bd {D : List Int} (h : ∀ z ∈ D, 0 ≤ z ∧ z ≤ 5) (hl : D.length ≤ 5) (j : Nat) : 0 ≤ preZ D j ∧ preZ D j ≤ 25 := by
  have h1 := sum_bd (D.take j) (fun z hz => h z (List.mem_of_mem_take hz))
  have h2 : (D.take j).length ≤ D.length := by rw [List.length_take]; omega
  simp only [preZ]
  omega

theorem min_bd {s k : Int} (h : 0 ≤ s ∧ s ≤ 5) (hk : 0 ≤ k) : 0 ≤ min k s ∧ min k s ≤ 5 := by omega
theorem room_bd {ss : List Int} (h : ∀ z ∈ ss, 0 ≤ z ∧ z ≤ 5) (hl : ss.length ≤ 5) {k : Int} (hk : 0 ≤ k) (j : Nat) : 0 ≤ roomZ (ss.take j) k ∧ roomZ (ss.take j) k ≤ 25 := by
  have h1 := sum_bd ((ss.take j).map fun s => min k s) (fun z hz => by
    obtain ⟨s, hs, rfl⟩ := List.mem_map.1 hz
    exact min_bd (h s (List.mem_of_mem_take hs)) hk)
  have h2 : (ss.take j).length ≤ ss.length := by rw [List.length_take]; omega
  rw [List.length_map] at h1
  simp only [roomZ]
  omega

theorem room_succ (ss : List Int) (k : Int) (j : Nat) (h : j < ss.length) : roomZ (ss.take (j + 1)) k = roomZ (ss.take j) k + min k (ss[j]?.getD 0) := by
  rw [List.take_succ_eq_append_getElem h, roomZ, roomZ, List.map_append, List.sum_append]; simp [h]

theorem desc_len (zs : List Int) : (descL zs).length = zs.length := by simp [descL, List.length_mergeSort]
theorem desc_mem {zs : List Int} {z : Int} (h : z ∈ descL zs) : z ∈ zs := by
  rw [descL, List.mem_reverse] at h
  exact (List.mergeSort_perm zs leZ).subset h

theorem desc_at (zs : List Int) (j q : Nat) (h : j + q + 1 = zs.length) : (zs.mergeSort leZ)[q]?.getD 0 = (descL zs)[j]?.getD 0 := by
  rw [descL, List.getElem?_reverse (by rw [List.length_mergeSort]; omega), List.length_mergeSort]
  congr 2
  omega

theorem all_range {f : Nat → Bool} {n : Nat} (h : ∀ i, i < n → f i = true) : (List.range n).all f = true := by
  rw [List.all_eq_true]; intro i hi; exact h i (List.mem_range.1 hi)

theorem all_range_no {f : Nat → Bool} {n k : Nat} (hk : k < n) (h : f k = false) : (List.range n).all f = false := by
  rw [List.all_eq_false]; exact ⟨k, List.mem_range.2 hk, by simp [h]⟩

set_option maxRecDepth 100000 in
set_option maxHeartbeats 1600000 in
theorem specIs_no (a b : Option Addr) (c d : Nat) (ss zs : List Int) (w : World) (ha : Ints w w.heap.size a ss) (hb : Ints w w.heap.size b zs) (hx : ss.length ≤ 1048576) (hy : zs.length ≤ 1048576) (hf : tabIn ss zs = false) :
    Calls Try.prog 5 #[.slice a ss.length c, .slice b zs.length d] w fun e w' => e = .returned (.bool false) ∧ Below w.heap.size w w' := by
  have H := given_any a b c d ss zs w ha hb hx hy
  rw [hf] at H
  go_enter Try.func5, Try.ntmps5
  go_wp2_with fail
  refine H.mono ?_
  rintro e w1 ⟨rfl, rfl⟩
  go_wp2
  go_ret
  exact ⟨rfl, Below.refl _ _⟩

set_option maxRecDepth 100000 in
set_option maxHeartbeats 4000000 in
theorem specIs_yes (a b : Option Addr) (c d : Nat) (ss zs : List Int) (w : World) (ha : Ints w w.heap.size a ss) (hb : Ints w w.heap.size b zs) (hx : ss.length ≤ 1048576) (hy : zs.length ≤ 1048576) (hf : tabIn ss zs = true) :
    Calls Try.prog 5 #[.slice a ss.length c, .slice b zs.length d] w fun e w' => e = .returned (.bool (isB ss zs)) ∧ Below w.heap.size w w' := by
  have H := given_any a b c d ss zs w ha hb hx hy
  rw [hf] at H
  have H2 := l2Sorted_any b d zs w hb hy
  obtain ⟨hs, hd⟩ := tabIn_out hf
  obtain ⟨hm5, hsz⟩ := numIn_out hs
  obtain ⟨hn1, hn5, hzz⟩ := degIn_out hd
  obtain ⟨D, hD⟩ : ∃ D, D = descL zs := ⟨_, rfl⟩
  have hDl : D.length = zs.length := by rw [hD, desc_len]
  have hDz : ∀ z ∈ D, 0 ≤ z ∧ z ≤ 5 := fun z hz => hzz z (desc_mem (by rw [← hD]; exact hz))
  have HDl := Lib.hid hDl
  have HPB : Hid (∀ j, 0 ≤ preZ D j ∧ preZ D j ≤ 25) := Lib.hid (fun j => pre_bd hDz (by omega) j)
  have HRB : Hid (∀ (k : Int), 0 ≤ k → ∀ j, 0 ≤ roomZ (ss.take j) k ∧ roomZ (ss.take j) k ≤ 25) := Lib.hid (fun k hk j => room_bd hsz hm5 hk j)
  have HSB : Hid (∀ j, 0 ≤ (ss.take j).sum ∧ (ss.take j).sum ≤ 25) := Lib.hid (fun j => by
    have h1 := sum_bd (ss.take j) (fun z hz => hsz z (List.mem_of_mem_take hz))
    have h2 : (ss.take j).length ≤ ss.length := by rw [List.length_take]; omega
    omega)
  have HSZ := Lib.hid hsz
  have HDZ : Hid (∀ j : Nat, j < zs.length → 0 ≤ D[j]?.getD 0 ∧ D[j]?.getD 0 ≤ 5) := Lib.hid (fun j hj => by
    have hj' : j < D.length := by omega
    have := hDz D[j] (List.getElem_mem hj')
    simpa [hj'] using this)
  have HIS : Hid (isB ss zs = ((List.range (zs.length + 1)).all (fitZ ss D) && decide (preZ D zs.length = ss.sum))) := Lib.hid (by rw [isB, hD])
  have HDA : Hid (∀ j q, j + q + 1 = zs.length → (zs.mergeSort leZ)[q]?.getD 0 = D[j]?.getD 0) := Lib.hid (by rw [hD]; exact desc_at zs)
  obtain ⟨n, hn⟩ : ∃ n, n = zs.length := ⟨_, rfl⟩
  obtain ⟨m, hm⟩ : ∃ m, m = ss.length := ⟨_, rfl⟩
  have HN := Lib.hid hn
  have HM := Lib.hid hm
  have HI := Lib.hid ha
  rw [← hn, ← hm] at H
  rw [← hn] at H2 hn5
  rw [← hm] at hm5
  rw [← hn, ← hm]
  clear ha hb hs hd hsz hzz hD hDl hDz hf hn hm hn1
  go_enter Try.func5, Try.ntmps5
  go_wp2_with fail
  refine H.mono ?_
  rintro e w1 ⟨rfl, rfl⟩
  go_wp2_with fail
  refine H2.mono ?_
  rintro e w1 ⟨a', c', rfl, ho, hb1⟩
  have HO := Lib.hid ho
  have HB := Lib.hid hb1
  clear H H2 ho hb1
  go_wp2
  go_loop [6, 7] (fun l j => ∃ k : Nat, k ≤ n + 1 ∧ j = .int .i64 (k : Int) ∧ l = .int .i64 (preZ D k) ∧ ∀ i, i < k → fitZ ss D i = true) (fun _ j => n + 1 - (intOf j).toNat)
  case atStart => exact ⟨0, Nat.zero_le _, rfl, by simp [preZ], fun i hi => by omega⟩
  case round =>
    obtain ⟨j, hj, rfl, rfl, he⟩ := hrel
    have HE := Lib.hid he
    clear he
    obtain ⟨hp0, hp25⟩ := HPB.out j
    obtain ⟨p, hp⟩ : ∃ p, p = preZ D j := ⟨_, rfl⟩
    have HP := Lib.hid hp
    rw [← hp] at hp0 hp25 ⊢
    clear hp
    by_cases hlt : j ≤ n
    · have hjn : (j : Int) ≤ (n : Int) := by omega
      go_wp2
      go_loop [8, 9] (fun r i => ∃ k : Nat, k ≤ m ∧ i = .int .i64 (k : Int) ∧ r = .int .i64 (roomZ (ss.take k) (j : Int))) (fun _ i => m - (intOf i).toNat)
      case atStart => exact ⟨0, Nat.zero_le _, rfl, by simp [roomZ]⟩
      case round =>
        obtain ⟨k, hk, rfl, rfl⟩ := hrel
        obtain ⟨hr0, hr25⟩ := HRB.out (j : Int) (by omega) k
        obtain ⟨r, hr⟩ : ∃ r, r = roomZ (ss.take k) (j : Int) := ⟨_, rfl⟩
        have HR := Lib.hid hr
        rw [← hr] at hr0 hr25 ⊢
        clear hr
        by_cases hkm : k < m
        · have hks : k < ss.length := by have := HM.out; omega
          have hkm' : (k : Int) < (m : Int) := by omega
          obtain ⟨b1, o1, rfl, hb1, hc1⟩ := HI.out.at_ hks
          have hc2 := (HB.out.cell (p := ⟨b1, o1 + k, none⟩) hb1).trans hc1
          have hz5 := HSZ.out ss[k] (List.getElem_mem hks)
          obtain ⟨z, hz⟩ : ∃ z, z = ss[k]?.getD 0 := ⟨_, rfl⟩
          have hz0 : 0 ≤ z := by rw [hz]; simp [hks]; exact hz5.1
          have hz6 : z ≤ 5 := by rw [hz]; simp [hks]; exact hz5.2
          rw [← hz] at hc2
          have HRS : Hid (roomZ (ss.take (k + 1)) (j : Int) = r + min (j : Int) z) := Lib.hid (by rw [room_succ _ _ _ hks, ← HR.out, ← hz])
          clear hc1 hz hz5
          by_cases hmin : (j : Int) ≤ z
          · have HMI : Hid (min (j : Int) z = (j : Int)) := Lib.hid (by omega)
            go_wp2
            go_round
            case rel => exact ⟨k + 1, by omega, by go_num, by rw [HRS.out, HMI.out]⟩
            case measure => simp [intOf]; omega
          · have HMI : Hid (min (j : Int) z = z) := Lib.hid (by omega)
            have hmin' : z < (j : Int) := by omega
            go_wp2
            go_round
            case rel => exact ⟨k + 1, by omega, by go_num, by rw [HRS.out, HMI.out]⟩
            case measure => simp [intOf]; omega
        · obtain rfl : k = m := by omega
          have HRA : Hid (r = roomZ ss (j : Int)) := Lib.hid (by have := HR.out; rw [HM.out, List.take_length] at this; exact this)
          by_cases hgt : r < p
          · have HF : Hid (isB ss zs = false) := Lib.hid (by
              rw [HIS.out, all_range_no (k := j) (by have := HN.out; omega) (by rw [fitZ, ← HP.out, ← HRA.out, decide_eq_false_iff_not]; omega)]
              rfl)
            go_wp2
            go_ret
            exact ⟨by rw [HF.out]; rfl, HB.out⟩
          · have hle : p ≤ r := by omega
            have HE2 : Hid (∀ i, i < j + 1 → fitZ ss D i = true) := Lib.hid (fun i hi => by
              rcases Nat.lt_succ_iff_lt_or_eq.1 hi with h | rfl
              · exact HE.out i h
              · rw [fitZ, ← HP.out, ← HRA.out, decide_eq_true_iff]; exact hle)
            by_cases hjl : j < n
            · have hjl' : (j : Int) < (n : Int) := by omega
              obtain ⟨q, hq⟩ : ∃ q : Nat, j + q + 1 = n := ⟨n - 1 - j, by omega⟩
              have hqi : (n : Int) - 1 - (j : Int) = (q : Int) := by omega
              obtain ⟨g, rfl, -, -⟩ := HO.out.addr (by omega)
              have hc := HO.out.cell (j := q) (by omega)
              rw [HDA.out j q (by rw [← HN.out]; exact hq)] at hc
              obtain ⟨hd0, hd5⟩ := HDZ.out j (by rw [← HN.out]; exact hjl)
              obtain ⟨z, hz⟩ : ∃ z, z = D[j]?.getD 0 := ⟨_, rfl⟩
              rw [← hz] at hc hd0 hd5
              have HPS : Hid (preZ D (j + 1) = p + z) := Lib.hid (by rw [pre_succ D j (by rw [HDl.out, ← HN.out]; exact hjl), ← HP.out, ← hz])
              clear hz
              go_wp2_with (simp only [hqi])
              go_round
              case rel => exact ⟨j + 1, by omega, by go_num, by rw [HPS.out], HE2.out⟩
              case measure => simp [intOf]; omega
            · obtain rfl : j = n := by omega
              have HPS : Hid (preZ D (j + 1) = p) := Lib.hid (by
                rw [HP.out, pre_all D j (by rw [HDl.out, ← HN.out]; exact Nat.le_refl _), pre_all D (j + 1) (by rw [HDl.out, ← HN.out]; omega)])
              go_wp2
              go_round
              case rel => exact ⟨j + 1, by omega, by go_num, by rw [HPS.out], HE2.out⟩
              case measure => simp [intOf]
    · obtain rfl : j = n + 1 := by omega
      have HPA : Hid (p = preZ D n) := Lib.hid (by
        rw [HP.out, pre_all D (n + 1) (by rw [HDl.out, ← HN.out]; omega), pre_all D n (by rw [HDl.out, ← HN.out]; exact Nat.le_refl _)])
      have HAL : Hid ((List.range (zs.length + 1)).all (fitZ ss D) = true) := Lib.hid (all_range (by rw [← HN.out]; exact HE.out))
      go_wp2
      go_loop [10, 11] (fun r i => ∃ k : Nat, k ≤ m ∧ i = .int .i64 (k : Int) ∧ r = .int .i64 ((ss.take k).sum)) (fun _ i => m - (intOf i).toNat)
      case atStart => exact ⟨0, Nat.zero_le _, rfl, by simp⟩
      case round =>
        obtain ⟨k, hk, rfl, rfl⟩ := hrel
        obtain ⟨hr0, hr25⟩ := HSB.out k
        obtain ⟨r, hr⟩ : ∃ r, r = (ss.take k).sum := ⟨_, rfl⟩
        have HR := Lib.hid hr
        rw [← hr] at hr0 hr25 ⊢
        clear hr
        by_cases hkm : k < m
        · have hks : k < ss.length := by have := HM.out; omega
          have hkm' : (k : Int) < (m : Int) := by omega
          obtain ⟨b1, o1, rfl, hb1, hc1⟩ := HI.out.at_ hks
          have hc2 := (HB.out.cell (p := ⟨b1, o1 + k, none⟩) hb1).trans hc1
          have hz5 := HSZ.out ss[k] (List.getElem_mem hks)
          obtain ⟨z, hz⟩ : ∃ z, z = ss[k]?.getD 0 := ⟨_, rfl⟩
          have hz0 : 0 ≤ z := by rw [hz]; simp [hks]; exact hz5.1
          have hz6 : z ≤ 5 := by rw [hz]; simp [hks]; exact hz5.2
          rw [← hz] at hc2
          have HRS : Hid ((ss.take (k + 1)).sum = r + z) := Lib.hid (by rw [sum_take _ _ hks, ← HR.out, ← hz])
          clear hc1 hz hz5
          go_wp2
          go_round
          case rel => exact ⟨k + 1, by omega, by go_num, by rw [HRS.out]⟩
          case measure => simp [intOf]; omega
        · obtain rfl : k = m := by omega
          have HRA : Hid (r = ss.sum) := Lib.hid (by have := HR.out; rw [HM.out, List.take_length] at this; exact this)
          by_cases heq : p = r
          · have HF : Hid (isB ss zs = true) := Lib.hid (by
              rw [HIS.out, HAL.out, ← HN.out, ← HPA.out, ← HRA.out, heq]; simp)
            subst heq
            go_wp2
            go_ret
            exact ⟨by rw [HF.out]; rfl, HB.out⟩
          · have HF : Hid (isB ss zs = false) := Lib.hid (by
              rw [HIS.out, HAL.out, ← HN.out, ← HPA.out, ← HRA.out, decide_eq_false heq]; rfl)
            have hbe : (p == r) = false := by simp [heq]
            go_wp2
            go_ret
            exact ⟨by rw [HF.out]; first | rfl | simp [heq], HB.out⟩

theorem specIs_any (a b : Option Addr) (c d : Nat) (ss zs : List Int) (w : World) (ha : Ints w w.heap.size a ss) (hb : Ints w w.heap.size b zs) (hx : ss.length ≤ 1048576) (hy : zs.length ≤ 1048576) :
    Calls Try.prog 5 #[.slice a ss.length c, .slice b zs.length d] w fun e w' => e = .returned (.bool (tabIs ss zs)) ∧ Below w.heap.size w w' := by
  unfold tabIs
  cases h : tabIn ss zs
  · exact specIs_no a b c d ss zs w ha hb hx hy h
  · rw [Bool.true_and]
    exact specIs_yes a b c d ss zs w ha hb hx hy h

end Go.Proofs.Ytbiggilheicfjaa
