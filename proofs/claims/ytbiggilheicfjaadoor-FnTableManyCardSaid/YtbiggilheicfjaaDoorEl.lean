/- It is proved what the reference model's l3Count and TableMany return; conditions: those of each statement. -/
import Derived.RowKit
import Derived.Laws.CopyRow
import Derived.Lib.SlBuf
import Derived.Deep.QuietTactic
import Derived.RangeFuncNested
import Derived.RangeFuncBound
import Derived.RangeFuncCalls
import Derived.RangeFuncLeaves
import Derived.RangeFuncBox
import Derived.RangeFuncWrites
import Derived.StillTailTactics
import Derived.Maps.OwnIn
import Derived.Maps.Ext
import Derived.DeepKeys4
import Derived.MapKept
import Derived.Test.YtbiggilheicfjaaDoorRows
import Derived.WalkKit
import Derived.WalkSpells
import Derived.ProofKit
import Derived.OpenShut
import Derived.ShutString
import Derived.ChangeOld
import Derived.Below
import Derived.Deep.RegionHeld3
import Derived.BigQuiet
import Derived.Lib.Hide
import Derived.Lib.SmallJoins
import Derived.Outline
import Derived.Laws.MakeOwn
import Derived.Laws.OwnMore
import Derived.IntWalk
import Derived.Maps.AppendAt
import Derived.Lib.AppendZeros
import Derived.Deep.AppendLies
import Derived.OwnWalk
import Derived.Lib.SlicesCompact
import Derived.Lib.OwnBridge
import Derived.OrdersIn
import Derived.TacticsIn
import Derived.Shelf.Sort.Plain
import Derived.Shelf.Slices.In.SortNone
import Derived.Shelf.Slices.CompactI
import Derived.Ground.Names2Prog
import Derived.Shelf.Abstract
import Derived.Shelf.RegionOpen
import Derived.OwnWalkIn
import Derived.TacticsInMore
import Derived.LoopNIn
import Derived.LoopIn
import Derived.StillTail
import Derived.StillTactics
import Derived.Shelf.Spec.TrailingZeros
import Derived.Test.YtbiggilheicfjaaDoorMva
import Derived.Test.YtbiggilheicfjaaDoorEk
import Derived.Test.YtbiggilheicfjaaDoorZa
namespace Go.Proofs.YtbiggilheicfjaaDoor
open Go.RowKit Go.Shelf

def sumN : List Nat → Nat
  | [] => 0
  | x :: xs => x + sumN xs

theorem sumN_append : ∀ (xs ys : List Nat), sumN (xs ++ ys) = sumN xs + sumN ys
  | [], ys => by simp [sumN]
  | x :: xs, ys => by rw [List.cons_append, sumN, sumN, sumN_append xs ys]; omega

theorem sumN_le (B : Nat) : ∀ (xs : List Nat), (∀ x ∈ xs, x ≤ B) → sumN xs ≤ xs.length * B
  | [], _ => by simp [sumN]
  | x :: xs, h => by
    have h1 := sumN_le B xs (fun y hy => h y (by simp [hy]))
    have h2 := h x (by simp)
    rw [sumN, List.length_cons, Nat.succ_mul]; omega

/-- How many families have some sizes and degrees. -/
def cntL : List Int → List Int → Nat
  | [], left => if left.all (fun x => x == 0) then 1 else 0
  | z :: ss, left => sumN ((List.range (2 ^ left.length)).map fun s => if takeB z left s then cntL ss (takeN left s) else 0)

/-- .. with first clubs below a set. -/
def cntJ (z : Int) (ss left : List Int) (j : Nat) : Nat := sumN ((List.range j).map fun s => if takeB z left s then cntL ss (takeN left s) else 0)

theorem cntJ_succ (z : Int) (ss left : List Int) (j : Nat) : cntJ z ss left (j + 1) = cntJ z ss left j + (if takeB z left j then cntL ss (takeN left j) else 0) := by
  rw [cntJ, List.range_succ, List.map_append, sumN_append]
  simp [cntJ, sumN]

theorem cntL_le : ∀ (ss left : List Int), left.length ≤ 5 → cntL ss left ≤ 32 ^ ss.length
  | [], left, _ => by rw [cntL]; split <;> simp
  | z :: ss, left, hl => by
    rw [cntL]
    refine Nat.le_trans (sumN_le (32 ^ ss.length) _ (fun x hx => ?_)) ?_
    · obtain ⟨s, -, rfl⟩ := List.mem_map.1 hx
      split
      · exact cntL_le ss _ (by rw [takeN_len]; exact hl)
      · exact Nat.zero_le _
    · rw [List.length_map, List.length_range, List.length_cons, Nat.pow_succ, Nat.mul_comm]
      exact Nat.mul_le_mul_left _ (Nat.pow_le_pow_right (by decide) hl)

theorem cntJ_le (z : Int) (ss left : List Int) (hl : left.length ≤ 5) (j : Nat) : cntJ z ss left j ≤ j * 32 ^ ss.length := by
  refine Nat.le_trans (sumN_le (32 ^ ss.length) _ (fun x hx => ?_)) (by rw [List.length_map, List.length_range]; exact Nat.le_refl _)
  obtain ⟨s, -, rfl⟩ := List.mem_map.1 hx
  split
  · exact cntL_le ss _ (by rw [takeN_len]; exact hl)
  · exact Nat.zero_le _

theorem pow32 {k : Nat} (h : k ≤ 5) : 32 ^ k ≤ 33554432 := Nat.pow_le_pow_right (n := 32) (by decide) h
theorem all0 {zs : List Int} {n : Nat} (hn : n = zs.length) (h : ∀ j, j < n → zs[j]?.getD 0 = 0) : zs.all (fun x => x == 0) = true := by
  rw [List.all_eq_true]
  intro x hx
  obtain ⟨v, hv, rfl⟩ := mem_at hx
  simp [h v (by omega)]

theorem all0_no {zs : List Int} {j : Nat} (hj : j < zs.length) (h : zs[j]?.getD 0 ≠ 0) : zs.all (fun x => x == 0) = false := by
  rw [List.all_eq_false]
  exact ⟨_, at_mem hj, by simpa using h⟩

set_option maxRecDepth 100000 in
set_option maxHeartbeats 4000000 in
theorem count_nil (a : Option Addr) (c : Nat) (left : List Int) (b : Option Addr) (d : Nat) (w : World) (hb : Ints w w.heap.size b left) (hl : left.length ≤ 5) :
    Calls Tryd.prog 60 #[.slice a 0 c, .slice b left.length d] w fun e w' => e = .returned (.int .i64 ((cntL [] left : Nat) : Int)) ∧ Below w.heap.size w w' := by
  obtain ⟨n, hn⟩ : ∃ n, n = left.length := ⟨_, rfl⟩
  have HN := Lib.hid hn
  have HI := Lib.hid hb
  have HR : Hid (cntL [] left = if left.all (fun x => x == 0) then 1 else 0) := Lib.hid (by rw [cntL])
  rw [← hn] at hl ⊢
  clear hn hb
  go_enter Tryd.func60, Tryd.ntmps60
  go_wp2
  go_loop [5] (fun i => ∃ j : Nat, j ≤ n ∧ i = .int .i64 (j : Int) ∧ ∀ v, v < j → left[v]?.getD 0 = 0) (fun i => n - (intOf i).toNat)
  case atStart => exact ⟨0, Nat.zero_le _, rfl, fun v hv => by omega⟩
  case round =>
    obtain ⟨j, hj, rfl, hz⟩ := hrel
    have HZ := Lib.hid hz
    clear hz
    by_cases hlt : j < n
    · have hjl : j < left.length := by rw [← HN.out]; exact hlt
      obtain ⟨b1, o1, rfl, hb1, hc1⟩ := HI.out.at_ (k := j) hjl
      obtain ⟨x, hx⟩ : ∃ x, x = left[j]?.getD 0 := ⟨_, rfl⟩
      rw [← hx] at hc1
      have HX := Lib.hid hx
      clear hx
      have hj0 : (0 : Int) ≤ (j : Int) := by omega
      have hj1 : (j : Int) < (n : Int) := by omega
      by_cases h0 : x = 0
      · subst h0
        go_wp2
        go_round
        case rel => exact ⟨j + 1, by omega, by go_num, fun v hv => by
          by_cases e : v < j
          · exact HZ.out v e
          · obtain rfl : v = j := by omega
            exact HX.out.symm⟩
        case measure => simp [intOf]; omega
      · have h0b : (x == 0) = false := by simpa using h0
        have HA : Hid (cntL [] left = 0) := Lib.hid (by rw [HR.out, all0_no hjl (by rw [← HX.out]; exact h0)]; simp)
        clear h0
        go_wp2
        go_ret
        exact ⟨by rw [HA.out]; rfl, Below.refl _ _⟩
    · obtain rfl : j = n := by omega
      have HA : Hid (cntL [] left = 1) := Lib.hid (by rw [HR.out, all0 HN.out HZ.out]; simp)
      go_wp2
      go_ret
      exact ⟨by rw [HA.out]; rfl, Below.refl _ _⟩

set_option maxRecDepth 100000 in
set_option maxHeartbeats 8000000 in
theorem count_cons (z : Int) (ss : List Int) (hss : ss.length ≤ 4)
    (IH : ∀ (a : Option Addr) (c : Nat) (left : List Int) (b : Option Addr) (d : Nat) (w : World), Ints w w.heap.size a ss → ss.length ≤ c → Ints w w.heap.size b left → left.length ≤ 5 → (∀ x ∈ left, 0 ≤ x ∧ x ≤ 5) →
      Calls Tryd.prog 60 #[.slice a ss.length c, .slice b left.length d] w fun e w' => e = .returned (.int .i64 ((cntL ss left : Nat) : Int)) ∧ Below w.heap.size w w')
    (a : Option Addr) (c : Nat) (left : List Int) (b : Option Addr) (d : Nat) (w : World) (ha : Ints w w.heap.size a (z :: ss)) (hc : ss.length + 1 ≤ c) (hb : Ints w w.heap.size b left) (hl : left.length ≤ 5) (hz : ∀ x ∈ left, 0 ≤ x ∧ x ≤ 5) :
    Calls Tryd.prog 60 #[.slice a (ss.length + 1) c, .slice b left.length d] w fun e w' => e = .returned (.int .i64 ((cntL (z :: ss) left : Nat) : Int)) ∧ Below w.heap.size w w' := by
  obtain ⟨n, hn⟩ : ∃ n, n = left.length := ⟨_, rfl⟩
  obtain ⟨k, hk⟩ : ∃ k, k = ss.length := ⟨_, rfl⟩
  obtain ⟨g0, o0, rfl, hg0, hc0⟩ := ha.at_ (k := 0) (by simp)
  have HN := Lib.hid hn
  have HK := Lib.hid hk
  have HA := Lib.hid ha
  have HI := Lib.hid hb
  have HZ := Lib.hid hz
  have HIH := Lib.hid IH
  have HR : Hid (cntL (z :: ss) left = cntJ z ss left (2 ^ n)) := Lib.hid (by rw [cntL, cntJ, hn])
  have HJ : Hid (∀ j, j ≤ 32 → cntJ z ss left j ≤ 1073741824) := Lib.hid (fun j hj => by
    refine Nat.le_trans (cntJ_le z ss left hl j) ?_
    have := pow32 (k := ss.length) (by omega)
    exact Nat.le_trans (Nat.mul_le_mul hj this) (by decide))
  have HCL : Hid (∀ s, cntL ss (takeN left s) ≤ 33554432) := Lib.hid (fun s => Nat.le_trans (cntL_le ss _ (by rw [takeN_len]; exact hl)) (pow32 (by omega)))
  rw [← hk] at hc ⊢
  rw [← hn] at hl ⊢
  have hc0' : w.cell? ⟨g0, o0, none⟩ = some (.int .i64 z) := by simpa using hc0
  obtain ⟨hp1, hp2⟩ := p2_small n (by omega)
  have h2n : 2 ^ n ≤ 32 := Nat.pow_le_pow_right (n := 2) (by decide) hl
  have hpI : ((2 : Int) ^ n) = ((2 ^ n : Nat) : Int) := by push_cast; rfl
  have HPI := Lib.hid hpI
  have hkI : ((k : Int) + 1 == 0) = false := by simp; omega
  clear hn hk ha hb hz IH hc0 hpI
  go_enter Tryd.func60, Tryd.ntmps60
  go_wp2
  go_loopw [6, 7] (fun v i wr => ∃ j : Nat, j ≤ 2 ^ n ∧ i = .int .i64 (j : Int) ∧ v = .int .i64 ((cntJ z ss left j : Nat) : Int) ∧ Below w.heap.size w wr) (fun _ i _ => 2 ^ n - (intOf i).toNat)
  case atStart => exact ⟨0, Nat.zero_le _, rfl, rfl, Below.refl _ _⟩
  case round =>
    obtain ⟨j, hj, rfl, rfl, hbl⟩ := hrel
    have HB := Lib.hid hbl
    clear hbl
    by_cases hlt : j < 2 ^ n
    · have hj1 : (j : Int) < (2 : Int) ^ n := by rw [HPI.out]; omega
      have hj0 : (0 : Int) ≤ (j : Int) := by omega
      have y0 := (HB.out.cell (p := ⟨g0, o0, none⟩) hg0).trans hc0'
      have hTk := take_any z b d left j wr ((HI.out.below HB.out).mono HB.out.size) (by rw [← HN.out]; exact hl) HZ.out (by omega)
      rw [← HN.out] at hTk
      have HTk := Lib.hid hTk
      clear hTk
      go_wp2_with fail
      refine HTk.out.mono ?_
      rintro e w2 ⟨a2, c2, rfl, ho2, hb2⟩
      have HB2 := Lib.hid (HB.out.trans (hb2.mono HB.out.size))
      have HI2 : Hid (Ints w2 w2.heap.size a2 (takeN left j)) := Lib.hid (own_ints ho2)
      have hs1 : wr.heap.size ≤ w2.heap.size := hb2.size
      have HJS := Lib.hid (cntJ_succ z ss left j)
      clear ho2 hb2 y0
      cases ht : takeB z left j
      · have HJ2 : Hid (cntJ z ss left (j + 1) = cntJ z ss left j) := Lib.hid (by rw [HJS.out, ht]; simp)
        clear ht
        go_wp2
        go_roundw
        case rel => exact ⟨j + 1, by omega, by go_num, by rw [HJ2.out], HB2.out⟩
        case measure => simp [intOf]; omega
      · have HJ2 : Hid (cntJ z ss left (j + 1) = cntJ z ss left j + cntL ss (takeN left j)) := Lib.hid (by rw [HJS.out, ht]; simp)
        have HT := Lib.hid ht
        have hx1 := HJ.out j (by omega)
        have hx2 := HCL.out j
        obtain ⟨u, hu⟩ : ∃ u, u = cntJ z ss left j := ⟨_, rfl⟩
        obtain ⟨v, hv⟩ : ∃ v, v = cntL ss (takeN left j) := ⟨_, rfl⟩
        rw [← hu] at hx1 ⊢
        rw [← hv] at hx2
        have HU := Lib.hid hu
        have HV := Lib.hid hv
        have hu0 : (0 : Int) ≤ (u : Int) := by omega
        have hu1 : (u : Int) ≤ 1073741824 := by omega
        have hv0 : (0 : Int) ≤ (v : Int) := by omega
        have hv1 : (v : Int) ≤ 33554432 := by omega
        clear ht hu hv hx1 hx2
        by_cases hc1 : c = 1
        · subst hc1
          have hk0 : k = 0 := by omega
          have hIH : Hid _ := Lib.hid (HIH.out (some ⟨g0, o0, none⟩) 0 (takeN left j) a2 c2 w2 (.inl (List.eq_nil_of_length_eq_zero (by rw [← HK.out]; exact hk0))) (by rw [← HK.out]; omega) HI2.out (by rw [takeN_len, ← HN.out]; exact hl) (takeN_in HZ.out HT.out))
          rw [← HK.out, hk0] at hIH
          clear hk0
          go_wp2_with fail
          refine hIH.out.mono ?_
          rw [← HV.out]
          rintro e w3 ⟨rfl, hb3⟩
          have HB3 := Lib.hid (HB2.out.trans (hb3.mono HB2.out.size))
          clear hb3
          go_wp2
          go_roundw
          case rel => exact ⟨j + 1, by omega, by go_num, by rw [HJ2.out, ← HU.out, ← HV.out]; go_num, HB3.out⟩
          case measure => simp [intOf]; omega
        · have hc2 : 1 < c := by omega
          have hc3 : (1 : Int) < (c : Int) := by omega
          have hc4 : (k : Int) + 1 ≤ (c : Int) := by omega
          have hIH : Hid _ := Lib.hid (HIH.out (some ⟨g0, o0 + 1, none⟩) (c - 1) (takeN left j) a2 c2 w2 (((drop_ints HA.out 1).below HB2.out).mono HB2.out.size) (by rw [← HK.out]; omega) HI2.out (by rw [takeN_len, ← HN.out]; exact hl) (takeN_in HZ.out HT.out))
          rw [← HK.out] at hIH
          go_wp2_with fail
          refine hIH.out.mono ?_
          rw [← HV.out]
          rintro e w3 ⟨rfl, hb3⟩
          have HB3 := Lib.hid (HB2.out.trans (hb3.mono HB2.out.size))
          clear hb3
          go_wp2
          go_roundw
          case rel => exact ⟨j + 1, by omega, by go_num, by rw [HJ2.out, ← HU.out, ← HV.out]; go_num, HB3.out⟩
          case measure => simp [intOf]; omega
    · obtain rfl : j = 2 ^ n := by omega
      have hj1 : ¬ (((2 ^ n : Nat) : Int) < (2 : Int) ^ n) := by rw [HPI.out]; omega
      have HBB := HB.out
      go_wp2
      go_ret
      exact ⟨ret_int (by rw [HR.out]), HBB⟩

theorem count_any : ∀ (ss : List Int), ss.length ≤ 5 → ∀ (a : Option Addr) (c : Nat) (left : List Int) (b : Option Addr) (d : Nat) (w : World), Ints w w.heap.size a ss → ss.length ≤ c → Ints w w.heap.size b left → left.length ≤ 5 → (∀ x ∈ left, 0 ≤ x ∧ x ≤ 5) →
      Calls Tryd.prog 60 #[.slice a ss.length c, .slice b left.length d] w fun e w' => e = .returned (.int .i64 ((cntL ss left : Nat) : Int)) ∧ Below w.heap.size w w'
  | [], _, a, c, left, b, d, w, _, _, hb, hl, _ => count_nil a c left b d w hb hl
  | z :: ss, h5, a, c, left, b, d, w, ha, hc, hb, hl, hz => by
    have h := count_cons z ss (by simp at h5; omega) (fun a c left b d w => count_any ss (by simp at h5; omega) a c left b d w) a c left b d w ha (by simpa using hc) hb hl hz
    rwa [← List.length_cons (a := z)] at h

end Go.Proofs.YtbiggilheicfjaaDoor
