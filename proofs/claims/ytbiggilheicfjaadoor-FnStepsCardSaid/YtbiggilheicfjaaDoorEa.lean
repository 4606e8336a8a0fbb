/- It is proved what the checks of sizes and of degrees return, of both sides; conditions: those of each statement. -/
import Derived.Test.YtbiggilheicfjaaDoorRows
import Derived.WalkKit
import Derived.WalkSpells
import Derived.ProofKit
import Derived.OpenShut
import Derived.ShutString
import Derived.ChangeOld
import Derived.Below
import Derived.Deep.RegionHeld3
import Derived.Deep.QuietTactic
import Derived.BigQuiet
import Derived.Lib.Hide
import Derived.Lib.SmallJoins
import Derived.Outline
import Derived.Laws.MakeOwn
import Derived.Laws.OwnMore
import Derived.IntWalk
import Derived.Test.YtbiggilheicfjaaDoorMua
namespace Go.Proofs.YtbiggilheicfjaaDoor
open Go.RowKit

/-- A number is one from 0 to 5. -/
def fiveB (z : Int) : Bool := inB z 0 5

def numIn (zs : List Int) : Bool := decide (zs.length ≤ 5) && zs.all fiveB
def degIn (zs : List Int) : Bool := decide (0 < zs.length) && numIn zs
def tabIn (ss zs : List Int) : Bool := numIn ss && degIn zs
theorem numIn_out {zs : List Int} (h : numIn zs = true) : zs.length ≤ 5 ∧ ∀ z ∈ zs, 0 ≤ z ∧ z ≤ 5 := by
  simp only [numIn, Bool.and_eq_true, decide_eq_true_eq, List.all_eq_true] at h
  exact ⟨h.1, fun z hz => inB_out (h.2 z hz)⟩

theorem degIn_out {zs : List Int} (h : degIn zs = true) : 1 ≤ zs.length ∧ zs.length ≤ 5 ∧ ∀ z ∈ zs, 0 ≤ z ∧ z ≤ 5 := by
  simp only [degIn, Bool.and_eq_true, decide_eq_true_eq] at h
  exact ⟨h.1, numIn_out h.2⟩

theorem tabIn_out {ss zs : List Int} (h : tabIn ss zs = true) : numIn ss = true ∧ degIn zs = true := by
  simpa only [tabIn, Bool.and_eq_true] using h

theorem numIn_l {zs : List Int} (h : 5 < zs.length) : numIn zs = false := by simp [numIn]; intros; omega
theorem all_no {zs : List Int} {k : Nat} (hk : k < zs.length) (h : fiveB (zs[k]?.getD 0) = false) : zs.all fiveB = false := by
  rw [List.all_eq_false]
  refine ⟨zs[k], List.getElem_mem _, ?_⟩
  simp [hk] at h
  simp [h]

theorem all_yes {zs : List Int} (h : ∀ k, k < zs.length → fiveB (zs[k]?.getD 0) = true) : zs.all fiveB = true := by
  rw [List.all_eq_true]
  intro z hz
  obtain ⟨k, hk, rfl⟩ := List.getElem_of_mem hz
  have := h k hk
  simpa [hk] using this

theorem numIn_z {zs : List Int} (h : zs.all fiveB = false) : numIn zs = false := by simp [numIn, h]
theorem numIn_y {zs : List Int} (hl : zs.length ≤ 5) (h : zs.all fiveB = true) : numIn zs = true := by simp [numIn, h, hl]
theorem outside_any (x : Int) (w : World) :
    Calls Tryd.prog 91 #[.int .i64 x] w fun e w' => e = .returned (.bool (!fiveB x)) ∧ w = w' := by
  by_cases h1 : x < 0
  · rw [show fiveB x = false from inB_false (.inl h1)]
    go_enter Tryd.func91, Tryd.ntmps91
    go_wp2
    go_ret
    exact ⟨rfl, rfl⟩
  · by_cases h2 : 5 < x
    · rw [show fiveB x = false from inB_false (.inr h2)]
      go_enter Tryd.func91, Tryd.ntmps91
      go_wp2
      go_ret
      exact ⟨rfl, rfl⟩
    · rw [show fiveB x = true from inB_true (by omega) (by omega)]
      go_enter Tryd.func91, Tryd.ntmps91
      go_wp2
      go_ret
      exact ⟨rfl, rfl⟩

set_option maxRecDepth 100000 in
set_option maxHeartbeats 1600000 in
theorem indexOut_any (a : Option Addr) (c : Nat) (zs : List Int) (w : World) (ha : Ints w w.heap.size a zs) (hx : zs.length ≤ 1048576) :
    Calls Tryd.prog 116 #[.slice a zs.length c, .func (.func 91) #[] #[]] w fun e w' =>
      ∃ r : Int, e = .returned (.int .i64 r) ∧ decide (0 ≤ r) = !(zs.all fiveB) ∧ w = w' := by
  obtain ⟨n, hn⟩ : ∃ n, n = zs.length := ⟨_, rfl⟩
  have HN : Hid (n = zs.length) := Lib.hid hn
  have HI := Lib.hid ha
  rw [← hn]
  rw [← hn] at hx
  clear hn ha
  go_enter Tryd.func116, Tryd.ntmps116
  go_wp2
  go_loop [5, 8] (fun _ i => ∃ k : Nat, k ≤ n ∧ i = .int .i64 k ∧ (∀ j, j < k → fiveB (zs[j]?.getD 0) = true)) (fun _ i => n - (intOf i).toNat)
  case atStart => exact ⟨0, Nat.zero_le _, rfl, fun j hj => by omega⟩
  case round =>
    obtain ⟨k, hk, rfl, he⟩ := hrel
    have HE := Lib.hid he
    by_cases hlt : k < n
    · have hki : (k : Int) < (n : Int) := by omega
      obtain ⟨b1, o1, rfl, hb1, hc⟩ := HI.out.at_ (k := k) (by rw [← HN.out]; exact hlt)
      clear he
      cases hf : fiveB (zs[k]?.getD 0)
      · have HF := Lib.hid hf
        clear hf
        go_wp2_with (go_at_call 91; refine (outside_any _ _).mono ?_; rintro e w3 ⟨rfl, rfl⟩; rw [HF.out])
        go_ret
        exact ⟨_, rfl, by rw [all_no (k := k) (by rw [← HN.out]; exact hlt) HF.out]; simp, rfl⟩
      · have HF := Lib.hid hf
        clear hf
        go_wp2_with (go_at_call 91; refine (outside_any _ _).mono ?_; rintro e w3 ⟨rfl, rfl⟩; rw [HF.out])
        go_round
        case rel => exact ⟨k + 1, by omega, by go_num, fun j hj => by
          rcases Nat.lt_succ_iff_lt_or_eq.1 hj with h | rfl
          · exact HE.out j h
          · exact HF.out⟩
        case measure => simp [intOf]; omega
    · obtain rfl : k = n := by omega
      clear he
      go_wp2
      go_ret
      exact ⟨_, rfl, by rw [all_yes (by rw [← HN.out]; exact HE.out)]; decide, rfl⟩

set_option maxRecDepth 100000 in
set_option maxHeartbeats 1600000 in
theorem containsOut_any (a : Option Addr) (c : Nat) (zs : List Int) (w : World) (ha : Ints w w.heap.size a zs) (hx : zs.length ≤ 1048576) :
    Calls Tryd.prog 90 #[.slice a zs.length c, .func (.func 91) #[] #[]] w fun e w' =>
      e = .returned (.bool (!(zs.all fiveB))) ∧ w = w' := by
  go_enter Tryd.func90, Tryd.ntmps90
  go_wp2_with fail
  refine (indexOut_any a c zs w ha hx).mono ?_
  rintro e w1 ⟨r, rfl, hr, rfl⟩
  have HR := Lib.hid hr
  clear hr
  by_cases h : 0 ≤ r
  · go_wp2
    go_ret
    exact ⟨by rw [← HR.out, decide_eq_true h]; rfl, rfl⟩
  · have h' : r < 0 := by omega
    go_wp2
    go_ret
    exact ⟨by rw [← HR.out]; rfl, rfl⟩

set_option maxRecDepth 100000 in
set_option maxHeartbeats 1600000 in
theorem numbersIn_any (a : Option Addr) (c : Nat) (zs : List Int) (w : World) (ha : Ints w w.heap.size a zs) (hx : zs.length ≤ 1048576) :
    Calls Tryd.prog 50 #[.slice a zs.length c] w fun e w' => e = .returned (.bool (numIn zs)) ∧ w = w' := by
  by_cases h : zs.length ≤ 5
  · have H := containsOut_any a c zs w ha hx
    rw [show numIn zs = zs.all fiveB from by simp [numIn, h]]
    cases hf : zs.all fiveB
    all_goals
      rw [hf] at H
      clear hf
      go_enter Tryd.func50, Tryd.ntmps50
      go_wp2_with fail
      refine H.mono ?_
      rintro e w1 ⟨rfl, rfl⟩
      go_wp2
      go_ret
      exact ⟨rfl, rfl⟩
  · rw [numIn_l (by omega)]
    go_enter Tryd.func50, Tryd.ntmps50
    go_wp2
    go_ret
    exact ⟨rfl, rfl⟩

theorem degreesIn_any (a : Option Addr) (c : Nat) (zs : List Int) (w : World) (ha : Ints w w.heap.size a zs) (hx : zs.length ≤ 1048576) :
    Calls Tryd.prog 51 #[.slice a zs.length c] w fun e w' => e = .returned (.bool (degIn zs)) ∧ w = w' := by
  by_cases h : 0 < zs.length
  · have H := numbersIn_any a c zs w ha hx
    rw [show degIn zs = numIn zs from by simp [degIn, h]]
    cases hf : numIn zs
    all_goals
      rw [hf] at H
      clear hf
      go_enter Tryd.func51, Tryd.ntmps51
      go_wp2_with fail
      refine H.mono ?_
      rintro e w1 ⟨rfl, rfl⟩
      go_wp2
      go_ret
      exact ⟨rfl, rfl⟩
  · have h0 : zs.length = 0 := by omega
    rw [show degIn zs = false from by simp [degIn, h0], h0]
    go_enter Tryd.func51, Tryd.ntmps51
    go_wp2
    go_ret
    exact ⟨rfl, rfl⟩

set_option maxRecDepth 100000 in
set_option maxHeartbeats 1600000 in
theorem given_any (a b : Option Addr) (c d : Nat) (ss zs : List Int) (w : World) (ha : Ints w w.heap.size a ss) (hb : Ints w w.heap.size b zs) (hx : ss.length ≤ 1048576) (hy : zs.length ≤ 1048576) :
    Calls Tryd.prog 56 #[.slice a ss.length c, .slice b zs.length d] w fun e w' => e = .returned (.bool (tabIn ss zs)) ∧ w = w' := by
  obtain ⟨n, hn⟩ : ∃ n, n = ss.length := ⟨_, rfl⟩
  obtain ⟨m, hm⟩ : ∃ m, m = zs.length := ⟨_, rfl⟩
  have HN : Hid (n = ss.length) := Lib.hid hn
  have HM : Hid (m = zs.length) := Lib.hid hm
  have HI := Lib.hid ha
  have HJ := Lib.hid hb
  rw [← hn, ← hm]
  rw [← hn] at hx
  rw [← hm] at hy
  clear hn hm ha hb
  go_enter Tryd.func56, Tryd.ntmps56
  go_wp2
  go_loop [5] (fun i => ∃ k : Nat, k ≤ n ∧ i = .int .i64 k ∧ (∀ j, j < k → fiveB (ss[j]?.getD 0) = true)) (fun i => n - (intOf i).toNat)
  case atStart => exact ⟨0, Nat.zero_le _, rfl, fun j hj => by omega⟩
  case round =>
    obtain ⟨k, hk, rfl, he⟩ := hrel
    have HE := Lib.hid he
    clear he
    by_cases hlt : k < n
    · have hki : (k : Int) < (n : Int) := by omega
      obtain ⟨b1, o1, rfl, hb1, hc⟩ := HI.out.at_ (k := k) (by rw [← HN.out]; exact hlt)
      cases hf : fiveB (ss[k]?.getD 0)
      · have HF := Lib.hid hf
        have HR : Hid (tabIn ss zs = false) := Lib.hid (by rw [tabIn, numIn_z (all_no (k := k) (by rw [← HN.out]; exact hlt) hf)]; rfl)
        clear hf
        go_wp2_with (go_at_call 94; refine (l6In_any _ _ _ _).mono ?_; rintro e w3 ⟨rfl, rfl⟩; rw [show inB (ss[k]?.getD 0) 0 5 = false from HF.out])
        go_ret
        exact ⟨by rw [HR.out]; rfl, rfl⟩
      · have HF := Lib.hid hf
        clear hf
        go_wp2_with (go_at_call 94; refine (l6In_any _ _ _ _).mono ?_; rintro e w3 ⟨rfl, rfl⟩; rw [show inB (ss[k]?.getD 0) 0 5 = true from HF.out])
        go_round
        case rel => exact ⟨k + 1, by omega, by go_num, fun j hj => by
          rcases Nat.lt_succ_iff_lt_or_eq.1 hj with h | rfl
          · exact HE.out j h
          · exact HF.out⟩
        case measure => simp [intOf]; omega
    · obtain rfl : k = n := by omega
      have HA : Hid (ss.all fiveB = true) := Lib.hid (all_yes (by rw [← HN.out]; exact HE.out))
      clear HE
      go_wp2
      go_loop [6] (fun i => ∃ v : Nat, v ≤ m ∧ i = .int .i64 v ∧ (∀ j, j < v → fiveB (zs[j]?.getD 0) = true)) (fun i => m - (intOf i).toNat)
      case atStart => exact ⟨0, Nat.zero_le _, rfl, fun j hj => by omega⟩
      case round =>
        obtain ⟨v, hv, rfl, he⟩ := hrel
        have HE := Lib.hid he
        clear he
        by_cases hlv : v < m
        · have hki : (v : Int) < (m : Int) := by omega
          obtain ⟨b1, o1, rfl, hb1, hc⟩ := HJ.out.at_ (k := v) (by rw [← HM.out]; exact hlv)
          cases hf : fiveB (zs[v]?.getD 0)
          · have HF := Lib.hid hf
            have HR : Hid (tabIn ss zs = false) := Lib.hid (by rw [tabIn, degIn, numIn_z (all_no (k := v) (by rw [← HM.out]; exact hlv) hf)]; simp)
            clear hf
            go_wp2_with (go_at_call 94; refine (l6In_any _ _ _ _).mono ?_; rintro e w3 ⟨rfl, rfl⟩; rw [show inB (zs[v]?.getD 0) 0 5 = false from HF.out])
            go_ret
            exact ⟨by rw [HR.out]; rfl, rfl⟩
          · have HF := Lib.hid hf
            clear hf
            go_wp2_with (go_at_call 94; refine (l6In_any _ _ _ _).mono ?_; rintro e w3 ⟨rfl, rfl⟩; rw [show inB (zs[v]?.getD 0) 0 5 = true from HF.out])
            go_round
            case rel => exact ⟨v + 1, by omega, by go_num, fun j hj => by
              rcases Nat.lt_succ_iff_lt_or_eq.1 hj with h | rfl
              · exact HE.out j h
              · exact HF.out⟩
            case measure => simp [intOf]; omega
        · obtain rfl : v = m := by omega
          have HB : Hid (zs.all fiveB = true) := Lib.hid (all_yes (by rw [← HM.out]; exact HE.out))
          clear HE
          by_cases h5 : k ≤ 5
          · have HR : Hid (tabIn ss zs = inB (v : Int) 1 5) := Lib.hid (by
              have h1 := HN.out
              have h2 := HM.out
              rw [tabIn, degIn, numIn, numIn, HA.out, HB.out, inB, ← h1, ← h2, Bool.eq_iff_iff]
              simp only [Bool.and_eq_true, decide_eq_true_eq, and_true]
              omega)
            cases hq : inB (v : Int) 1 5
            all_goals
              have HQ := Lib.hid hq
              clear hq
              go_wp2_with (go_at_call 94; refine (l6In_any _ _ _ _).mono ?_; rintro e w3 ⟨rfl, rfl⟩; rw [HQ.out])
              go_ret
              exact ⟨by rw [HR.out, HQ.out]; rfl, rfl⟩
          · have HR : Hid (tabIn ss zs = false) := Lib.hid (by
              rw [tabIn, numIn_l (by rw [← HN.out]; omega)]; rfl)
            go_wp2
            go_ret
            exact ⟨by rw [HR.out]; rfl, rfl⟩

end Go.Proofs.YtbiggilheicfjaaDoor
