/- It is proved what l2Before and l2Equal return; conditions: those of each statement. -/
import Derived.Deep.QuietTactic
import Derived.BigQuiet
import Derived.RowKit
import Derived.RangeFuncNested
import Derived.RangeFuncBound
import Derived.RangeFuncCalls
import Derived.RangeFuncLeaves
import Derived.RangeFuncBox
import Derived.RangeFuncWrites
import Derived.Test.YtcmpjegfikdofaaDoorRows
import Derived.WalkKit
import Derived.WalkSpells
import Derived.ProofKit
import Derived.OpenShut
import Derived.ShutString
import Derived.ChangeOld
import Derived.Below
import Derived.Deep.RegionHeld3
import Derived.Lib.Hide
import Derived.Lib.SmallJoins
import Derived.Outline
import Derived.Laws.MakeOwn
import Derived.Laws.OwnMore
import Derived.IntWalk
import Derived.Lib.AppendZeros
import Derived.Maps.AppendAt
import Derived.Deep.AppendLies
import Derived.OwnWalk
import Derived.Shelf.Abstract
import Derived.Shelf.RegionOpen
import Derived.OwnWalkIn
import Derived.TacticsInMore
import Derived.LoopNIn
import Derived.LoopIn
import Derived.Shelf.Spec.TrailingZeros
import Derived.Test.YtcmpjegfikdofaaDoorMraa
import Derived.Test.YtcmpjegfikdofaaDoorMrag
namespace Go.Proofs.YtcmpjegfikdofaaDoor
open Go.RowKit Go.Shelf

/-- A beginning is less than what goes on. -/
def lexB : List Int → List Int → Bool
  | [], [] => false
  | [], _ :: _ => true
  | _ :: _, [] => false
  | x :: xs, y :: ys => if x = y then lexB xs ys else decide (x < y)

theorem lex_drop : ∀ (i : Nat) (xs ys : List Int), i ≤ xs.length → i ≤ ys.length → (∀ j, j < i → xs[j]?.getD 0 = ys[j]?.getD 0) → lexB xs ys = lexB (xs.drop i) (ys.drop i)
  | 0, _, _, _, _, _ => rfl
  | i + 1, [], _, h, _, _ => by simp at h
  | i + 1, _ :: _, [], _, h, _ => by simp at h
  | i + 1, x :: xs, y :: ys, h1, h2, h => by
    have h0 := h 0 (by omega)
    simp at h0
    subst h0
    rw [lexB, if_pos rfl, List.drop_succ_cons, List.drop_succ_cons]
    exact lex_drop i xs ys (by simpa using h1) (by simpa using h2) (fun j hj => by simpa using h (j + 1) (by omega))

theorem lex_ne {i : Nat} {xs ys : List Int} (h1 : i < xs.length) (h2 : i < ys.length) (h : ∀ j, j < i → xs[j]?.getD 0 = ys[j]?.getD 0) (hn : xs[i]?.getD 0 ≠ ys[i]?.getD 0) : lexB xs ys = decide (xs[i]?.getD 0 < ys[i]?.getD 0) := by
  rw [lex_drop i xs ys (by omega) (by omega) h, List.drop_eq_getElem_cons h1, List.drop_eq_getElem_cons h2, lexB]
  rw [List.getElem?_eq_getElem h1, List.getElem?_eq_getElem h2] at hn ⊢
  simp only [Option.getD_some] at hn ⊢
  rw [if_neg hn]

theorem lex_end {i : Nat} {xs ys : List Int} (h1 : i ≤ xs.length) (h2 : i ≤ ys.length) (h3 : i = xs.length ∨ i = ys.length) (h : ∀ j, j < i → xs[j]?.getD 0 = ys[j]?.getD 0) : lexB xs ys = decide (xs.length < ys.length) := by
  rw [lex_drop i xs ys h1 h2 h]
  rcases h3 with rfl | rfl
  · rw [List.drop_length]
    by_cases h4 : xs.length < ys.length
    · rw [List.drop_eq_getElem_cons h4, lexB]; simp [h4]
    · rw [List.drop_of_length_le (by omega), lexB]; simp [h4]
  · rw [List.drop_length]
    by_cases h4 : ys.length < xs.length
    · rw [List.drop_eq_getElem_cons h4, lexB]; simp; omega
    · rw [List.drop_of_length_le (by omega), lexB]; simp; omega

theorem lex_both : ∀ xs ys : List Int, (!lexB xs ys && !lexB ys xs) = decide (xs = ys)
  | [], [] => by simp [lexB]
  | [], _ :: _ => by simp [lexB]
  | _ :: _, [] => by simp [lexB]
  | x :: xs, y :: ys => by
    by_cases h : x = y
    · subst h
      rw [lexB, lexB, if_pos rfl, if_pos rfl, lex_both xs ys]
      simp
    · rw [lexB, lexB, if_neg h, if_neg (fun e => h e.symm)]
      by_cases h2 : x < y
      · simp [h, h2]
      · have : y < x := by omega
        simp [h, this]

set_option maxRecDepth 100000 in
set_option maxHeartbeats 4000000 in
theorem before_any (a b : Option Addr) (c d : Nat) (xs ys : List Int) (w : World) (ha : Ints w w.heap.size a xs) (hb : Ints w w.heap.size b ys) (hx : xs.length ≤ 1048576) (hy : ys.length ≤ 1048576) :
    Calls Tryd.prog 89 #[.slice a xs.length c, .slice b ys.length d] w fun e w' => e = .returned (.bool (lexB xs ys)) ∧ Below w.heap.size w w' := by
  obtain ⟨n, hn⟩ : ∃ n, n = xs.length := ⟨_, rfl⟩
  obtain ⟨m, hm⟩ : ∃ m, m = ys.length := ⟨_, rfl⟩
  have HN := Lib.hid hn
  have HM := Lib.hid hm
  rw [← hn, ← hm]
  rw [← hn] at hx
  rw [← hm] at hy
  have HA := Lib.hid ha
  have HB := Lib.hid hb
  clear ha hb hn hm
  go_enter Tryd.func89, Tryd.ntmps89
  go_wp2
  go_loopw [5] (fun i wr => ∃ k : Nat, k ≤ n ∧ k ≤ m ∧ i = .int .i64 (k : Int) ∧ (∀ j, j < k → xs[j]?.getD 0 = ys[j]?.getD 0) ∧ Below w.heap.size w wr) (fun i _ => n - (intOf i).toNat)
  case atStart => exact ⟨0, Nat.zero_le _, Nat.zero_le _, rfl, fun j h => by omega, Below.refl _ _⟩
  case round =>
    obtain ⟨k, hk1, hk2, rfl, he, hB⟩ := hrel
    by_cases h1 : k < n
    · by_cases h2 : k < m
      · obtain ⟨b1, o1, rfl, hb1, hc1⟩ := HA.out.at_ (k := k) (by rw [← HN.out]; exact h1)
        obtain ⟨b2, o2, rfl, hb2, hc2⟩ := HB.out.at_ (k := k) (by rw [← HM.out]; exact h2)
        have c1 := (hB.cell (p := ⟨b1, o1 + k, none⟩) hb1).trans hc1
        have c2 := (hB.cell (p := ⟨b2, o2 + k, none⟩) hb2).trans hc2
        obtain ⟨x, hxe⟩ : ∃ x, x = xs[k]?.getD 0 := ⟨_, rfl⟩
        obtain ⟨y, hye⟩ : ∃ y, y = ys[k]?.getD 0 := ⟨_, rfl⟩
        rw [← hxe] at c1
        rw [← hye] at c2
        have hk0 : (0 : Int) ≤ (k : Int) := by omega
        have hk1 : (k : Int) < (n : Int) := by omega
        have hk2 : (k : Int) < (m : Int) := by omega
        have HBW := Lib.hid hB
        by_cases hxy : x = y
        · have HE : Hid (∀ j, j < k + 1 → xs[j]?.getD 0 = ys[j]?.getD 0) := Lib.hid (fun j hj => by
            rcases Nat.lt_succ_iff_lt_or_eq.1 hj with h | rfl
            · exact he j h
            · rw [← hxe, ← hye]; exact hxy)
          clear he hB hc1 hc2 hxe hye
          subst hxy
          go_wp2
          go_quiet (fail)
          go_wp2
          go_roundw
          case rel => exact ⟨k + 1, by omega, by omega, by go_num, HE.out, below_drewN HBW.out _⟩
          case measure => simp [intOf]; omega
        · have HF : Hid (lexB xs ys = decide (x < y)) := Lib.hid (by rw [hxe, hye]; exact lex_ne (by rw [← HN.out]; exact h1) (by rw [← HM.out]; exact h2) he (by rw [← hxe, ← hye]; exact hxy))
          have hne : (x != y) = true := by simp [hxy]
          clear he hB hc1 hc2 hxe hye
          go_wp2
          go_quiet (fail)
          go_wp2
          go_quiet (fail)
          go_wp2
          go_ret
          refine ⟨by rw [HF.out]; rfl, ?_⟩
          first | exact below_drewN (below_drewN HBW.out _) _ | exact below_drewN HBW.out _
      · have HF : Hid (lexB xs ys = decide (n < m)) := Lib.hid (by
          have := HN.out; have := HM.out
          rw [lex_end (i := k) (by omega) (by omega) (by omega) he, ← HN.out, ← HM.out])
        have h2I : ¬ ((k : Int) < (m : Int)) := by omega
        have h1I : (k : Int) < (n : Int) := by omega
        have HBW := Lib.hid hB
        clear he hB
        go_wp2
        go_ret
        exact ⟨by rw [HF.out]; simp, HBW.out⟩
    · have HF : Hid (lexB xs ys = decide (n < m)) := Lib.hid (by
        have := HN.out; have := HM.out
        rw [lex_end (i := k) (by omega) (by omega) (by omega) he, ← HN.out, ← HM.out])
      have h1I : ¬ ((k : Int) < (n : Int)) := by omega
      have HBW := Lib.hid hB
      clear he hB
      go_wp2
      go_ret
      exact ⟨by rw [HF.out]; simp, HBW.out⟩

end Go.Proofs.YtcmpjegfikdofaaDoor
