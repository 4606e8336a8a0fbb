/- It is proved what cmp.Compare and slices.Compare return for ints; conditions: those of each statement. -/
import Derived.RowKit
import Derived.RangeFuncNested
import Derived.RangeFuncBound
import Derived.RangeFuncCalls
import Derived.RangeFuncLeaves
import Derived.RangeFuncBox
import Derived.RangeFuncWrites
import Derived.Test.YtjclfpcnfmpjdaaDoorRows
import Derived.WalkKit
import Derived.WalkSpells
import Derived.ProofKit
import Derived.OpenShut
import Derived.ShutString
import Derived.ChangeOld
import Derived.Below
import Derived.Deep.RegionHeld3
import Derived.Deep.QuietTactic
import Derived.BigQuiet
import Derived.Lib.Hide
import Derived.Lib.SmallJoins
import Derived.Outline
import Derived.Laws.MakeOwn
import Derived.Laws.OwnMore
import Derived.IntWalk
import Derived.Lib.AppendZeros
import Derived.Maps.AppendAt
import Derived.Deep.AppendLies
import Derived.OwnWalk
import Derived.Shelf.Abstract
import Derived.Shelf.RegionOpen
import Derived.OwnWalkIn
import Derived.TacticsInMore
import Derived.LoopNIn
import Derived.LoopIn
import Derived.Shelf.Spec.TrailingZeros
import Derived.Test.YtjclfpcnfmpjdaaDoorMra
import Derived.Test.YtjclfpcnfmpjdaaDoorMrb
namespace Go.Proofs.YtjclfpcnfmpjdaaDoor
open Go.RowKit Go.Shelf

def cmpI (x y : Int) : Int := if x < y then -1 else if y < x then 1 else 0
def cmpZ (xs ys : List Int) : Int := if lexB xs ys then -1 else if lexB ys xs then 1 else 0
theorem cmpZ_ne {i : Nat} {xs ys : List Int} (h1 : i < xs.length) (h2 : i < ys.length) (h : ∀ j, j < i → xs[j]?.getD 0 = ys[j]?.getD 0) (hn : xs[i]?.getD 0 ≠ ys[i]?.getD 0) : cmpZ xs ys = cmpI (xs[i]?.getD 0) (ys[i]?.getD 0) := by
  unfold cmpZ cmpI
  rw [lex_ne h1 h2 h hn, lex_ne h2 h1 (fun j hj => (h j hj).symm) (fun e => hn e.symm)]
  simp

theorem lexB_self : ∀ xs : List Int, lexB xs xs = false
  | [] => rfl
  | x :: xs => by rw [lexB, if_pos rfl]; exact lexB_self xs

theorem cmpZ_self (xs : List Int) : cmpZ xs xs = 0 := by simp [cmpZ, lexB_self]
set_option maxRecDepth 100000 in
theorem isNaN_any (x : Int) (w : World) : Calls Tryd.prog 112 #[.int .i64 x] w fun e w' => e = .returned (.bool false) ∧ w = w' := by
  have hx : (x != x) = false := by simp
  go_enter Tryd.func112, Tryd.ntmps112
  go_wp2
  go_ret
  exact ⟨by simp, rfl⟩

set_option maxRecDepth 100000 in
theorem cmpInt_any (x y : Int) (w : World) : Calls Tryd.prog 108 #[.int .i64 x, .int .i64 y] w fun e w' => e = .returned (.int .i64 (cmpI x y)) ∧ w = w' := by
  have h1 := isNaN_any x w
  have h2 := isNaN_any y w
  rcases Int.lt_trichotomy x y with h | h | h
  · go_enter Tryd.func108, Tryd.ntmps108
    go_wp2_with (go_at_call 112; first | (refine h1.mono ?_; rintro e w' ⟨rfl, rfl⟩) | (refine h2.mono ?_; rintro e w' ⟨rfl, rfl⟩))
    go_ret
    exact ⟨by unfold cmpI; rw [if_pos h]; rfl, rfl⟩
  · subst h
    go_enter Tryd.func108, Tryd.ntmps108
    go_wp2_with (go_at_call 112; refine h1.mono ?_; rintro e w' ⟨rfl, rfl⟩)
    go_ret
    exact ⟨by unfold cmpI; rw [if_neg (by omega), if_neg (by omega)]; rfl, rfl⟩
  · have hn : ¬ x < y := by omega
    go_enter Tryd.func108, Tryd.ntmps108
    go_wp2_with (go_at_call 112; first | (refine h1.mono ?_; rintro e w' ⟨rfl, rfl⟩) | (refine h2.mono ?_; rintro e w' ⟨rfl, rfl⟩))
    go_ret
    exact ⟨by unfold cmpI; rw [if_neg (by omega), if_pos h]; rfl, rfl⟩

set_option maxRecDepth 100000 in
set_option maxHeartbeats 4000000 in
theorem compareS_any (a b : Option Addr) (c d n : Nat) (xs ys : List Int) (w : World) (hx : xs.length = n) (hy : ys.length = n) (hn : n ≤ 1048576) (ha : Ints w w.heap.size a xs) (hb : Ints w w.heap.size b ys) :
    Calls Tryd.prog 98 #[.slice a n c, .slice b n d] w fun e w' => e = .returned (.int .i64 (cmpZ xs ys)) ∧ w = w' := by
  have HX := Lib.hid hx
  have HY := Lib.hid hy
  have HA := Lib.hid ha
  have HB := Lib.hid hb
  clear hx hy ha hb
  go_enter Tryd.func98, Tryd.ntmps98
  go_wp2
  go_loop [11] (fun i => ∃ k : Nat, k ≤ n ∧ i = .int .i64 (k : Int) ∧ (∀ j, j < k → xs[j]?.getD 0 = ys[j]?.getD 0)) (fun i => n - (intOf i).toNat)
  case atStart => exact ⟨0, Nat.zero_le _, rfl, fun j h => by omega⟩
  case round =>
    obtain ⟨k, hk, rfl, he⟩ := hrel
    by_cases hlt : k < n
    · obtain ⟨b1, o1, rfl, -, c1⟩ := HA.out.at_ (k := k) (by rw [HX.out]; exact hlt)
      obtain ⟨b2, o2, rfl, -, c2⟩ := HB.out.at_ (k := k) (by rw [HY.out]; exact hlt)
      obtain ⟨x, hxe⟩ : ∃ x, x = xs[k]?.getD 0 := ⟨_, rfl⟩
      obtain ⟨y, hye⟩ : ∃ y, y = ys[k]?.getD 0 := ⟨_, rfl⟩
      rw [← hxe] at c1
      rw [← hye] at c2
      have hk0 : (0 : Int) ≤ (k : Int) := by omega
      have hki : (k : Int) < (n : Int) := by omega
      have hkg : ¬ ((n : Int) ≤ (k : Int)) := by omega
      obtain ⟨z, hz⟩ : ∃ z, z = cmpI x y := ⟨_, rfl⟩
      have hcc := cmpInt_any x y w
      rw [← hz] at hcc
      by_cases hxy : x = y
      · have HE : Hid (∀ j, j < k + 1 → xs[j]?.getD 0 = ys[j]?.getD 0) := Lib.hid (fun j hj => by
          rcases Nat.lt_succ_iff_lt_or_eq.1 hj with h | rfl
          · exact he j h
          · rw [← hxe, ← hye]; exact hxy)
        have hz0 : z = 0 := by rw [hz, hxy]; unfold cmpI; rw [if_neg (by omega), if_neg (by omega)]
        clear he hxe hye hz hxy
        subst hz0
        go_wp2_with (go_at_call 108; refine hcc.mono ?_; rintro e w' ⟨rfl, rfl⟩)
        go_round
        case rel => exact ⟨k + 1, by omega, by go_num, HE.out⟩
        case measure => simp [intOf]; omega
      · have HF : Hid (cmpZ xs ys = z) := Lib.hid (by rw [hz, hxe, hye]; exact cmpZ_ne (by rw [HX.out]; exact hlt) (by rw [HY.out]; exact hlt) he (by rw [← hxe, ← hye]; exact hxy))
        have hz0 : (z != 0) = true := by
          rw [bne_iff_ne, hz]; unfold cmpI
          split
          · decide
          · rw [if_pos (by omega)]; decide
        clear he hxe hye hz hxy
        go_wp2_with (go_at_call 108; refine hcc.mono ?_; rintro e w' ⟨rfl, rfl⟩)
        go_ret
        exact ⟨by rw [HF.out]; rfl, rfl⟩
    · obtain rfl : k = n := by omega
      have HF : Hid (cmpZ xs ys = 0) := Lib.hid (by
        have : xs = ys := List.ext_getElem (by rw [HX.out, HY.out]) (fun j h1 h2 => by
          have := he j (by rw [← HX.out]; exact h1)
          rwa [List.getElem?_eq_getElem h1, List.getElem?_eq_getElem h2] at this)
        rw [this]; exact cmpZ_self ys)
      clear he
      go_wp2
      go_ret
      exact ⟨by rw [HF.out]; rfl, rfl⟩

end Go.Proofs.YtjclfpcnfmpjdaaDoor
