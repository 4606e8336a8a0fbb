/- It is proved what eqFamily and the FamilyIn of the program return; conditions: the bounds in each statement. -/
import Derived.Test.YtgpgocijacgkhaaRows
import Derived.WalkKit
import Derived.WalkSpells
import Derived.ProofKit
import Derived.OpenShut
import Derived.ShutString
import Derived.ChangeOld
import Derived.Below
import Derived.Deep.RegionHeld3
import Derived.Deep.QuietTactic
import Derived.BigQuiet
import Derived.Lib.Hide
import Derived.Lib.SmallJoins
import Derived.Outline
import Derived.Laws.MakeOwn
import Derived.Laws.OwnMore
import Derived.IntWalk
import Derived.Test.YtgpgocijacgkhaaB
import Derived.Test.YtgpgocijacgkhaaD
import Derived.Test.YtgpgocijacgkhaaE
namespace Go.Proofs.Ytgpgocijacgkhaa
open Go.RowKit

def sameF (m : Int) (xs : List Int) (k : Int) (ys : List Int) : Bool := decide (m = k) && sameB xs ys
theorem sameF_self (m : Int) (xs : List Int) : sameF m xs m xs = true := by simp [sameF, sameB]
theorem below2 (w : World) (o o' : Obj) : Below w.heap.size w ((w.alloc o).alloc o') := ((Below.refl _ _).alloc (Nat.le_refl _) o).alloc (by simp) o'
theorem below1 (w : World) (o : Obj) : Below w.heap.size w (w.alloc o) := (Below.refl _ _).alloc (Nat.le_refl _) o
set_option maxRecDepth 100000 in
set_option maxHeartbeats 400000 in
theorem implFamilyIn_any (m : Int) (a : Option Addr) (c : Nat) (zs : List Int) (w : World) (ha : Ints w w.heap.size a zs) (hx : zs.length ≤ 1048576) :
    Calls Try.prog 15 #[.agg #[.int .i64 m, .slice a zs.length c]] w fun e w' => e = .returned (.bool (famIn m zs)) ∧ Below w.heap.size w w' := by
  obtain ⟨n, hn⟩ : ∃ n, n = zs.length := ⟨_, rfl⟩
  have HN : Hid (n = zs.length) := Lib.hid hn
  rw [← hn]
  rw [← hn] at hx
  have HB := Lib.hid (below1 w (.cells #[.int .i64 m, .slice a n c] 25))
  by_cases h1 : 1 ≤ m
  · by_cases h2 : m ≤ 6
    · by_cases h3 : n ≤ 8
      · clear hn
        go_enter Try.func15, Try.ntmps15
        go_wp2
        go_loop [4, 22] (fun s i => ∃ k : Nat, k ≤ n ∧ i = .int .i64 k ∧ (∀ j, j < k → inB (zs[j]?.getD 0) 0 (fullI m) = true)) (fun _ i => n - (intOf i).toNat)
        case atStart => exact ⟨0, Nat.zero_le _, rfl, fun j hj => by omega⟩
        case round =>
          obtain ⟨k, hk, rfl, he⟩ := hrel
          by_cases hlt : k < n
          · obtain ⟨b1, o1, rfl, hb1, hc1⟩ := ha.at_ (k := k) (by rw [← HN.out]; exact hlt)
            have c1 := (HB.out.cell (p := ⟨b1, o1 + k, none⟩) hb1).trans hc1
            have HE := Lib.hid he
            clear he hc1
            cases hs : inB (zs[k]?.getD 0) 0 (fullI m)
            · have HS := Lib.hid hs
              have HF : Hid (famIn m zs = false) := Lib.hid (famIn_z (by rw [← HN.out]; exact hlt) hs)
              clear hs
              go_wp2_with (go_at_call 21; refine (setIn_any _ _ _ h1 h2).mono ?_; rintro e w' ⟨rfl, rfl⟩; rw [HS.out])
              go_ret
              exact ⟨by rw [HF.out]; rfl, HB.out⟩
            · have HS := Lib.hid hs
              clear hs
              go_wp2_with (go_at_call 21; refine (setIn_any _ _ _ h1 h2).mono ?_; rintro e w' ⟨rfl, rfl⟩; rw [HS.out])
              go_round
              case rel => exact ⟨k + 1, by omega, by go_num, fun j hj => by
                rcases Nat.lt_succ_iff_lt_or_eq.1 hj with h | rfl
                · exact HE.out j h
                · exact HS.out⟩
              case measure => simp [intOf]; omega
          · obtain rfl : k = n := by omega
            have HF : Hid (famIn m zs = true) := Lib.hid (famIn_y (inB_true h1 h2) (by rw [← HN.out]; exact h3) (by rw [← HN.out]; exact he))
            clear he
            go_wp2
            go_ret
            exact ⟨by rw [HF.out]; rfl, HB.out⟩
      · have HF : Hid (famIn m zs = false) := Lib.hid (famIn_l (by omega))
        clear hn
        go_enter Try.func15, Try.ntmps15
        go_wp2
        go_ret
        exact ⟨by rw [HF.out]; rfl, HB.out⟩
    · have HF : Hid (famIn m zs = false) := Lib.hid (famIn_m (inB_false (.inr (by omega))))
      clear hn
      go_enter Try.func15, Try.ntmps15
      go_wp2
      go_ret
      exact ⟨by rw [HF.out]; rfl, HB.out⟩
  · have HF : Hid (famIn m zs = false) := Lib.hid (famIn_m (inB_false (.inl (by omega))))
    clear hn
    go_enter Try.func15, Try.ntmps15
    go_wp2
    go_ret
    exact ⟨by rw [HF.out]; rfl, HB.out⟩

end Go.Proofs.Ytgpgocijacgkhaa
