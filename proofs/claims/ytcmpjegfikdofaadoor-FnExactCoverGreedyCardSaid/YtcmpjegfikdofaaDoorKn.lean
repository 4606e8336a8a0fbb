/- It is proved what slices.Equal does with lists of ints; conditions: those of each statement. -/
import Derived.Test.YtcmpjegfikdofaaDoorRows
import Derived.WalkKit
import Derived.WalkSpells
import Derived.ProofKit
import Derived.OpenShut
import Derived.ShutString
import Derived.ChangeOld
import Derived.Below
import Derived.Deep.RegionHeld3
import Derived.Deep.QuietTactic
import Derived.BigQuiet
import Derived.Lib.Hide
import Derived.Lib.SmallJoins
import Derived.Outline
import Derived.Laws.MakeOwn
import Derived.Laws.OwnMore
import Derived.IntWalk
import Derived.Deep.RegionLaw
import Derived.Deep.AppendLies
import Derived.RangeFuncNested
import Derived.RangeFuncBound
import Derived.RangeFuncCalls
import Derived.RangeFuncLeaves
import Derived.RangeFuncBox
import Derived.Shelf.Abstract
import Derived.Shelf.RegionOpen
import Derived.OwnWalkIn
import Derived.TacticsInMore
import Derived.LoopNIn
import Derived.LoopIn
import Derived.Maps.AppendAt
import Derived.OwnWalk
import Derived.Shelf.Spec.TrailingZeros
import Derived.Test.YtcmpjegfikdofaaDoorMraa
import Derived.Test.YtcmpjegfikdofaaDoorMrag
namespace Go.Proofs.YtcmpjegfikdofaaDoor
open Go.RowKit

theorem sameB_iff {xs ys : List Int} : sameB xs ys = true ↔ xs = ys := by
  simp [sameB]

theorem sameB_len {xs ys : List Int} (h : xs.length ≠ ys.length) : sameB xs ys = false := by
  rw [Bool.eq_false_iff]; intro e; rw [sameB_iff] at e; rw [e] at h; exact h rfl

theorem sameB_at {xs ys : List Int} {k : Nat} (h : xs[k]?.getD 0 ≠ ys[k]?.getD 0) : sameB xs ys = false := by
  rw [Bool.eq_false_iff]; intro e; rw [sameB_iff] at e; rw [e] at h; exact h rfl

theorem sameB_all {xs ys : List Int} (hl : xs.length = ys.length) (h : ∀ j, j < xs.length → xs[j]?.getD 0 = ys[j]?.getD 0) : sameB xs ys = true := by
  rw [sameB_iff]
  apply List.ext_getElem hl
  intro i h1 h2
  have := h i h1
  rwa [List.getElem?_eq_getElem h1, List.getElem?_eq_getElem h2] at this

set_option maxRecDepth 100000 in
set_option maxHeartbeats 1600000 in
theorem slEqual_any (a b : Option Addr) (c d : Nat) (xs ys : List Int) (w : World) (ha : Ints w w.heap.size a xs) (hb : Ints w w.heap.size b ys) (hx : xs.length ≤ 1048576) (hy : ys.length ≤ 1048576) :
    Calls Tryd.prog 69 #[.slice a xs.length c, .slice b ys.length d] w fun e w' => e = .returned (.bool (sameB xs ys)) ∧ Below w.heap.size w w' := by
  obtain ⟨n, hn⟩ : ∃ n, n = xs.length := ⟨_, rfl⟩
  obtain ⟨k, hk⟩ : ∃ k, k = ys.length := ⟨_, rfl⟩
  have HN := Lib.hid hn
  have HK := Lib.hid hk
  have HA := Lib.hid ha
  have HBB := Lib.hid hb
  rw [← hn, ← hk]
  rw [← hn] at hx
  rw [← hk] at hy
  clear ha hb hn hk
  by_cases hnk : n = k
  · subst hnk
    go_enter Tryd.func69, Tryd.ntmps69
    go_wp2
    go_loopw [5, 13] (fun _ i wr => ∃ j : Nat, j ≤ n ∧ i = .int .i64 j ∧ (∀ l, l < j → xs[l]?.getD 0 = ys[l]?.getD 0) ∧ Below w.heap.size w wr) (fun _ i _ => n - (intOf i).toNat)
    case atStart => exact ⟨0, Nat.zero_le _, rfl, fun l hl => by omega, Below.refl _ _⟩
    case round =>
      obtain ⟨j, hj, rfl, he, hb⟩ := hrel
      have HE := Lib.hid he
      have HB := Lib.hid hb
      by_cases hlt : j < n
      · obtain ⟨b1, o1, rfl, hb1, hc1⟩ := HA.out.at_ (k := j) (by rw [← HN.out]; exact hlt)
        obtain ⟨b2, o2, rfl, hb2, hc2⟩ := HBB.out.at_ (k := j) (by rw [← HK.out]; exact hlt)
        have e1 := (hb.cell (p := ⟨b1, o1 + j, none⟩) hb1).trans hc1
        have e2 := (hb.cell (p := ⟨b2, o2 + j, none⟩) hb2).trans hc2
        have hjI : (j : Int) < (n : Int) := by omega
        clear he hb hc1 hc2
        by_cases hxy : xs[j]?.getD 0 = ys[j]?.getD 0
        · have HX : Hid (∀ l, l < j + 1 → xs[l]?.getD 0 = ys[l]?.getD 0) := Lib.hid (fun l hl => by
            by_cases e : l = j
            · subst e; exact hxy
            · exact HE.out l (by omega))
          have hne : (xs[j]?.getD 0 != ys[j]?.getD 0) = false := by rw [hxy]; simp
          clear hxy
          go_wp2
          go_quiet (fail)
          go_wp2
          go_roundw
          case rel => exact ⟨j + 1, by omega, by go_num, HX.out, below_drewN HB.out _⟩
          case measure => simp [intOf]; omega
        · have HX : Hid (sameB xs ys = false) := Lib.hid (sameB_at hxy)
          have hne : (xs[j]?.getD 0 != ys[j]?.getD 0) = true := by rw [bne_iff_ne]; exact hxy
          clear hxy
          go_wp2
          go_quiet (fail)
          go_wp2
          go_ret
          exact ⟨by rw [HX.out]; rfl, below_drewN HB.out _⟩
      · obtain rfl : j = n := by omega
        have HX : Hid (sameB xs ys = true) := Lib.hid (sameB_all (by rw [← HN.out, HK.out]) (by rw [← HN.out]; exact he))
        clear he hb
        go_wp2
        go_ret
        exact ⟨by rw [HX.out]; rfl, HB.out⟩
  · have HX : Hid (sameB xs ys = false) := Lib.hid (sameB_len (by rw [← HN.out, ← HK.out]; exact hnk))
    have hne : ((n : Int) != (k : Int)) = true := by rw [bne_iff_ne]; omega
    clear hnk
    go_enter Tryd.func69, Tryd.ntmps69
    go_wp2
    go_ret
    exact ⟨by rw [HX.out]; rfl, Below.refl _ _⟩

end Go.Proofs.YtcmpjegfikdofaaDoor
