/- It is proved when a set is even with all clubs, of the program; conditions: those of each statement. -/
import Derived.RowKit
import Derived.Laws.CopyRow
import Derived.Lib.SlBuf
import Derived.Deep.QuietTactic
import Derived.RangeFuncNested
import Derived.RangeFuncBound
import Derived.RangeFuncCalls
import Derived.RangeFuncLeaves
import Derived.RangeFuncBox
import Derived.RangeFuncWrites
import Derived.StillTailTactics
import Derived.Maps.OwnIn
import Derived.Maps.Ext
import Derived.DeepKeys4
import Derived.MapKept
import Derived.Test.YtlfbpaphjkbcmaaRows
import Derived.WalkKit
import Derived.WalkSpells
import Derived.ProofKit
import Derived.OpenShut
import Derived.ShutString
import Derived.ChangeOld
import Derived.Below
import Derived.Deep.RegionHeld3
import Derived.BigQuiet
import Derived.Lib.Hide
import Derived.Lib.SmallJoins
import Derived.Outline
import Derived.Laws.MakeOwn
import Derived.Laws.OwnMore
import Derived.IntWalk
import Derived.Deep.RegionLaw
import Derived.Deep.AppendLies
import Derived.Lib.AppendZeros
import Derived.Maps.AppendAt
import Derived.OwnWalk
import Derived.Lib.SlicesCompact
import Derived.Lib.OwnBridge
import Derived.OrdersIn
import Derived.TacticsIn
import Derived.Shelf.Sort.Plain
import Derived.Shelf.Slices.In.SortNone
import Derived.Shelf.Slices.CompactI
import Derived.Ground.Names2Prog
import Derived.Lib.SliceRun
import Derived.Shelf.Abstract
import Derived.Shelf.RegionOpen
import Derived.OwnWalkIn
import Derived.TacticsInMore
import Derived.LoopNIn
import Derived.LoopIn
import Derived.StillTail
import Derived.StillTactics
import Derived.Shelf.Spec.TrailingZeros
import Derived.Test.YtlfbpaphjkbcmaaB
import Derived.Test.YtlfbpaphjkbcmaaE
import Derived.Test.YtlfbpaphjkbcmaaF
import Derived.Test.YtlfbpaphjkbcmaaFb
import Derived.Test.YtlfbpaphjkbcmaaGa
import Derived.Test.YtlfbpaphjkbcmaaGb
import Derived.Test.YtlfbpaphjkbcmaaH
import Derived.Test.YtlfbpaphjkbcmaaKm
import Derived.Test.YtlfbpaphjkbcmaaPb
import Derived.Test.YtlfbpaphjkbcmaaYc
import Derived.Test.YtlfbpaphjkbcmaaYv
import Derived.Test.YtlfbpaphjkbcmaaZa
import Derived.Test.YtlfbpaphjkbcmaaZc
namespace Go.Proofs.Ytlfbpaphjkbcmaa
open Go.RowKit

def evnZ (z : Int) : Bool := decide (z.toNat % 2 = 0)
def evnB (zs : List Int) : Bool := zs.all evnZ
theorem evn_no {zs : List Int} {k : Nat} (hk : k < zs.length) (h : evnZ (zs[k]?.getD 0) = false) : evnB zs = false := by
  unfold evnB
  rw [List.all_eq_false]
  refine ⟨zs[k], List.getElem_mem hk, ?_⟩
  rw [List.getElem?_eq_getElem hk, Option.getD_some] at h
  simp [h]

theorem evn_yes {zs : List Int} (h : ∀ j, j < zs.length → evnZ (zs[j]?.getD 0) = true) : evnB zs = true := by
  unfold evnB
  rw [List.all_eq_true]
  intro z hz
  obtain ⟨j, hj, rfl⟩ := List.mem_iff_getElem.1 hz
  have := h j hj
  rwa [List.getElem?_eq_getElem hj, Option.getD_some] at this

theorem even1_any (z : Nat) (hz : z < 64) (w : World) :
    Calls Try.prog 50 #[.int .i64 (z : Int)] w fun e w' => e = .returned (.bool (!evnZ (z : Int))) ∧ w = w' := by
  have HE : Hid ((Int.tmod (z : Int) 2 == 1) = !evnZ (z : Int)) := Lib.hid (by
    unfold evnZ
    rw [Int.toNat_natCast, Int.tmod_eq_emod_of_nonneg (by omega)]
    rcases Nat.mod_two_eq_zero_or_one z with h | h
    · rw [h]; rw [show (z : Int) % 2 = 0 by omega]; rfl
    · rw [h]; rw [show (z : Int) % 2 = 1 by omega]; rfl)
  go_enter Try.func50, Try.ntmps50
  go_wp2
  go_ret
  exact ⟨by rw [← HE.out]; rfl, rfl⟩

set_option maxRecDepth 100000 in
set_option maxHeartbeats 2000000 in
theorem indexE_any (b : Option Addr) (c : Nat) (zs : List Int) (hz : ∀ z ∈ zs, 0 ≤ z ∧ z.toNat < 64) (hx8 : zs.length ≤ 1048576) (w : World) (hb : Ints w w.heap.size b zs) :
    Calls Try.prog 58 #[.slice b zs.length c, .func (.func 50) #[] #[]] w fun e w' =>
      ∃ r : Int, e = .returned (.int .i64 r) ∧ decide (0 ≤ r) = !evnB zs ∧ w = w' := by
  obtain ⟨N, hN⟩ : ∃ N, N = zs.length := ⟨_, rfl⟩
  have HN : Hid (N = zs.length) := Lib.hid hN
  have HI := Lib.hid hb
  have HZ := Lib.hid hz
  rw [← hN]
  rw [← hN] at hx8
  clear hN hb hz
  go_enter Try.func58, Try.ntmps58
  go_wp2
  go_loop [5, 8] (fun _ i => ∃ k : Nat, k ≤ N ∧ i = .int .i64 k ∧ Hid (∀ j, j < k → evnZ (zs[j]?.getD 0) = true)) (fun _ i => N - (intOf i).toNat)
  case atStart => exact ⟨0, Nat.zero_le _, rfl, Lib.hid fun j hj => by omega⟩
  case round =>
    obtain ⟨k, hk, rfl, HE⟩ := hrel
    by_cases hlt : k < N
    · have hki : (k : Int) < (N : Int) := by omega
      have hk0 : (0 : Int) ≤ (k : Int) := by omega
      obtain ⟨b1, o1, rfl, hb1, hc⟩ := HI.out.at_ (k := k) (by rw [← HN.out]; exact hlt)
      have hin := at_in (xs := zs) (k := k) (by rw [← HN.out]; exact hlt)
      obtain ⟨z, hzz⟩ : ∃ z : Nat, zs[k]?.getD 0 = (z : Int) := ⟨(zs[k]?.getD 0).toNat, by have := (HZ.out _ hin).1; omega⟩
      have hzn := (HZ.out _ hin).2
      rw [hzz, Int.toNat_natCast] at hzn
      have HC := Lib.hid (fun W => even1_any z hzn W)
      have HZZ := Lib.hid hzz
      rw [hzz] at hc
      clear hzz hin
      cases hf : evnZ (z : Int)
      · have HF := Lib.hid hf
        clear hf
        go_wp2_with (go_at_call 50; refine (HC.out _).mono ?_; rintro e w3 ⟨rfl, rfl⟩; rw [HF.out])
        go_ret
        exact ⟨_, rfl, by rw [evn_no (k := k) (by rw [← HN.out]; exact hlt) (by rw [HZZ.out]; exact HF.out)]; simp, rfl⟩
      · have HF := Lib.hid hf
        clear hf
        go_wp2_with (go_at_call 50; refine (HC.out _).mono ?_; rintro e w3 ⟨rfl, rfl⟩; rw [HF.out])
        go_round
        case rel => exact ⟨k + 1, by omega, by go_num, Lib.hid fun j hj => by
          rcases Nat.lt_succ_iff_lt_or_eq.1 hj with h | rfl
          · exact HE.out j h
          · rw [HZZ.out]; exact HF.out⟩
        case measure => simp [intOf]; omega
    · obtain rfl : k = N := by omega
      go_wp2
      go_ret
      exact ⟨_, rfl, by rw [evn_yes (by rw [← HN.out]; exact HE.out)]; decide, rfl⟩

set_option maxRecDepth 100000 in
theorem containsE_any (b : Option Addr) (c : Nat) (zs : List Int) (hz : ∀ z ∈ zs, 0 ≤ z ∧ z.toNat < 64) (hx8 : zs.length ≤ 1048576) (w : World) (hb : Ints w w.heap.size b zs) :
    Calls Try.prog 49 #[.slice b zs.length c, .func (.func 50) #[] #[]] w fun e w' => e = .returned (.bool (!evnB zs)) ∧ w = w' := by
  have H := Lib.hid (indexE_any b c zs hz hx8 w hb)
  clear hb hz
  go_enter Try.func49, Try.ntmps49
  go_wp2_with fail
  refine H.out.mono ?_
  rintro e w1 ⟨r, rfl, hr, rfl⟩
  have HR := Lib.hid hr
  clear hr
  by_cases h : 0 ≤ r
  · go_wp2
    go_ret
    exact ⟨by rw [← HR.out, decide_eq_true h]; rfl, rfl⟩
  · have h' : r < 0 := by omega
    go_wp2
    go_ret
    exact ⟨by rw [← HR.out]; rfl, rfl⟩

/-- The numbers of members that clubs share with a set. -/
def shrZ (zs : List Int) (s : Int) : List Int := (zs.map fun z => bits .and .i64 z s).map pop

theorem and_63 {zs : List Int} (hz : ∀ z ∈ zs, 0 ≤ z ∧ z.toNat < 64) {s : Nat} (hs : s < 64) : ∀ z ∈ (zs.map fun z => bits .and .i64 z (s : Int)), 0 ≤ z ∧ z ≤ 63 := by
  intro y hy
  obtain ⟨z, hzm, rfl⟩ := List.mem_map.1 hy
  obtain ⟨n, rfl⟩ : ∃ n : Nat, z = (n : Int) := ⟨z.toNat, by have := (hz z hzm).1; omega⟩
  have h := (hz _ hzm).2
  rw [Int.toNat_natCast] at h
  rw [and6_at n s h hs]
  have : n &&& s ≤ n := Nat.and_le_left
  omega

set_option maxRecDepth 100000 in
set_option maxHeartbeats 2000000 in
theorem evenWith_any (m : Int) (a : Option Addr) (c : Nat) (zs : List Int) (s : Nat) (hs : s < 64) (hz : ∀ z ∈ zs, 0 ≤ z ∧ z.toNat < 64) (hx : zs.length ≤ 1048576) (w : World) (ha : Ints w w.heap.size a zs) :
    Calls Try.prog 38 #[.agg #[.int .i64 m, .slice a zs.length c], .int .i64 (s : Int)] w fun e w' => e = .returned (.bool (evnB (shrZ zs (s : Int)))) ∧ Below w.heap.size w w' := by
  have HB0 := Lib.hid (below1 w (.cells #[.int .i64 m, .slice a zs.length c] 28))
  have HON := Lib.hid (only_any m (s : Int) a c zs (w.alloc (.cells #[.int .i64 m, .slice a zs.length c] 28)) ((ha.below HB0.out).mono (by simp)) hx)
  have h63 := and_63 hz hs
  obtain ⟨ys, hys⟩ : ∃ ys, ys = zs.map fun z => bits .and .i64 z (s : Int) := ⟨_, rfl⟩
  have HYL : Hid (ys.length = zs.length) := Lib.hid (by rw [hys, List.length_map])
  have HSH : Hid (shrZ zs (s : Int) = ys.map pop) := Lib.hid (by unfold shrZ; rw [hys])
  rw [← hys] at HON h63
  have HSZ := Lib.hid (fun (b : Option Addr) (d : Nat) (W : World) (hb : Ints W W.heap.size b ys) => sizes_any m b d ys W hb (by rw [HYL.out]; exact hx) h63)
  have HPB : Hid (∀ z ∈ ys.map pop, 0 ≤ z ∧ z.toNat < 64) := Lib.hid (by
    intro y hy
    obtain ⟨z, hzm, rfl⟩ := List.mem_map.1 hy
    obtain ⟨h0, h1⟩ := h63 z hzm
    have := pop_bound (zs := [z]) (by intro x hx; rw [List.mem_singleton.1 hx]; exact ⟨h0, by omega⟩) (pop z) (by simp)
    omega)
  have HCO := Lib.hid (fun (b : Option Addr) (d : Nat) (W : World) (hb : Ints W W.heap.size b (ys.map pop)) => containsE_any b d (ys.map pop) HPB.out (by rw [List.length_map, HYL.out]; exact hx) W hb)
  clear ha hys h63 hz hs
  rw [HSH.out]
  go_enter Try.func38, Try.ntmps38
  go_wp2_with fail
  refine HON.out.mono ?_
  rintro e w1 ⟨a1, c1, rfl, ho1, hb1⟩
  have HI1 := Lib.hid (own_ints ho1)
  have HB1 := Lib.hid (HB0.out.trans (hb1.mono (by simp)))
  clear ho1 hb1 HON
  go_wp2_with fail
  refine (HSZ.out _ _ _ HI1.out).mono ?_
  rintro e w2 ⟨a2, c2, rfl, ho2, hb2⟩
  have HI2 := Lib.hid (own_ints ho2)
  have HB2 := Lib.hid (HB1.out.trans (hb2.mono HB1.out.size))
  clear ho2 hb2 HSZ
  obtain ⟨L, hL⟩ : ∃ L, L = ys.map pop := ⟨_, rfl⟩
  rw [← hL] at HI2 HCO HSH ⊢
  have HLE := Lib.hid hL
  clear hL HPB
  cases hb : evnB L
  all_goals
    have HB := Lib.hid hb
    clear hb
    go_wp2_with fail
    refine (HCO.out _ _ _ HI2.out).mono ?_
    rintro e w3 ⟨rfl, rfl⟩
    rw [HB.out]
    go_wp2
    go_ret
    exact ⟨by rw [← HLE.out, HB.out]; rfl, HB2.out⟩

end Go.Proofs.Ytlfbpaphjkbcmaa
