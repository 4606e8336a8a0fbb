/- It is proved that the call of the law FnOther returns true; conditions: those of each statement. -/
import Derived.Test.YtkmaebkfmljiiaaDoorRows
import Derived.WalkKit
import Derived.WalkSpells
import Derived.ProofKit
import Derived.OpenShut
import Derived.ShutString
import Derived.ChangeOld
import Derived.Below
import Derived.Deep.RegionHeld3
import Derived.Deep.QuietTactic
import Derived.BigQuiet
import Derived.Lib.Hide
import Derived.Lib.SmallJoins
import Derived.Outline
import Derived.Laws.MakeOwn
import Derived.Laws.OwnMore
import Derived.IntWalk
import Derived.Deep.RegionLaw
import Derived.Deep.AppendLies
import Derived.RangeFuncNested
import Derived.RangeFuncBound
import Derived.RangeFuncCalls
import Derived.RangeFuncLeaves
import Derived.RangeFuncBox
import Derived.Shelf.Abstract
import Derived.Shelf.RegionOpen
import Derived.OwnWalkIn
import Derived.TacticsInMore
import Derived.LoopNIn
import Derived.LoopIn
import Derived.Maps.AppendAt
import Derived.OwnWalk
import Derived.Shelf.Spec.TrailingZeros
import Derived.Test.YtkmaebkfmljiiaaDoorD
import Derived.Test.YtkmaebkfmljiiaaDoorMrbmxFnOthe
import Derived.Test.YtkmaebkfmljiiaaDoorMrbnxFnOthe
import Derived.Test.YtkmaebkfmljiiaaDoorF
import Derived.Test.YtkmaebkfmljiiaaDoorH
import Derived.Test.YtkmaebkfmljiiaaDoorMz
import Derived.Test.YtkmaebkfmljiiaaDoorT
import Derived.Test.YtkmaebkfmljiiaaDoorTO
import Derived.Test.YtkmaebkfmljiiaaDoorMrboxFnOthe
namespace Go.Proofs.YtkmaebkfmljiiaaDoor
open Go.RowKit

theorem whole_any (m : Int) (a : Option Addr) (n cap : Nat) (w : World) (h1 : 1 ≤ m) (h2 : m ≤ 6) :
    Calls Tryd.prog 12 #[.agg #[.int .i64 m, .slice a n cap]] w fun e w' => e = .returned (.int .i64 (fullI m)) ∧ Below w.heap.size w w' := by
  rcases m16 h1 h2 with rfl | rfl | rfl | rfl | rfl | rfl
  all_goals
    go_enter Tryd.func12, Tryd.ntmps12
    go_wp2
    go_ret
    exact ⟨rfl, below1 _ _⟩

set_option maxRecDepth 100000 in
theorem other_other_fin : ∀ k : Fin 6, ∀ z : Fin 64, (z.val : Int) ≤ fullI ((k.val : Int) + 1) → bits .andNot .i64 (fullI ((k.val : Int) + 1)) (bits .andNot .i64 (fullI ((k.val : Int) + 1)) (z.val : Int)) = (z.val : Int) := by decide +kernel

theorem other_other {m z : Int} (h1 : 1 ≤ m) (h2 : m ≤ 6) (h3 : 0 ≤ z) (h4 : z ≤ fullI m) : bits .andNot .i64 (fullI m) (bits .andNot .i64 (fullI m) z) = z := by
  have h5 := fullI_63 h1 h2
  have := other_other_fin ⟨(m - 1).toNat, by omega⟩ ⟨z.toNat, by omega⟩
  simp only [Int.toNat_of_nonneg (show 0 ≤ m - 1 by omega), Int.toNat_of_nonneg h3, show m - 1 + 1 = m by omega] at this
  exact this h4

set_option maxRecDepth 100000 in
theorem orF_fin : ∀ a b : Fin 64, bits .or .i64 (a.val : Int) (b.val : Int) = ((a.val ||| b.val : Nat) : Int) := by decide +kernel

set_option maxRecDepth 100000 in
theorem andF_fin : ∀ a b : Fin 64, bits .and .i64 (a.val : Int) (b.val : Int) = ((a.val &&& b.val : Nat) : Int) := by decide +kernel

set_option maxRecDepth 100000 in
theorem notF_fin : ∀ k : Fin 6, ∀ b : Fin 64, bits .andNot .i64 (fullI ((k.val : Int) + 1)) (b.val : Int) = (((2 ^ (k.val + 1) - 1) ^^^ ((2 ^ (k.val + 1) - 1) &&& b.val) : Nat) : Int) := by decide +kernel

theorem bits_or_nat (a b : Nat) (ha : a < 64) (hb : b < 64) : bits .or .i64 (a : Int) (b : Int) = ((a ||| b : Nat) : Int) := by
  have := orF_fin ⟨a, ha⟩ ⟨b, hb⟩
  simpa using this

theorem bits_and_nat (a b : Nat) (ha : a < 64) (hb : b < 64) : bits .and .i64 (a : Int) (b : Int) = ((a &&& b : Nat) : Int) := by
  have := andF_fin ⟨a, ha⟩ ⟨b, hb⟩
  simpa using this

theorem bits_not_nat (k b : Nat) (hk1 : 1 ≤ k) (hk : k ≤ 6) (hb : b < 64) : bits .andNot .i64 (fullI (k : Int)) (b : Int) = (((2 ^ k - 1) ^^^ ((2 ^ k - 1) &&& b) : Nat) : Int) := by
  have := notF_fin ⟨k - 1, by omega⟩ ⟨b, hb⟩
  simp only [show ((k - 1 : Nat) : Int) + 1 = (k : Int) by omega, show k - 1 + 1 = k by omega] at this
  exact this

theorem pow64 (k : Nat) (hk : k ≤ 6) : 2 ^ k ≤ 64 := Nat.pow_le_pow_right (by decide) hk
theorem demorgan (F s z : Nat) : (F ^^^ (F &&& s)) ||| (F ^^^ (F &&& z)) = F ^^^ (F &&& (s &&& z)) := by
  apply Nat.eq_of_testBit_eq
  intro i
  simp only [Nat.testBit_or, Nat.testBit_xor, Nat.testBit_and]
  cases F.testBit i <;> cases s.testBit i <;> cases z.testBit i <;> rfl

theorem or_other (k : Nat) (hk1 : 1 ≤ k) (hk : k ≤ 6) : ∀ (zs : List Int) (s : Nat), s < 64 → (∀ z ∈ zs, 0 ≤ z ∧ z ≤ fullI (k : Int)) →
    (zs.map fun z => bits .andNot .i64 (fullI (k : Int)) z).foldl (fun s z => bits .or .i64 s z) (bits .andNot .i64 (fullI (k : Int)) (s : Int)) = bits .andNot .i64 (fullI (k : Int)) (zs.foldl (fun s z => bits .and .i64 s z) (s : Int)) := by
  intro zs
  induction zs with
  | nil => intro s _ _; rfl
  | cons z zs ih =>
    intro s hs hz
    have h1 := hz z (by simp)
    have h5 := fullI_63 (m := (k : Int)) (by omega) (by omega)
    obtain ⟨t, rfl⟩ : ∃ t : Nat, z = (t : Int) := ⟨z.toNat, by omega⟩
    have h64 : 2 ^ k ≤ 64 := pow64 k hk
    have hx : ∀ b, (2 ^ k - 1) ^^^ ((2 ^ k - 1) &&& b) < 64 := fun b => Nat.lt_of_lt_of_le (Nat.xor_lt_two_pow (n := k) (by have := Nat.one_le_two_pow (n := k); omega) (Nat.lt_of_le_of_lt Nat.and_le_left (by have := Nat.one_le_two_pow (n := k); omega))) h64
    rw [List.map_cons, List.foldl_cons, List.foldl_cons, bits_not_nat k s hk1 hk hs, bits_not_nat k t hk1 hk (by omega), bits_or_nat _ _ (hx _) (hx _), demorgan, bits_and_nat s t hs (by omega)]
    have hst : s &&& t < 64 := Nat.lt_of_le_of_lt Nat.and_le_left hs
    rw [← bits_not_nat k _ hk1 hk hst]
    exact ih _ hst (fun y hy => hz y (by simp [hy]))

theorem other_facts {m : Int} {zs : List Int} (h : famIn m zs = true) : famIn (otherM m zs) (otherZ m zs) = true ∧ otherM (otherM m zs) (otherZ m zs) = m ∧ otherZ (otherM m zs) (otherZ m zs) = zs ∧ (famAll (otherM m zs) (otherZ m zs) == bits .andNot .i64 (fullI m) (famCommon m zs)) = true := by
  have e1 : otherM m zs = m := by simp [otherM, h]
  have e2 : otherZ m zs = zs.map fun z => bits .andNot .i64 (fullI m) z := by simp [otherZ, h]
  have hf := other_fam h
  obtain ⟨h1, h2, h3, h4⟩ := famIn_out h
  rw [e1, e2]
  refine ⟨hf, by simp [otherM, hf], ?_, ?_⟩
  · rw [otherZ, if_pos hf, List.map_map]
    conv => rhs; rw [← List.map_id zs]
    apply List.map_congr_left
    intro z hz
    exact other_other h1 h2 (h4 z hz).1 (h4 z hz).2
  · rw [famAll, if_pos hf, famCommon, if_pos h, beq_iff_eq]
    obtain ⟨k, rfl⟩ : ∃ k : Nat, m = (k : Int) := ⟨m.toNat, by omega⟩
    have h5 := fullI_63 h1 h2
    have h6 : 0 ≤ fullI (k : Int) := by
      rcases m16 h1 h2 with h | h | h | h | h | h <;> rw [h] <;> decide
    obtain ⟨s, hs⟩ : ∃ s : Nat, fullI (k : Int) = (s : Int) := ⟨(fullI (k : Int)).toNat, by omega⟩
    have := or_other k (by omega) (by omega) zs s (by omega) h4
    have e0 : bits .andNot .i64 (fullI (k : Int)) (s : Int) = 0 := by
      rw [← hs]
      rcases m16 h1 h2 with h | h | h | h | h | h <;> rw [h] <;> decide
    rw [e0, ← hs] at this
    exact this

set_option maxRecDepth 100000 in
set_option maxHeartbeats 8000000 in
theorem walkFnOther (a : Option Addr) (n cap : Nat) (w : World) (hb : Bys w w.heap.size a n) (hT : Tab w) (hn : n ≤ 1048576) (hc : n ≤ cap) (hc2 : cap ≤ 9223372036854775807) :
    Calls Tryd.prog 3 #[.slice a n cap] w fun e w' => e = .returned (.bool true) ∧ Below w.heap.size w w' := by
  have HBy := Lib.hid hb
  have HT := Lib.hid hT
  clear hb hT
  go_enter Tryd.func3, Tryd.ntmps3
  go_wp2_with fail
  refine (drawOther_any a n cap w HBy.out hn hc hc2).mono ?_
  rintro e w1 ⟨m, a1, zs, c1, rfl, hl, ho1, hb1⟩
  have F1 := FB.start (m := m) (c := c1) (own_ints ho1)
  have B1 := Lib.hid (hb1.trans ((below1 w1 (.cells #[.int .i64 m, .slice a1 zs.length c1] 25)).mono hb1.size))
  have hln : zs.length ≤ 1048576 := by omega
  have f_f_1 := Lib.hid F1
  clear F1 ho1 hb1
  have f_0 := f_f_1.out.x0
  have f_1 := f_f_1.out.x1
  obtain ⟨M, hM⟩ : ∃ M, M = otherM m zs := ⟨_, rfl⟩
  obtain ⟨ys, hys⟩ : ∃ ys, ys = otherZ m zs := ⟨_, rfl⟩
  have hyl : ys.length ≤ 1048576 := by rw [hys]; exact otherZ_len m zs hln
  have HI := Lib.hid (fun W hz => implOther_any m a1 c1 zs W hz hln)
  have HSp := Lib.hid (fun W hz => specOther_any m a1 c1 zs W hz hln)
  rw [← hM, ← hys] at HI HSp
  have HM := Lib.hid hM
  have HYS := Lib.hid hys
  clear hM hys
  go_wp2_with fail
  refine (HI.out _ f_f_1.out.ints).mono ?_
  rintro e w2 ⟨a2, c2, rfl, ho2, hb2⟩
  have F2 := FB.start (m := M) (c := c2) (own_ints ho2)
  have hb2x := hb2.trans ((below1 w2 (.cells #[.int .i64 (M), .slice a2 (ys).length c2] 25)).mono hb2.size)
  have B2 := Lib.hid (B1.out.trans (hb2x.mono B1.out.size))
  have f_f_2 := Lib.hid (f_f_1.out.step hb2x)
  have f_out_2 := Lib.hid F2
  clear F2 ho2 hb2 hb2x B1 f_f_1
  clear f_0 f_1
  have f_0 := f_f_2.out.x0
  have f_1 := f_f_2.out.x1
  go_wp2_with fail
  refine (HSp.out _ f_f_2.out.ints).mono ?_
  rintro e w3 ⟨a3, c3, rfl, ho3, hb3⟩
  have F3 := FB.start (m := M) (c := c3) (own_ints ho3)
  have hb3x := hb3.trans ((below1 w3 (.cells #[.int .i64 (M), .slice a3 (ys).length c3] 25)).mono hb3.size)
  have B3 := Lib.hid (B2.out.trans (hb3x.mono B2.out.size))
  have f_f_3 := Lib.hid (f_f_2.out.step hb3x)
  have f_out_3 := Lib.hid (f_out_2.out.step hb3x)
  have f_want_3 := Lib.hid F3
  clear F3 ho3 hb3 hb3x B2 f_f_2 f_out_2
  clear f_0 f_1
  have out_0 := f_out_3.out.x0
  have out_1 := f_out_3.out.x1
  have want_0 := f_want_3.out.x0
  have want_1 := f_want_3.out.x1
  clear HI HSp
  cases hd : famIn m zs
  · clear hd HM HYS
    go_wp2_with fail
    refine (sameFamily_any _ _ _ _ _ _ _ _ _ f_out_3.out.ints f_want_3.out.ints hyl hyl).mono ?_
    rintro e w4 ⟨rfl, hb4⟩
    rw [sameF_self]
    have B4 := Lib.hid (B3.out.trans (hb4.mono B3.out.size))
    have f_f_4 := Lib.hid (f_f_3.out.step hb4)
    have f_out_4 := Lib.hid (f_out_3.out.step hb4)
    have f_want_4 := Lib.hid (f_want_3.out.step hb4)
    clear hb4 B3 f_f_3 f_out_3 f_want_3
    clear out_0 out_1
    clear want_0 want_1
    have out_0 := f_out_4.out.x0
    have out_1 := f_out_4.out.x1
    have want_0 := f_want_4.out.x0
    have want_1 := f_want_4.out.x1
    go_wp2_with fail
    refine (sameFamily_any _ _ _ _ _ _ _ _ _ f_out_4.out.ints f_want_4.out.ints hyl hyl).mono ?_
    rintro e w5 ⟨rfl, hb5⟩
    rw [sameF_self]
    have B5 := Lib.hid (B4.out.trans (hb5.mono B4.out.size))
    have f_f_5 := Lib.hid (f_f_4.out.step hb5)
    have f_out_5 := Lib.hid (f_out_4.out.step hb5)
    have f_want_5 := Lib.hid (f_want_4.out.step hb5)
    clear hb5 B4 f_f_4 f_out_4 f_want_4
    clear out_0 out_1
    clear want_0 want_1
    go_wp2
    go_ret
    exact ⟨rfl, B5.out⟩
  · have HD := Lib.hid hd
    clear hd
    go_wp2_with fail
    refine (sameFamily_any _ _ _ _ _ _ _ _ _ f_out_3.out.ints f_want_3.out.ints hyl hyl).mono ?_
    rintro e w4 ⟨rfl, hb4⟩
    rw [sameF_self]
    have B4 := Lib.hid (B3.out.trans (hb4.mono B3.out.size))
    have f_f_4 := Lib.hid (f_f_3.out.step hb4)
    have f_out_4 := Lib.hid (f_out_3.out.step hb4)
    have f_want_4 := Lib.hid (f_want_3.out.step hb4)
    clear hb4 B3 f_f_3 f_out_3 f_want_3
    clear out_0 out_1
    clear want_0 want_1
    clear f_want_4
    have HE : Hid (famIn M ys = true ∧ otherM M ys = m ∧ otherZ M ys = zs ∧ (famAll M ys == bits .andNot .i64 (fullI m) (famCommon m zs)) = true) := Lib.hid (by rw [HM.out, HYS.out]; exact other_facts HD.out)
    have hm1 : 1 ≤ m := (famIn_out HD.out).1
    have hm6 : m ≤ 6 := (famIn_out HD.out).2.1
    have out_0 := f_out_4.out.x0
    have out_1 := f_out_4.out.x1
    go_wp2_with fail
    refine (implOther_any M a2 c2 ys _ f_out_4.out.ints hyl).mono ?_
    rw [HE.out.1]
    rw [HE.out.2.1]
    rw [HE.out.2.2.1]
    rintro e w5 ⟨a5, c5, rfl, ho5, hb5⟩
    have F5 := FB.start (m := m) (c := c5) (own_ints ho5)
    have hb5x := hb5.trans ((below1 w5 (.cells #[.int .i64 (m), .slice a5 (zs).length c5] 25)).mono hb5.size)
    have B5 := Lib.hid (B4.out.trans (hb5x.mono B4.out.size))
    have f_f_5 := Lib.hid (f_f_4.out.step hb5x)
    have f_out_5 := Lib.hid (f_out_4.out.step hb5x)
    have f_x_5 := Lib.hid F5
    clear F5 ho5 hb5 hb5x B4 f_f_4 f_out_4
    clear out_0 out_1
    have out_0 := f_out_5.out.x0
    have out_1 := f_out_5.out.x1
    obtain ⟨A, hA⟩ : ∃ A, A = famAll M ys := ⟨_, rfl⟩
    have HA := Lib.hid hA
    clear hA
    go_wp2_with fail
    refine (implAllF_any M a2 c2 ys _ f_out_5.out.ints (HT.out.below B5.out HT.out.lt) hyl).mono ?_
    rw [HE.out.1]
    rw [← HA.out]
    rintro e w6 ⟨rfl, hb6⟩
    have B6 := Lib.hid (B5.out.trans (hb6.mono B5.out.size))
    have f_f_6 := Lib.hid (f_f_5.out.step hb6)
    have f_out_6 := Lib.hid (f_out_5.out.step hb6)
    have f_x_6 := Lib.hid (f_x_5.out.step hb6)
    clear hb6 B5 f_f_5 f_out_5 f_x_5
    clear out_0 out_1
    have f_0 := f_f_6.out.x0
    have f_1 := f_f_6.out.x1
    obtain ⟨C, hC⟩ : ∃ C, C = famCommon m zs := ⟨_, rfl⟩
    have HC := Lib.hid hC
    clear hC
    go_wp2_with fail
    refine (implCommon_any m a1 c1 zs _ f_f_6.out.ints hln).mono ?_
    rw [HD.out]
    rw [← HC.out]
    rintro e w7 ⟨rfl, hb7⟩
    have B7 := Lib.hid (B6.out.trans (hb7.mono B6.out.size))
    have f_f_7 := Lib.hid (f_f_6.out.step hb7)
    have f_out_7 := Lib.hid (f_out_6.out.step hb7)
    have f_x_7 := Lib.hid (f_x_6.out.step hb7)
    clear hb7 B6 f_f_6 f_out_6 f_x_6
    clear f_0 f_1
    have x_0 := f_x_7.out.x0
    have x_1 := f_x_7.out.x1
    have f_0 := f_f_7.out.x0
    have f_1 := f_f_7.out.x1
    have hAC : (A == bits .andNot .i64 (fullI m) C) = true := by rw [HA.out, HC.out]; exact HE.out.2.2.2
    clear HA HC HM HYS
    go_wp2_with fail
    refine (sameFamily_any _ _ _ _ _ _ _ _ _ f_x_7.out.ints f_f_7.out.ints hln hln).mono ?_
    rintro e w8 ⟨rfl, hb8⟩
    rw [sameF_self]
    have B8 := Lib.hid (B7.out.trans (hb8.mono B7.out.size))
    have f_f_8 := Lib.hid (f_f_7.out.step hb8)
    have f_out_8 := Lib.hid (f_out_7.out.step hb8)
    have f_x_8 := Lib.hid (f_x_7.out.step hb8)
    clear hb8 B7 f_f_7 f_out_7 f_x_7
    clear f_0 f_1
    clear x_0 x_1
    have f_0 := f_f_8.out.x0
    have f_1 := f_f_8.out.x1
    go_wp2_with fail
    refine (whole_any m a1 zs.length c1 _ hm1 hm6).mono ?_
    rintro e w9 ⟨rfl, hb9⟩
    have B9 := Lib.hid (B8.out.trans (hb9.mono B8.out.size))
    have f_f_9 := Lib.hid (f_f_8.out.step hb9)
    have f_out_9 := Lib.hid (f_out_8.out.step hb9)
    have f_x_9 := Lib.hid (f_x_8.out.step hb9)
    clear hb9 B8 f_f_8 f_out_8 f_x_8
    clear f_0 f_1
    go_wp2
    go_ret
    exact ⟨rfl, B9.out⟩

end Go.Proofs.YtkmaebkfmljiiaaDoor
