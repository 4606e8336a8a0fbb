/- It is proved that the call of the law FnGreatest returns true; conditions: those of each statement. -/
import Derived.Test.YtgaappbcekllhaaRows
import Derived.WalkKit
import Derived.WalkSpells
import Derived.ProofKit
import Derived.OpenShut
import Derived.ShutString
import Derived.ChangeOld
import Derived.Below
import Derived.Deep.RegionHeld3
import Derived.Deep.QuietTactic
import Derived.BigQuiet
import Derived.Lib.Hide
import Derived.Lib.SmallJoins
import Derived.Outline
import Derived.Laws.MakeOwn
import Derived.Laws.OwnMore
import Derived.IntWalk
import Derived.Deep.RegionLaw
import Derived.Deep.AppendLies
import Derived.Lib.AppendZeros
import Derived.Maps.AppendAt
import Derived.OwnWalk
import Derived.Lib.SlicesCompact
import Derived.Lib.OwnBridge
import Derived.Shelf.Sort.Plain
import Derived.Shelf.Slices.In.SortNone
import Derived.Shelf.Slices.CompactI
import Derived.Ground.Names2Prog
import Derived.Lib.SliceRun
import Derived.RangeFuncNested
import Derived.RangeFuncBound
import Derived.RangeFuncCalls
import Derived.RangeFuncLeaves
import Derived.RangeFuncBox
import Derived.Shelf.Abstract
import Derived.Shelf.RegionOpen
import Derived.OwnWalkIn
import Derived.TacticsInMore
import Derived.LoopNIn
import Derived.LoopIn
import Derived.StillTail
import Derived.StillTactics
import Derived.OrdersIn
import Derived.TacticsIn
import Derived.Shelf.Spec.TrailingZeros
import Derived.StillTailTactics
import Derived.Test.YtgaappbcekllhaaFbab
import Derived.Test.YtgaappbcekllhaaFbac
import Derived.Test.YtgaappbcekllhaaFbao
import Derived.Test.YtgaappbcekllhaaFbap
import Derived.Test.YtgaappbcekllhaaFbaq
import Derived.Test.YtgaappbcekllhaaFbad
import Derived.Test.YtgaappbcekllhaaFbaj
import Derived.Test.YtgaappbcekllhaaHt
import Derived.Test.YtgaappbcekllhaaHu
import Derived.Test.YtgaappbcekllhaaHw
import Derived.Test.YtgaappbcekllhaaHx
import Derived.Test.YtgaappbcekllhaaFbae
import Derived.Test.YtgaappbcekllhaaFbas
import Derived.Test.YtgaappbcekllhaaFbat
import Derived.Test.YtgaappbcekllhaaFbau
import Derived.Test.YtgaappbcekllhaaYl
namespace Go.Proofs.Ytgaappbcekllhaa
open Go.RowKit

theorem any_congr {α : Type} {f g : α → Bool} : ∀ {l : List α}, (∀ x ∈ l, f x = g x) → l.any f = l.any g
  | [], _ => rfl
  | a :: l, h => by rw [List.any_cons, List.any_cons, h a (by simp), any_congr (fun x hx => h x (by simp [hx]))]

theorem geG_is (o z : Int) : geG o z = leG z o := rfl
theorem leG_other_fin : ∀ k : Fin 6, ∀ o : Fin 64, ∀ z : Fin 64, (o.val : Int) ≤ fullI ((k.val : Int) + 1) → (z.val : Int) ≤ fullI ((k.val : Int) + 1) →
    leG (bits .andNot .i64 (fullI ((k.val : Int) + 1)) (o.val : Int)) (bits .andNot .i64 (fullI ((k.val : Int) + 1)) (z.val : Int)) = leG (z.val : Int) (o.val : Int) := by
  intro k o z h1 h2
  have hk : ((k.val : Int) + 1) = ((k.val + 1 : Nat) : Int) := by omega
  rw [hk] at h1 h2 ⊢
  have h64 : 2 ^ (k.val + 1) ≤ 64 := pow64 (k.val + 1) (by omega)
  have hp := Nat.one_le_two_pow (n := k.val + 1)
  have hx : ∀ b, (2 ^ (k.val + 1) - 1) ^^^ ((2 ^ (k.val + 1) - 1) &&& b) < 64 := fun b => Nat.lt_of_lt_of_le (Nat.xor_lt_two_pow (n := k.val + 1) (by omega) (Nat.lt_of_le_of_lt Nat.and_le_left (by omega))) h64
  have hfull : fullI ((k.val + 1 : Nat) : Int) = ((2 ^ (k.val + 1) : Nat) : Int) - 1 := by simp [fullI]
  rw [hfull] at h1 h2
  rw [bits_not_nat _ _ (by omega) (by omega) o.isLt, bits_not_nat _ _ (by omega) (by omega) z.isLt, leG_nat _ _ (hx _) (hx _), leG_nat _ _ z.isLt o.isLt]
  obtain ⟨F, hF⟩ : ∃ F, F = 2 ^ (k.val + 1) - 1 := ⟨_, rfl⟩
  have sub : ∀ b, b < 2 ^ (k.val + 1) → ∀ i, b.testBit i = true → F.testBit i = true := fun b hb i hi => by
    have : i < k.val + 1 := by
      rcases Nat.lt_or_ge i (k.val + 1) with h | h
      · exact h
      · rw [Nat.testBit_lt_two_pow (Nat.lt_of_lt_of_le hb (Nat.pow_le_pow_right (by decide) h))] at hi; cases hi
    rw [hF, Nat.testBit_two_pow_sub_one]; simpa using this
  have so := sub o.val (by omega)
  have sz := sub z.val (by omega)
  rw [← hF]
  apply decide_eq_decide.2
  constructor
  · intro h
    apply Nat.eq_of_testBit_eq
    intro i
    have := congrArg (fun n => n.testBit i) h
    simp only [Nat.testBit_and, Nat.testBit_xor] at this ⊢
    have a1 := so i
    have a2 := sz i
    revert this a1 a2
    cases F.testBit i <;> cases o.val.testBit i <;> cases z.val.testBit i <;> simp
  · intro h
    apply Nat.eq_of_testBit_eq
    intro i
    have := congrArg (fun n => n.testBit i) h
    simp only [Nat.testBit_and, Nat.testBit_xor] at this ⊢
    have a1 := so i
    have a2 := sz i
    revert this a1 a2
    cases F.testBit i <;> cases o.val.testBit i <;> cases z.val.testBit i <;> simp

theorem leG_other {m o z : Int} (h1 : 1 ≤ m) (h2 : m ≤ 6) (ho0 : 0 ≤ o) (ho : o ≤ fullI m) (hz0 : 0 ≤ z) (hz : z ≤ fullI m) : leG (bits .andNot .i64 (fullI m) o) (bits .andNot .i64 (fullI m) z) = leG z o := by
  have h5 := fullI_63 h1 h2
  have := leG_other_fin ⟨(m - 1).toNat, by omega⟩ ⟨o.toNat, by omega⟩ ⟨z.toNat, by omega⟩
  simp only [Int.toNat_of_nonneg (show 0 ≤ m - 1 by omega), Int.toNat_of_nonneg ho0, Int.toNat_of_nonneg hz0, show m - 1 + 1 = m by omega] at this
  exact this ho hz

theorem other_inj {m o z : Int} (h1 : 1 ≤ m) (h2 : m ≤ 6) (ho0 : 0 ≤ o) (ho : o ≤ fullI m) (hz0 : 0 ≤ z) (hz : z ≤ fullI m) (h : bits .andNot .i64 (fullI m) o = bits .andNot .i64 (fullI m) z) : o = z := by
  rw [← other_other h1 h2 ho0 ho, ← other_other h1 h2 hz0 hz, h]

theorem asc_le {xs : List Int} (h : Asc xs) : xs.Pairwise (· ≤ ·) := h.imp (fun h => by omega)
theorem asc_nodup {xs : List Int} (h : Asc xs) : xs.Nodup := h.imp (fun h => by omega)
theorem perm_of_nodup {xs ys : List Int} (hx : xs.Nodup) (hy : ys.Nodup) (h : ∀ z, z ∈ xs ↔ z ∈ ys) : xs.Perm ys := (List.perm_ext_iff_of_nodup hx hy).2 h
theorem greatest_facts {m : Int} {zs : List Int} (h : famIn m zs = true) : famIn (famM (famIn m zs) m) (famF (famIn m zs) (unbeaten geG) zs) = true ∧ otherM (famM (famIn m zs) m) (famF (famIn m zs) (unbeaten geG) zs) = m ∧ otherM m zs = m ∧ famIn m (otherZ m zs) = true ∧
    sortZ (otherZ (famM (famIn m zs) m) (famF (famIn m zs) (unbeaten geG) zs)) = unbeaten leG (otherZ m zs) := by
  have e1 : famM (famIn m zs) m = m := by simp [famM, h]
  have e2 : famF (famIn m zs) (unbeaten geG) zs = unbeaten geG zs := by simp [famF, h]
  have e3 : otherZ m zs = zs.map fun z => bits .andNot .i64 (fullI m) z := by simp [otherZ, h]
  rw [e1, e2, e3]
  obtain ⟨h1, h2, h3, h4⟩ := famIn_out h
  have hmem : ∀ z ∈ unbeaten geG zs, z ∈ zs := fun z hz => ((unbeaten_mem geG zs z).1 hz).1
  have hf : famIn m (unbeaten geG zs) = true := by
    simp only [famIn, Bool.and_eq_true, decide_eq_true_eq, List.all_eq_true]
    refine ⟨inB_true h1 h2, Nat.le_trans (unbeaten_le _ zs) h3, fun z hz => ?_⟩
    have := h4 z (hmem z hz)
    exact inB_true this.1 this.2
  refine ⟨hf, by simp [otherM, hf], by simp [otherM, h], other_fam h, ?_⟩
  rw [otherZ, if_pos hf]
  symm
  have hnd : ((unbeaten geG zs).map fun z => bits .andNot .i64 (fullI m) z).Nodup := by
    rw [List.Nodup, List.pairwise_map]
    refine List.Pairwise.imp_of_mem ?_ (asc_nodup (unbeaten_asc geG zs))
    intro a b ha hb hne he
    exact hne (other_inj h1 h2 (h4 a (hmem a ha)).1 (h4 a (hmem a ha)).2 (h4 b (hmem b hb)).1 (h4 b (hmem b hb)).2 he)
  refine sortZ_of (perm_of_nodup (asc_nodup (unbeaten_asc leG _)) hnd ?_) (asc_le (unbeaten_asc leG _))
  intro y
  rw [unbeaten_mem, List.mem_map, List.mem_map]
  have hb : ∀ z ∈ zs, beaten leG (zs.map fun z => bits .andNot .i64 (fullI m) z) (bits .andNot .i64 (fullI m) z) = beaten geG zs z := by
    intro z hz
    unfold beaten
    rw [List.any_map]
    apply any_congr
    intro o ho
    have q1 := h4 z hz
    have q2 := h4 o ho
    simp only [Function.comp, beatBy]
    have hne : (bits .andNot .i64 (fullI m) o != bits .andNot .i64 (fullI m) z) = (o != z) := by
      rw [Bool.eq_iff_iff, bne_iff_ne, bne_iff_ne]
      exact ⟨fun h e => h (by rw [e]), fun h e => h (other_inj h1 h2 q2.1 q2.2 q1.1 q1.2 e)⟩
    rw [leG_other h1 h2 q2.1 q2.2 q1.1 q1.2, geG_is, hne]
  constructor
  · rintro ⟨⟨z, hz, rfl⟩, hbe⟩
    rw [hb z hz] at hbe
    exact ⟨z, (unbeaten_mem geG zs z).2 ⟨hz, hbe⟩, rfl⟩
  · rintro ⟨z, hz, rfl⟩
    have := (unbeaten_mem geG zs z).1 hz
    exact ⟨⟨z, this.1, rfl⟩, by rw [hb z this.1]; exact this.2⟩

set_option maxRecDepth 100000 in
set_option maxHeartbeats 8000000 in
theorem walkFnGreatest (a : Option Addr) (n cap : Nat) (w : World) (hb : Bys w w.heap.size a n) (hn : n ≤ 1048576) (hc : n ≤ cap) (hc2 : cap ≤ 9223372036854775807) :
    Calls Try.prog 4 #[.slice a n cap] w fun e w' => e = .returned (.bool true) ∧ Below w.heap.size w w' := by
  have HBy := Lib.hid hb
  clear hb
  go_enter Try.func4, Try.ntmps4
  go_wp2_with fail
  refine (drawGreatest_any a n cap w HBy.out hn hc hc2).mono ?_
  rintro e w1 ⟨m, a1, zs, c1, rfl, hl, ho1, hb1⟩
  have F1 := FB.start (m := m) (c := c1) (own_ints ho1)
  have B1 := Lib.hid (hb1.trans ((below1 w1 (.cells #[.int .i64 m, .slice a1 zs.length c1] 25)).mono hb1.size))
  have hln : zs.length ≤ 1048576 := by omega
  have f_f_1 := Lib.hid F1
  clear F1 ho1 hb1
  have f_0 := f_f_1.out.x0
  have f_1 := f_f_1.out.x1
  obtain ⟨M, hM⟩ : ∃ M, M = famM (famIn m zs) m := ⟨_, rfl⟩
  obtain ⟨ys, hys⟩ : ∃ ys, ys = famF (famIn m zs) (unbeaten geG) zs := ⟨_, rfl⟩
  have hyl : ys.length ≤ 1048576 := by rw [hys]; exact famF_len _ _ _ hln (unbeaten_le _ _)
  have HI := Lib.hid (fun W hz => implGreatest_any m a1 c1 zs W hz hln)
  have HSp := Lib.hid (fun W hz => specGreatest_any m a1 c1 zs W hz hln)
  rw [← hM, ← hys] at HI HSp
  have HM := Lib.hid hM
  have HYS := Lib.hid hys
  clear hM hys
  go_wp2_with fail
  refine (HI.out _ f_f_1.out.ints).mono ?_
  rintro e w2 ⟨a2, c2, rfl, ho2, hb2⟩
  have F2 := FB.start (m := M) (c := c2) (own_ints ho2)
  have hb2x := hb2.trans ((below1 w2 (.cells #[.int .i64 (M), .slice a2 (ys).length c2] 25)).mono hb2.size)
  have B2 := Lib.hid (B1.out.trans (hb2x.mono B1.out.size))
  have f_f_2 := Lib.hid (f_f_1.out.step hb2x)
  have f_out_2 := Lib.hid F2
  clear F2 ho2 hb2 hb2x B1 f_f_1
  clear f_0 f_1
  have f_0 := f_f_2.out.x0
  have f_1 := f_f_2.out.x1
  go_wp2_with fail
  refine (HSp.out _ f_f_2.out.ints).mono ?_
  rintro e w3 ⟨a3, c3, rfl, ho3, hb3⟩
  have F3 := FB.start (m := M) (c := c3) (own_ints ho3)
  have hb3x := hb3.trans ((below1 w3 (.cells #[.int .i64 (M), .slice a3 (ys).length c3] 25)).mono hb3.size)
  have B3 := Lib.hid (B2.out.trans (hb3x.mono B2.out.size))
  have f_f_3 := Lib.hid (f_f_2.out.step hb3x)
  have f_out_3 := Lib.hid (f_out_2.out.step hb3x)
  have f_want_3 := Lib.hid F3
  clear F3 ho3 hb3 hb3x B2 f_f_2 f_out_2
  clear f_0 f_1
  have out_0 := f_out_3.out.x0
  have out_1 := f_out_3.out.x1
  have want_0 := f_want_3.out.x0
  have want_1 := f_want_3.out.x1
  clear HI HSp
  cases hd : famIn m zs
  · clear hd HM HYS
    go_wp2_with fail
    refine (sameFamily_any _ _ _ _ _ _ _ _ _ f_out_3.out.ints f_want_3.out.ints hyl hyl).mono ?_
    rintro e w4 ⟨rfl, hb4⟩
    rw [sameF_self]
    have B4 := Lib.hid (B3.out.trans (hb4.mono B3.out.size))
    have f_f_4 := Lib.hid (f_f_3.out.step hb4)
    have f_out_4 := Lib.hid (f_out_3.out.step hb4)
    have f_want_4 := Lib.hid (f_want_3.out.step hb4)
    clear hb4 B3 f_f_3 f_out_3 f_want_3
    clear out_0 out_1
    clear want_0 want_1
    have out_0 := f_out_4.out.x0
    have out_1 := f_out_4.out.x1
    have want_0 := f_want_4.out.x0
    have want_1 := f_want_4.out.x1
    go_wp2_with fail
    refine (sameFamily_any _ _ _ _ _ _ _ _ _ f_out_4.out.ints f_want_4.out.ints hyl hyl).mono ?_
    rintro e w5 ⟨rfl, hb5⟩
    rw [sameF_self]
    have B5 := Lib.hid (B4.out.trans (hb5.mono B4.out.size))
    have f_f_5 := Lib.hid (f_f_4.out.step hb5)
    have f_out_5 := Lib.hid (f_out_4.out.step hb5)
    have f_want_5 := Lib.hid (f_want_4.out.step hb5)
    clear hb5 B4 f_f_4 f_out_4 f_want_4
    clear out_0 out_1
    clear want_0 want_1
    go_wp2
    go_ret
    exact ⟨rfl, B5.out⟩
  · have HD := Lib.hid hd
    clear hd
    go_wp2_with fail
    refine (sameFamily_any _ _ _ _ _ _ _ _ _ f_out_3.out.ints f_want_3.out.ints hyl hyl).mono ?_
    rintro e w4 ⟨rfl, hb4⟩
    rw [sameF_self]
    have B4 := Lib.hid (B3.out.trans (hb4.mono B3.out.size))
    have f_f_4 := Lib.hid (f_f_3.out.step hb4)
    have f_out_4 := Lib.hid (f_out_3.out.step hb4)
    have f_want_4 := Lib.hid (f_want_3.out.step hb4)
    clear hb4 B3 f_f_3 f_out_3 f_want_3
    clear out_0 out_1
    clear want_0 want_1
    clear f_want_4
    obtain ⟨os, hos⟩ : ∃ os, os = otherZ M ys := ⟨_, rfl⟩
    obtain ⟨ps, hps⟩ : ∃ ps, ps = otherZ m zs := ⟨_, rfl⟩
    obtain ⟨qs, hqs⟩ : ∃ qs, qs = unbeaten leG ps := ⟨_, rfl⟩
    have HE : Hid (famIn M ys = true ∧ otherM M ys = m ∧ otherM m zs = m ∧ famIn m ps = true ∧ sortZ os = qs) := Lib.hid (by rw [hqs, hos, hps, HM.out, HYS.out]; exact greatest_facts HD.out)
    have hol : os.length ≤ 1048576 := by rw [hos]; exact otherZ_len _ _ hyl
    have hpl : ps.length ≤ 1048576 := by rw [hps]; exact otherZ_len _ _ hln
    have hql : qs.length ≤ 1048576 := by rw [hqs]; exact Nat.le_trans (unbeaten_le _ _) hpl
    have HOS := Lib.hid hos
    have HPS := Lib.hid hps
    have HQS := Lib.hid hqs
    clear hos hps hqs
    have out_0 := f_out_4.out.x0
    have out_1 := f_out_4.out.x1
    go_wp2_with fail
    refine (implOther_any M a2 c2 ys _ f_out_4.out.ints hyl).mono ?_
    rw [HE.out.1]
    rw [HE.out.2.1]
    rw [← HOS.out]
    rintro e w5 ⟨a5, c5, rfl, ho5, hb5⟩
    have F5 := FB.start (m := m) (c := c5) (own_ints ho5)
    have hb5x := hb5.trans ((below1 w5 (.cells #[.int .i64 (m), .slice a5 (os).length c5] 25)).mono hb5.size)
    have B5 := Lib.hid (B4.out.trans (hb5x.mono B4.out.size))
    have f_f_5 := Lib.hid (f_f_4.out.step hb5x)
    have f_out_5 := Lib.hid (f_out_4.out.step hb5x)
    have f_oa_5 := Lib.hid F5
    clear F5 ho5 hb5 hb5x B4 f_f_4 f_out_4
    clear out_0 out_1
    have f_0 := f_f_5.out.x0
    have f_1 := f_f_5.out.x1
    go_wp2_with fail
    refine (implOther_any m a1 c1 zs _ f_f_5.out.ints hln).mono ?_
    rw [HD.out]
    rw [HE.out.2.2.1]
    rw [← HPS.out]
    rintro e w6 ⟨a6, c6, rfl, ho6, hb6⟩
    have F6 := FB.start (m := m) (c := c6) (own_ints ho6)
    have hb6x := hb6.trans ((below1 w6 (.cells #[.int .i64 (m), .slice a6 (ps).length c6] 25)).mono hb6.size)
    have B6 := Lib.hid (B5.out.trans (hb6x.mono B5.out.size))
    have f_f_6 := Lib.hid (f_f_5.out.step hb6x)
    have f_out_6 := Lib.hid (f_out_5.out.step hb6x)
    have f_oa_6 := Lib.hid (f_oa_5.out.step hb6x)
    have f_ob_6 := Lib.hid F6
    clear F6 ho6 hb6 hb6x B5 f_f_5 f_out_5 f_oa_5
    clear f_0 f_1
    have ob_0 := f_ob_6.out.x0
    have ob_1 := f_ob_6.out.x1
    have hleast : famM true m = m ∧ famF true (unbeaten leG) ps = unbeaten leG ps := ⟨rfl, rfl⟩
    have HLST := Lib.hid hleast
    clear hleast
    go_wp2_with fail
    refine (implLeast_any m a6 c6 ps _ f_ob_6.out.ints hpl).mono ?_
    rw [HE.out.2.2.2.1]
    rw [HLST.out.1]
    rw [HLST.out.2]
    rw [← HQS.out]
    rintro e w7 ⟨a7, c7, rfl, ho7, hb7⟩
    have F7 := FB.start (m := m) (c := c7) (own_ints ho7)
    have hb7x := hb7.trans ((below1 w7 (.cells #[.int .i64 (m), .slice a7 (qs).length c7] 25)).mono hb7.size)
    have B7 := Lib.hid (B6.out.trans (hb7x.mono B6.out.size))
    have f_f_7 := Lib.hid (f_f_6.out.step hb7x)
    have f_out_7 := Lib.hid (f_out_6.out.step hb7x)
    have f_oa_7 := Lib.hid (f_oa_6.out.step hb7x)
    have f_ob_7 := Lib.hid (f_ob_6.out.step hb7x)
    have f_oc_7 := Lib.hid F7
    clear F7 ho7 hb7 hb7x B6 f_f_6 f_out_6 f_oa_6 f_ob_6
    clear ob_0 ob_1
    have HS := Lib.hid HE.out.2.2.2.2
    have FA := Lib.hid f_oa_7.out
    have FC := Lib.hid f_oc_7.out
    have HBB := Lib.hid B7.out
    obtain ⟨V, hV⟩ : ∃ V, V = w7.alloc (.cells #[.int .i64 (m), .slice a7 (qs).length c7] 25) := ⟨_, rfl⟩
    go_wp2_with fail
    rw [← hV]
    rw [← hV] at FA FC HBB
    have d1 := FA.out.x1
    have e1 := FC.out.x1
    have FAd : Hid (FB w5.heap.size m a5 os c5 V.drew) := Lib.hid ⟨FA.out.blk, FA.out.ints⟩
    have FCd : Hid (FB w7.heap.size m a7 qs c7 V.drew) := Lib.hid ⟨FC.out.blk, FC.out.ints⟩
    have HBd : Hid (Below w.heap.size w V.drew) := Lib.hid HBB.out.drew
    have hVs : w.heap.size ≤ V.heap.size := HBB.out.size
    clear hV
    go_region_held3 (fun w' => w'.cell? ⟨w5.heap.size, 1, none⟩ = some (.slice a5 os.length c5) ∧ w'.cell? ⟨w7.heap.size, 1, none⟩ = some (.slice a7 qs.length c7) ∧ Below w.heap.size w w')
      (first
        | exact ⟨FAd.out.x1, FCd.out.x1, HBd.out⟩
        | exact ⟨(FAd.out.step hb8).x1, (FCd.out.step hb8).x1, HBd.out.trans (hb8.mono hVs)⟩
        | exact ⟨((FAd.out.step hb8).step hb9).x1, ((FCd.out.step hb8).step hb9).x1, (HBd.out.trans (hb8.mono hVs)).trans (hb9.mono (Nat.le_trans hVs hb8.size))⟩)
      (first
        | (go_at_call 18; refine (sorted_any _ _ os _ FAd.out.ints hol).mono ?_; rintro e w8 ⟨a8, c8, rfl, ho8, hb8⟩)
        | (go_at_call 17; refine (sameInts_any _ _ _ _ (sortZ os) qs _ (own_ints ho8) (FCd.out.ints.step hb8) (by rw [sortZ_length]; exact hol) hql).mono ?_; rintro e w9 ⟨rfl, hb9⟩; rw [HS.out, sameB_refl]))
    rename_i hHeld
    have HR := Lib.hid hHeld.2.2
    clear hHeld
    go_wp2
    go_ret
    exact ⟨rfl, HR.out⟩

end Go.Proofs.Ytgaappbcekllhaa
