/- It is proved that the call of the law FnSmall returns true; conditions: those of each statement. -/
import Derived.RowKit
import Derived.Laws.CopyRow
import Derived.Lib.SlBuf
import Derived.Deep.QuietTactic
import Derived.RangeFuncNested
import Derived.RangeFuncBound
import Derived.RangeFuncCalls
import Derived.RangeFuncLeaves
import Derived.RangeFuncBox
import Derived.RangeFuncWrites
import Derived.StillTailTactics
import Derived.Maps.OwnIn
import Derived.Maps.Ext
import Derived.DeepKeys4
import Derived.MapKept
import Derived.Test.YtphddemilibooaaDoorRows
import Derived.WalkKit
import Derived.WalkSpells
import Derived.ProofKit
import Derived.OpenShut
import Derived.ShutString
import Derived.ChangeOld
import Derived.Below
import Derived.Deep.RegionHeld3
import Derived.BigQuiet
import Derived.Lib.Hide
import Derived.Lib.SmallJoins
import Derived.Outline
import Derived.Laws.MakeOwn
import Derived.Laws.OwnMore
import Derived.IntWalk
import Derived.Deep.RegionLaw
import Derived.Deep.AppendLies
import Derived.Deep.RegionWith
import Derived.Lib.AppendZeros
import Derived.Maps.AppendAt
import Derived.OwnWalk
import Derived.Lib.SlicesCompact
import Derived.Lib.OwnBridge
import Derived.OrdersIn
import Derived.TacticsIn
import Derived.Shelf.Sort.Plain
import Derived.Shelf.Slices.In.SortNone
import Derived.Shelf.Slices.CompactI
import Derived.Ground.Names2Prog
import Derived.Lib.SliceRun
import Derived.Shelf.Abstract
import Derived.Shelf.RegionOpen
import Derived.OwnWalkIn
import Derived.TacticsInMore
import Derived.LoopNIn
import Derived.LoopIn
import Derived.StillTail
import Derived.StillTactics
import Derived.Shelf.Spec.TrailingZeros
import Derived.Test.YtphddemilibooaaDoorRaac
import Derived.Test.YtphddemilibooaaDoorRaab
import Derived.Test.YtphddemilibooaaDoorDb
import Derived.Test.YtphddemilibooaaDoorRaar
import Derived.Test.YtphddemilibooaaDoorRaad
import Derived.Test.YtphddemilibooaaDoorRaas
import Derived.Test.YtphddemilibooaaDoorRaal
import Derived.Test.YtphddemilibooaaDoorRaaw
import Derived.Test.YtphddemilibooaaDoorRaaz
import Derived.Test.YtphddemilibooaaDoorRabc
import Derived.Test.YtphddemilibooaaDoorRabd
import Derived.Test.YtphddemilibooaaDoorRaaj
import Derived.Test.YtphddemilibooaaDoorRaat
import Derived.Test.YtphddemilibooaaDoorZc
namespace Go.Proofs.YtphddemilibooaaDoor
open Go.RowKit

/-- The greatest number. -/
def mostF (xs : List Int) : Int := xs.foldl (fun b x => max b x) 0

theorem mostF_snoc (xs : List Int) (x : Int) : mostF (xs ++ [x]) = max (mostF xs) x := by simp [mostF]
theorem mostF_take (xs : List Int) (k : Nat) (hk : k < xs.length) : mostF (xs.take (k + 1)) = max (mostF (xs.take k)) (xs[k]?.getD 0) := by
  rw [List.take_succ_eq_append_getElem hk, mostF_snoc, List.getElem?_eq_getElem hk]; rfl

theorem foldmax_ge : ∀ (xs : List Int) (b : Int), b ≤ xs.foldl (fun b x => max b x) b ∧ ∀ x ∈ xs, x ≤ xs.foldl (fun b x => max b x) b
  | [], b => ⟨Int.le_refl _, by simp⟩
  | y :: ys, b => by
    obtain ⟨h1, h2⟩ := foldmax_ge ys (max b y)
    rw [List.foldl_cons]
    refine ⟨by omega, fun x hx => ?_⟩
    rcases List.mem_cons.1 hx with rfl | hx
    · omega
    · exact h2 x hx

theorem foldmax_le (N : Int) : ∀ (xs : List Int) (b : Int), b ≤ N → (∀ x ∈ xs, x ≤ N) → xs.foldl (fun b x => max b x) b ≤ N
  | [], b, h, _ => h
  | y :: ys, b, h, h2 => by
    have := h2 y (List.mem_cons_self ..)
    exact foldmax_le N ys (max b y) (by omega) fun x hx => h2 x (List.mem_cons_of_mem _ hx)

theorem foldmin_le : ∀ (xs : List Int) (b : Int), smallF b xs ≤ b ∧ ∀ x ∈ xs, smallF b xs ≤ pop x
  | [], b => ⟨Int.le_refl _, by simp⟩
  | y :: ys, b => by
    obtain ⟨h1, h2⟩ := foldmin_le ys (min b (pop y))
    have e : smallF b (y :: ys) = smallF (min b (pop y)) ys := rfl
    rw [e]
    refine ⟨by omega, fun x hx => ?_⟩
    rcases List.mem_cons.1 hx with rfl | hx
    · omega
    · exact h2 x hx

theorem foldmin_ge (N : Int) : ∀ (xs : List Int) (b : Int), N ≤ b → (∀ x ∈ xs, N ≤ pop x) → N ≤ smallF b xs
  | [], b, h, _ => h
  | y :: ys, b, h, h2 => by
    have := h2 y (List.mem_cons_self ..)
    have e : smallF b (y :: ys) = smallF (min b (pop y)) ys := rfl
    rw [e]
    exact foldmin_ge N ys (min b (pop y)) (by omega) fun x hx => h2 x (List.mem_cons_of_mem _ hx)

/-- The members of a set that are not in another one. -/
def offS (t u : Nat) : Nat := t &&& (63 ^^^ u)

theorem offS_lt {t u : Nat} (ht : t < 64) : offS t u < 64 := Nat.lt_of_le_of_lt Nat.and_le_left ht
theorem pop_nat_fin : ∀ s : Fin 64, pop (s.val : Int) = ((popS s.val : Nat) : Int) := by decide +kernel
theorem pop_nat {s : Nat} (h : s < 64) : pop (s : Int) = ((popS s : Nat) : Int) := pop_nat_fin ⟨s, h⟩
set_option maxRecDepth 100000 in
theorem pop_lt_fin : ∀ s t : Fin 64, s.val ||| t.val = t.val → s.val ≠ t.val → popS s.val < popS t.val := by decide +kernel

set_option maxRecDepth 100000 in
theorem pop_sub2_fin : ∀ s t : Fin 64, s.val &&& t.val = s.val → popS s.val ≤ popS t.val := by decide +kernel

set_option maxRecDepth 100000 in
theorem pop_join_fin : ∀ s t : Fin 64, popS (s.val ||| t.val) ≤ popS s.val + popS t.val := by decide +kernel

theorem bit63 (i : Nat) (h : i < 6) : (63 : Nat).testBit i = true := by
  rcases (show i = 0 ∨ i = 1 ∨ i = 2 ∨ i = 3 ∨ i = 4 ∨ i = 5 by omega) with rfl | rfl | rfl | rfl | rfl | rfl <;> rfl

theorem pack_cov : ∀ (zs : List Int) (used t : Nat), (∀ z ∈ zs, z.toNat < 64) → t < 64 → covB zs t = true → packM zs used ≤ popS (offS t used)
  | [], _, _, _, _, _ => Nat.zero_le _
  | z :: zs, used, t, hz, ht, hc => by
    have hz' : ∀ y ∈ zs, y.toNat < 64 := fun y hy => hz y (List.mem_cons_of_mem _ hy)
    have hc' : covB zs t = true := covB_iff.2 fun y hy => covB_iff.1 hc y (List.mem_cons_of_mem _ hy)
    have h1 := pack_cov zs used t hz' ht hc'
    have h2 := pack_cov zs (used ||| z.toNat) t hz' ht hc'
    rw [packM]
    split
    · rename_i h0
      have hne := covB_iff.1 hc z (List.mem_cons_self ..)
      obtain ⟨i, i1, i2⟩ := meet_bit.1 hne
      have hi6 : i < 6 := Nat.lt_of_not_le fun h => by
        rw [Nat.testBit_lt_two_pow (Nat.lt_of_lt_of_le ht (Nat.pow_le_pow_right (n := 2) (i := 6) (by decide) h))] at i2
        cases i2
      have hu : used.testBit i = false := by
        have := congrArg (fun x => Nat.testBit x i) h0
        simpa [Nat.testBit_and, i1] using this
      have hlt : popS (offS t (used ||| z.toNat)) < popS (offS t used) := by
        refine pop_lt_fin ⟨_, offS_lt ht⟩ ⟨_, offS_lt ht⟩ ?_ ?_
        · show offS t (used ||| z.toNat) ||| offS t used = offS t used
          apply Nat.eq_of_testBit_eq
          intro j
          simp only [offS, Nat.testBit_or, Nat.testBit_and, Nat.testBit_xor]
          by_cases hj : j < 6
          · rw [bit63 j hj]
            cases t.testBit j <;> cases used.testBit j <;> cases z.toNat.testBit j <;> rfl
          · rw [Nat.testBit_lt_two_pow (Nat.lt_of_lt_of_le ht (Nat.pow_le_pow_right (n := 2) (i := 6) (by decide) (by omega)))]
            rfl
        · intro e
          have := congrArg (fun x => Nat.testBit x i) e
          simp [offS, Nat.testBit_or, Nat.testBit_and, Nat.testBit_xor, i1, i2, hu, bit63 i hi6] at this
      omega
    · exact h1

theorem pack_union (m : Nat) (hm : m ≤ 6) (most : Nat) : ∀ (zs : List Int) (used : Nat), (∀ z ∈ zs, z.toNat < 2 ^ m ∧ z.toNat ≠ 0 ∧ popS z.toNat ≤ most) → ∃ U : Nat, U < 2 ^ m ∧ (∀ z ∈ zs, z.toNat &&& (used ||| U) ≠ 0) ∧ popS U ≤ packM zs used * most
  | [], _, _ => ⟨0, Nat.two_pow_pos m, by simp, by rw [show popS 0 = 0 by decide]; exact Nat.zero_le _⟩
  | z :: zs, used, hz => by
    have hz' : ∀ y ∈ zs, y.toNat < 2 ^ m ∧ y.toNat ≠ 0 ∧ popS y.toNat ≤ most := fun y hy => hz y (List.mem_cons_of_mem _ hy)
    obtain ⟨z1, z2, z3⟩ := hz z (List.mem_cons_self ..)
    rw [packM]
    by_cases h0 : z.toNat &&& used = 0
    · rw [if_pos h0]
      obtain ⟨U, u1, u2, u3⟩ := pack_union m hm most zs (used ||| z.toNat) hz'
      refine ⟨z.toNat ||| U, Nat.or_lt_two_pow z1 u1, fun y hy => ?_, ?_⟩
      · rcases List.mem_cons.1 hy with rfl | hy
        · intro e
          apply z2
          apply Nat.eq_of_testBit_eq
          intro j
          have := congrArg (fun x => Nat.testBit x j) e
          simp only [Nat.testBit_and, Nat.testBit_or, Nat.zero_testBit] at this
          rw [Nat.zero_testBit]
          cases h : y.toNat.testBit j
          · rfl
          · rw [h] at this; simp at this
        · rw [← Nat.or_assoc]; exact u2 y hy
      · have h1 := pop_join_fin ⟨z.toNat, p64 hm z1⟩ ⟨U, p64 hm u1⟩
        have h2 : (1 + packM zs (used ||| z.toNat)) * most ≤ max (packM zs used) (1 + packM zs (used ||| z.toNat)) * most := Nat.mul_le_mul_right _ (by omega)
        rw [Nat.add_mul, Nat.one_mul] at h2
        exact Nat.le_trans h1 (Nat.le_trans (Nat.add_le_add z3 u3) h2)
    · rw [if_neg h0]
      obtain ⟨U, u1, u2, u3⟩ := pack_union m hm most zs used hz'
      refine ⟨U, u1, fun y hy => ?_, u3⟩
      rcases List.mem_cons.1 hy with rfl | hy
      · obtain ⟨i, i1, i2⟩ := meet_bit.1 h0
        exact meet_bit.2 ⟨i, i1, by rw [Nat.testBit_or, i2]; rfl⟩
      · exact u2 y hy

theorem small_facts {m : Int} {zs : List Int} (h : smallOk m zs = true) :
    famIn m zs = true ∧ packZ m zs ≤ smallZ m zs ∧ smallZ m zs ≤ packZ m zs * mostF (sizesZ m zs) ∧ 0 ≤ packZ m zs ∧ packZ m zs ≤ 8 ∧ 0 ≤ mostF (sizesZ m zs) ∧ mostF (sizesZ m zs) ≤ 6 := by
  have eS : smallZ m zs = smallF m (lcL m.toNat zs) := by unfold smallZ; rw [if_pos h]
  unfold smallOk at h
  rw [Bool.and_eq_true] at h
  obtain ⟨hf, hne⟩ := h
  have hf' := hf
  obtain ⟨k, rfl, hk1, hk6, hS, hl8⟩ := fam_nat hf
  rw [Int.toNat_natCast] at eS hne
  have hz64 : ∀ z ∈ zs, z.toNat < 64 := fun z hz => p64 hk6 (hS z hz).2
  have eP : packZ (k : Int) zs = ((packM zs 0 : Nat) : Int) := by unfold packZ; rw [hf', if_pos rfl]
  have eZ : sizesZ (k : Int) zs = zs.map pop := by unfold sizesZ; rw [hf', if_pos rfl]
  have hP8 := packM_le zs 0
  have hmax := foldmax_ge (zs.map pop) 0
  have hM0 : 0 ≤ mostF (sizesZ (k : Int) zs) := by rw [eZ]; exact hmax.1
  have hpz : ∀ z ∈ zs, pop z = ((popS z.toNat : Nat) : Int) := fun z hz => by
    have := pop_nat (hz64 z hz)
    rw [Int.toNat_of_nonneg (hS z hz).1] at this
    exact this
  have hM6 : mostF (sizesZ (k : Int) zs) ≤ 6 := by
    rw [eZ]
    refine foldmax_le 6 _ 0 (by decide) fun x hx => ?_
    obtain ⟨z, hz, rfl⟩ := List.mem_map.1 hx
    rw [hpz z hz]
    have := pop_sub2_fin ⟨z.toNat, hz64 z hz⟩ ⟨63, by decide⟩ (by
      show z.toNat &&& 63 = z.toNat
      exact sub_full (k := 6) (hz64 z hz))
    have h6 : popS 63 = 6 := by decide
    simp only [h6] at this
    omega
  -- a cover has at least as many members
  have hge : ∀ x ∈ lcL k zs, ((packM zs 0 : Nat) : Int) ≤ pop x := fun x hx => by
    obtain ⟨t, rfl, ht, htm⟩ := lcL_mem.1 hx
    have hc := ((minB_iff hk6 ht).1 htm).1
    have h1 := pack_cov zs 0 t hz64 (p64 hk6 ht) hc
    have h2 : offS t 0 = t := by unfold offS; rw [Nat.xor_zero]; exact sub_full (k := 6) (p64 hk6 ht)
    rw [h2] at h1
    rw [pop_nat (p64 hk6 ht)]
    omega
  obtain ⟨x0, hx0⟩ : ∃ x, x ∈ lcL k zs := by
    cases e : lcL k zs with
    | nil => rw [e] at hne; simp at hne
    | cons x xs => exact ⟨x, List.mem_cons_self ..⟩
  have hkk : ((packM zs 0 : Nat) : Int) ≤ (k : Int) := by
    obtain ⟨t, rfl, ht, htm⟩ := lcL_mem.1 hx0
    have h1 := hge _ hx0
    rw [pop_nat (p64 hk6 ht)] at h1
    have h2 := pop_le k hk6 t ht
    omega
  refine ⟨hf', by rw [eS, eP]; exact foldmin_ge _ _ _ hkk hge, ?_, by omega, by omega, hM0, hM6⟩
  -- the clubs of a pack are a cover
  obtain ⟨most, hmost⟩ : ∃ most : Nat, mostF (sizesZ (k : Int) zs) = (most : Int) := ⟨(mostF (sizesZ (k : Int) zs)).toNat, by omega⟩
  have hcl : ∀ z ∈ zs, z.toNat < 2 ^ k ∧ z.toNat ≠ 0 ∧ popS z.toNat ≤ most := fun z hz => by
    refine ⟨(hS z hz).2, ?_, ?_⟩
    · obtain ⟨t, rfl, ht, htm⟩ := lcL_mem.1 hx0
      have := covB_iff.1 ((minB_iff hk6 ht).1 htm).1 z hz
      intro e
      rw [e, Nat.zero_and] at this
      exact this rfl
    · have h1 := hmax.2 (pop z) (List.mem_map.2 ⟨z, hz, rfl⟩)
      have h2 : mostF (zs.map pop) = (most : Int) := by rw [← eZ]; exact hmost
      unfold mostF at h2
      rw [h2, hpz z hz] at h1
      omega
  obtain ⟨U, u1, u2, u3⟩ := pack_union k hk6 most zs 0 hcl
  have hcU : covB zs U = true := covB_iff.2 fun z hz => by have := u2 z hz; rw [Nat.zero_or] at this; exact this
  obtain ⟨t, ht1, ht2, ht3⟩ := min_below hk6 U U (Nat.le_refl _) u1 hcU
  have hm : ((t : Nat) : Int) ∈ lcL k zs := lcL_mem.2 ⟨t, rfl, ht2, ht3⟩
  have h1 := (foldmin_le (lcL k zs) (k : Int)).2 _ hm
  rw [pop_nat (p64 hk6 ht2)] at h1
  have h2 := pop_sub2_fin ⟨t, p64 hk6 ht2⟩ ⟨U, p64 hk6 u1⟩ ht1
  have h3 : popS t ≤ packM zs 0 * most := Nat.le_trans h2 u3
  rw [eS, eP, hmost]
  have h4 : ((popS t : Nat) : Int) ≤ ((packM zs 0 * most : Nat) : Int) := by omega
  rw [Int.natCast_mul] at h4
  exact Int.le_trans h1 h4

set_option maxRecDepth 100000 in
set_option maxHeartbeats 8000000 in
theorem walkFnSmall (a : Option Addr) (n cap : Nat) (w : World) (hb : Bys w w.heap.size a n) (hT : Tab w) (hn : n ≤ 1048576) (hc : n ≤ cap) (hc2 : cap ≤ 9223372036854775807) :
    Calls Tryd.prog 3 #[.slice a n cap] w fun e w' => e = .returned (.bool true) ∧ Below w.heap.size w w' := by
  have HBy := Lib.hid hb
  have HT := Lib.hid hT
  clear hb hT
  go_enter Tryd.func3, Tryd.ntmps3
  go_wp2_with fail
  refine (drawCoverSmall_any a n cap w HBy.out hn hc hc2).mono ?_
  rintro e w1 ⟨m, a1, zs, c1, rfl, hl, ho1, hb1⟩
  have F1 := FB.start (m := m) (c := c1) (own_ints ho1)
  have B1 := Lib.hid (hb1.trans ((below1 w1 (.cells #[.int .i64 m, .slice a1 zs.length c1] 25)).mono hb1.size))
  have hln : zs.length ≤ 1048576 := by omega
  have f_f_1 := Lib.hid F1
  clear F1 ho1 hb1
  have f_0 := f_f_1.out.x0
  have f_1 := f_f_1.out.x1
  obtain ⟨A, hA⟩ : ∃ A, A = smallZ m zs := ⟨_, rfl⟩
  have HA := Lib.hid hA
  clear hA
  obtain ⟨O, hO⟩ : ∃ O, O = smallOk m zs := ⟨_, rfl⟩
  have HO := Lib.hid hO
  clear hO
  go_wp2_with fail
  refine (implCoverSmall_any m a1 c1 zs _ f_f_1.out.ints hln).mono ?_
  rw [← HA.out]
  rw [← HO.out]
  rintro e w2 ⟨rfl, hb2⟩
  have B2 := Lib.hid (B1.out.trans (hb2.mono B1.out.size))
  have f_f_2 := Lib.hid (f_f_1.out.step hb2)
  clear hb2 B1 f_f_1
  clear f_0 f_1
  have f_0 := f_f_2.out.x0
  have f_1 := f_f_2.out.x1
  go_wp2_with fail
  refine (specCoverSmall_any m a1 c1 zs _ f_f_2.out.ints hln).mono ?_
  rw [← HA.out]
  rw [← HO.out]
  rintro e w3 ⟨rfl, hb3⟩
  have B3 := Lib.hid (B2.out.trans (hb3.mono B2.out.size))
  have f_f_3 := Lib.hid (f_f_2.out.step hb3)
  clear hb3 B2 f_f_2
  clear f_0 f_1
  have f_0 := f_f_3.out.x0
  have f_1 := f_f_3.out.x1
  cases hd : O
  · clear hd HA HO
    go_wp2
    go_ret
    exact ⟨rfl, B3.out⟩
  · obtain ⟨e1, e2, e3, e4, e5, e6, e7⟩ := small_facts (HO.out.symm.trans hd)
    obtain ⟨K, hK⟩ : ∃ K, K = packZ m zs := ⟨_, rfl⟩
    obtain ⟨qs, hqs⟩ : ∃ qs, qs = sizesZ m zs := ⟨_, rfl⟩
    rw [← hK, ← HA.out] at e2
    rw [← hK, ← hqs, ← HA.out] at e3
    rw [← hK] at e4 e5
    rw [← hqs] at e6 e7
    have hql : qs.length ≤ 1048576 := by rw [hqs]; exact sizesZ_len m zs hln
    have HK := Lib.hid hK
    have HQS := Lib.hid hqs
    have HE1 := Lib.hid e1
    have HE2 := Lib.hid e2
    have HE3 := Lib.hid e3
    have HE4 := Lib.hid e4
    have HE5 := Lib.hid e5
    have HE6 := Lib.hid e6
    have HE7 := Lib.hid e7
    clear hd HA HO hK hqs e1 e2 e3 e4 e5 e6 e7
    go_wp2_with fail
    refine (implCoverPack_any m a1 c1 zs _ f_f_3.out.ints (HT.out.below B3.out HT.out.lt) hln).mono ?_
    rw [HE1.out]
    rw [← HK.out]
    rintro e w4 ⟨rfl, hb4⟩
    have B4 := Lib.hid (B3.out.trans (hb4.mono B3.out.size))
    have f_f_4 := Lib.hid (f_f_3.out.step hb4)
    clear hb4 B3 f_f_3
    clear f_0 f_1
    have f_0 := f_f_4.out.x0
    have f_1 := f_f_4.out.x1
    go_wp2_with fail
    refine (implSizes_any m a1 c1 zs _ f_f_4.out.ints hln).mono ?_
    rw [HE1.out]
    rw [← HQS.out]
    rintro e w5 ⟨a5, c5, rfl, ho5, hb5⟩
    have G5 := Lib.hid (own_ints ho5)
    have B5 := Lib.hid (B4.out.trans (hb5.mono B4.out.size))
    have f_f_5 := Lib.hid (f_f_4.out.step hb5)
    clear ho5 hb5 B4 f_f_4
    clear f_0 f_1
    obtain ⟨Z, hZ⟩ : ∃ Z, Z = qs.length := ⟨_, rfl⟩
    have HZ := Lib.hid hZ
    have hZ1 : Z ≤ 1048576 := by rw [hZ]; exact hql
    rw [← hZ]
    clear hZ hql hl HQS HK
    go_wp2
    go_loopw [12, 13] (fun v i wr => ∃ k : Nat, k ≤ Z ∧ i = .int .i64 (k : Int) ∧ v = .int .i64 (mostF (qs.take k)) ∧ Below w5.heap.size w5 wr) (fun _ i _ => Z - (intOf i).toNat)
    case atStart => exact ⟨0, Nat.zero_le _, rfl, rfl, Below.refl _ _⟩
    case round =>
      obtain ⟨k, hk, rfl, rfl, hB⟩ := hrel
      by_cases hlt : k < Z
      · have hkq : k < qs.length := by rw [← HZ.out]; exact hlt
        have HS := Lib.hid (mostF_take qs k hkq)
        obtain ⟨b1, o1, ha1, hb1, hc1⟩ := G5.out.at_ (k := k) hkq
        subst ha1
        have v1 := (hB.cell (p := ⟨b1, o1 + k, none⟩) hb1).trans hc1
        have HB := Lib.hid hB
        clear hB hc1 hkq
        go_wp2
        go_roundw
        case rel => exact ⟨k + 1, by omega, by go_num, by rw [HS.out], HB.out⟩
        case measure => simp [intOf]; omega
      · obtain rfl : k = Z := by omega
        have HR := Lib.hid (B5.out.trans (hB.mono B5.out.size))
        obtain ⟨M, hM⟩ : ∃ M, M = mostF (qs.take k) := ⟨_, rfl⟩
        have hMq : M = mostF qs := by rw [hM, List.take_of_length_le (by have := HZ.out; omega)]
        have h3 := HE3.out
        have h6 := HE6.out
        have h7 := HE7.out
        rw [← hMq] at h3 h6 h7
        rw [← hM]
        have h2 := HE2.out
        have h4 := HE4.out
        have h5 := HE5.out
        have h8 : K * M ≤ 8 * 6 := by
          have a1 : K * M ≤ 8 * M := Int.mul_le_mul_of_nonneg_right h5 h6
          omega
        have h9 : 0 ≤ K * M := Int.mul_nonneg h4 h6
        have hw : IntKind.i64.wrap (K * M) = K * M := by rw [IntKind.wrap_i64]; omega
        clear hB hM hMq HE1 HE2 HE3 HE4 HE5 HE6 HE7 HZ
        go_wp2
        go_ret
        exact ⟨rfl, HR.out⟩

end Go.Proofs.YtphddemilibooaaDoor
