/- It is proved that the call of the law FnSmall returns true; conditions: those of each statement. -/
import Derived.RowKit
import Derived.Laws.CopyRow
import Derived.Lib.SlBuf
import Derived.Deep.QuietTactic
import Derived.RangeFuncNested
import Derived.RangeFuncBound
import Derived.RangeFuncCalls
import Derived.RangeFuncLeaves
import Derived.RangeFuncBox
import Derived.RangeFuncWrites
import Derived.StillTailTactics
import Derived.Maps.OwnIn
import Derived.Maps.Ext
import Derived.DeepKeys4
import Derived.MapKept
import Derived.Test.YtcmpjegfikdofaaDoorRows
import Derived.WalkKit
import Derived.WalkSpells
import Derived.ProofKit
import Derived.OpenShut
import Derived.ShutString
import Derived.ChangeOld
import Derived.Below
import Derived.Deep.RegionHeld3
import Derived.BigQuiet
import Derived.Lib.Hide
import Derived.Lib.SmallJoins
import Derived.Outline
import Derived.Laws.MakeOwn
import Derived.Laws.OwnMore
import Derived.IntWalk
import Derived.Deep.RegionLaw
import Derived.Deep.AppendLies
import Derived.Deep.RegionWith
import Derived.Lib.AppendZeros
import Derived.Maps.AppendAt
import Derived.OwnWalk
import Derived.Lib.SlicesCompact
import Derived.Lib.OwnBridge
import Derived.OrdersIn
import Derived.TacticsIn
import Derived.Shelf.Sort.Plain
import Derived.Shelf.Slices.In.SortNone
import Derived.Shelf.Slices.CompactI
import Derived.Ground.Names2Prog
import Derived.Lib.SliceRun
import Derived.Shelf.Abstract
import Derived.Shelf.RegionOpen
import Derived.OwnWalkIn
import Derived.TacticsInMore
import Derived.LoopNIn
import Derived.LoopIn
import Derived.StillTail
import Derived.StillTactics
import Derived.Shelf.Spec.TrailingZeros
import Derived.Test.YtcmpjegfikdofaaDoorMrae
import Derived.Test.YtcmpjegfikdofaaDoorMrac
import Derived.Test.YtcmpjegfikdofaaDoorDb
import Derived.Test.YtcmpjegfikdofaaDoorMraf
import Derived.Test.YtcmpjegfikdofaaDoorMrag
import Derived.Test.YtcmpjegfikdofaaDoorKa
import Derived.Test.YtcmpjegfikdofaaDoorMrav
import Derived.Test.YtcmpjegfikdofaaDoorMraz
import Derived.Test.YtcmpjegfikdofaaDoorMrbe
import Derived.Test.YtcmpjegfikdofaaDoorMrblxFnGree
import Derived.Test.YtcmpjegfikdofaaDoorMrbc
import Derived.Test.YtcmpjegfikdofaaDoorMrao
import Derived.Test.YtcmpjegfikdofaaDoorKc
import Derived.Test.YtcmpjegfikdofaaDoorMrap
import Derived.Test.YtcmpjegfikdofaaDoorMraa
namespace Go.Proofs.YtcmpjegfikdofaaDoor
open Go.RowKit

/-- The greatest number. -/
def mostF (xs : List Int) : Int := xs.foldl (fun b x => max b x) 0

theorem mostF_snoc (xs : List Int) (x : Int) : mostF (xs ++ [x]) = max (mostF xs) x := by simp [mostF]
theorem mostF_take (xs : List Int) (k : Nat) (hk : k < xs.length) : mostF (xs.take (k + 1)) = max (mostF (xs.take k)) (xs[k]?.getD 0) := by
  rw [List.take_succ_eq_append_getElem hk, mostF_snoc, List.getElem?_eq_getElem hk]; rfl

theorem foldmax_ge : ∀ (xs : List Int) (b : Int), b ≤ xs.foldl (fun b x => max b x) b ∧ ∀ x ∈ xs, x ≤ xs.foldl (fun b x => max b x) b
  | [], b => ⟨Int.le_refl _, by simp⟩
  | y :: ys, b => by
    obtain ⟨h1, h2⟩ := foldmax_ge ys (max b y)
    rw [List.foldl_cons]
    refine ⟨by omega, fun x hx => ?_⟩
    rcases List.mem_cons.1 hx with rfl | hx
    · omega
    · exact h2 x hx

theorem foldmax_le (N : Int) : ∀ (xs : List Int) (b : Int), b ≤ N → (∀ x ∈ xs, x ≤ N) → xs.foldl (fun b x => max b x) b ≤ N
  | [], b, h, _ => h
  | y :: ys, b, h, h2 => by
    have := h2 y (List.mem_cons_self ..)
    exact foldmax_le N ys (max b y) (by omega) fun x hx => h2 x (List.mem_cons_of_mem _ hx)

theorem foldmin_le : ∀ (xs : List Int) (b : Int), smallF b xs ≤ b ∧ ∀ x ∈ xs, smallF b xs ≤ pop x
  | [], b => ⟨Int.le_refl _, by simp⟩
  | y :: ys, b => by
    obtain ⟨h1, h2⟩ := foldmin_le ys (min b (pop y))
    have e : smallF b (y :: ys) = smallF (min b (pop y)) ys := rfl
    rw [e]
    refine ⟨by omega, fun x hx => ?_⟩
    rcases List.mem_cons.1 hx with rfl | hx
    · omega
    · exact h2 x hx

theorem foldmin_ge (N : Int) : ∀ (xs : List Int) (b : Int), N ≤ b → (∀ x ∈ xs, N ≤ pop x) → N ≤ smallF b xs
  | [], b, h, _ => h
  | y :: ys, b, h, h2 => by
    have := h2 y (List.mem_cons_self ..)
    have e : smallF b (y :: ys) = smallF (min b (pop y)) ys := rfl
    rw [e]
    exact foldmin_ge N ys (min b (pop y)) (by omega) fun x hx => h2 x (List.mem_cons_of_mem _ hx)

/-- The members of a set that are not in another one. -/
def offS (t u : Nat) : Nat := t &&& (63 ^^^ u)

theorem offS_lt {t u : Nat} (ht : t < 64) : offS t u < 64 := Nat.lt_of_le_of_lt Nat.and_le_left ht
theorem pop_nat_fin : ∀ s : Fin 64, pop (s.val : Int) = ((popS s.val : Nat) : Int) := by decide +kernel
theorem pop_nat {s : Nat} (h : s < 64) : pop (s : Int) = ((popS s : Nat) : Int) := pop_nat_fin ⟨s, h⟩
set_option maxRecDepth 100000 in
theorem pop_lt_fin : ∀ s t : Fin 64, s.val ||| t.val = t.val → s.val ≠ t.val → popS s.val < popS t.val := by decide +kernel

set_option maxRecDepth 100000 in
theorem pop_sub2_fin : ∀ s t : Fin 64, s.val &&& t.val = s.val → popS s.val ≤ popS t.val := by decide +kernel

set_option maxRecDepth 100000 in
theorem pop_join_fin : ∀ s t : Fin 64, popS (s.val ||| t.val) ≤ popS s.val + popS t.val := by decide +kernel

theorem bit63 (i : Nat) (h : i < 6) : (63 : Nat).testBit i = true := by
  rcases (show i = 0 ∨ i = 1 ∨ i = 2 ∨ i = 3 ∨ i = 4 ∨ i = 5 by omega) with rfl | rfl | rfl | rfl | rfl | rfl <;> rfl

theorem pack_cov : ∀ (zs : List Int) (used t : Nat), (∀ z ∈ zs, z.toNat < 64) → t < 64 → covB zs t = true → packM zs used ≤ popS (offS t used)
  | [], _, _, _, _, _ => Nat.zero_le _
  | z :: zs, used, t, hz, ht, hc => by
    have hz' : ∀ y ∈ zs, y.toNat < 64 := fun y hy => hz y (List.mem_cons_of_mem _ hy)
    have hc' : covB zs t = true := covB_iff.2 fun y hy => covB_iff.1 hc y (List.mem_cons_of_mem _ hy)
    have h1 := pack_cov zs used t hz' ht hc'
    have h2 := pack_cov zs (used ||| z.toNat) t hz' ht hc'
    rw [packM]
    split
    · rename_i h0
      have hne := covB_iff.1 hc z (List.mem_cons_self ..)
      obtain ⟨i, i1, i2⟩ := meet_bit.1 hne
      have hi6 : i < 6 := Nat.lt_of_not_le fun h => by
        rw [Nat.testBit_lt_two_pow (Nat.lt_of_lt_of_le ht (Nat.pow_le_pow_right (n := 2) (i := 6) (by decide) h))] at i2
        cases i2
      have hu : used.testBit i = false := by
        have := congrArg (fun x => Nat.testBit x i) h0
        simpa [Nat.testBit_and, i1] using this
      have hlt : popS (offS t (used ||| z.toNat)) < popS (offS t used) := by
        refine pop_lt_fin ⟨_, offS_lt ht⟩ ⟨_, offS_lt ht⟩ ?_ ?_
        · show offS t (used ||| z.toNat) ||| offS t used = offS t used
          apply Nat.eq_of_testBit_eq
          intro j
          simp only [offS, Nat.testBit_or, Nat.testBit_and, Nat.testBit_xor]
          by_cases hj : j < 6
          · rw [bit63 j hj]
            cases t.testBit j <;> cases used.testBit j <;> cases z.toNat.testBit j <;> rfl
          · rw [Nat.testBit_lt_two_pow (Nat.lt_of_lt_of_le ht (Nat.pow_le_pow_right (n := 2) (i := 6) (by decide) (by omega)))]
            rfl
        · intro e
          have := congrArg (fun x => Nat.testBit x i) e
          simp [offS, Nat.testBit_or, Nat.testBit_and, Nat.testBit_xor, i1, i2, hu, bit63 i hi6] at this
      omega
    · exact h1

theorem pack_union (m : Nat) (hm : m ≤ 6) (most : Nat) : ∀ (zs : List Int) (used : Nat), (∀ z ∈ zs, z.toNat < 2 ^ m ∧ z.toNat ≠ 0 ∧ popS z.toNat ≤ most) → ∃ U : Nat, U < 2 ^ m ∧ (∀ z ∈ zs, z.toNat &&& (used ||| U) ≠ 0) ∧ popS U ≤ packM zs used * most
  | [], _, _ => ⟨0, Nat.two_pow_pos m, by simp, by rw [show popS 0 = 0 by decide]; exact Nat.zero_le _⟩
  | z :: zs, used, hz => by
    have hz' : ∀ y ∈ zs, y.toNat < 2 ^ m ∧ y.toNat ≠ 0 ∧ popS y.toNat ≤ most := fun y hy => hz y (List.mem_cons_of_mem _ hy)
    obtain ⟨z1, z2, z3⟩ := hz z (List.mem_cons_self ..)
    rw [packM]
    by_cases h0 : z.toNat &&& used = 0
    · rw [if_pos h0]
      obtain ⟨U, u1, u2, u3⟩ := pack_union m hm most zs (used ||| z.toNat) hz'
      refine ⟨z.toNat ||| U, Nat.or_lt_two_pow z1 u1, fun y hy => ?_, ?_⟩
      · rcases List.mem_cons.1 hy with rfl | hy
        · intro e
          apply z2
          apply Nat.eq_of_testBit_eq
          intro j
          have := congrArg (fun x => Nat.testBit x j) e
          simp only [Nat.testBit_and, Nat.testBit_or, Nat.zero_testBit] at this
          rw [Nat.zero_testBit]
          cases h : y.toNat.testBit j
          · rfl
          · rw [h] at this; simp at this
        · rw [← Nat.or_assoc]; exact u2 y hy
      · have h1 := pop_join_fin ⟨z.toNat, p64 hm z1⟩ ⟨U, p64 hm u1⟩
        have h2 : (1 + packM zs (used ||| z.toNat)) * most ≤ max (packM zs used) (1 + packM zs (used ||| z.toNat)) * most := Nat.mul_le_mul_right _ (by omega)
        rw [Nat.add_mul, Nat.one_mul] at h2
        exact Nat.le_trans h1 (Nat.le_trans (Nat.add_le_add z3 u3) h2)
    · rw [if_neg h0]
      obtain ⟨U, u1, u2, u3⟩ := pack_union m hm most zs used hz'
      refine ⟨U, u1, fun y hy => ?_, u3⟩
      rcases List.mem_cons.1 hy with rfl | hy
      · obtain ⟨i, i1, i2⟩ := meet_bit.1 h0
        exact meet_bit.2 ⟨i, i1, by rw [Nat.testBit_or, i2]; rfl⟩
      · exact u2 y hy

theorem small_facts {m : Int} {zs : List Int} (h : smallOk m zs = true) :
    famIn m zs = true ∧ packZ m zs ≤ smallZ m zs ∧ smallZ m zs ≤ packZ m zs * mostF (sizesZ m zs) ∧ 0 ≤ packZ m zs ∧ packZ m zs ≤ 8 ∧ 0 ≤ mostF (sizesZ m zs) ∧ mostF (sizesZ m zs) ≤ 6 := by
  have eS : smallZ m zs = smallF m (lcL m.toNat zs) := by unfold smallZ; rw [if_pos h]
  unfold smallOk at h
  rw [Bool.and_eq_true] at h
  obtain ⟨hf, hne⟩ := h
  have hf' := hf
  obtain ⟨k, rfl, hk1, hk6, hS, hl8⟩ := fam_nat hf
  rw [Int.toNat_natCast] at eS hne
  have hz64 : ∀ z ∈ zs, z.toNat < 64 := fun z hz => p64 hk6 (hS z hz).2
  have eP : packZ (k : Int) zs = ((packM zs 0 : Nat) : Int) := by unfold packZ; rw [hf', if_pos rfl]
  have eZ : sizesZ (k : Int) zs = zs.map pop := by unfold sizesZ; rw [hf', if_pos rfl]
  have hP8 := packM_le zs 0
  have hmax := foldmax_ge (zs.map pop) 0
  have hM0 : 0 ≤ mostF (sizesZ (k : Int) zs) := by rw [eZ]; exact hmax.1
  have hpz : ∀ z ∈ zs, pop z = ((popS z.toNat : Nat) : Int) := fun z hz => by
    have := pop_nat (hz64 z hz)
    rw [Int.toNat_of_nonneg (hS z hz).1] at this
    exact this
  have hM6 : mostF (sizesZ (k : Int) zs) ≤ 6 := by
    rw [eZ]
    refine foldmax_le 6 _ 0 (by decide) fun x hx => ?_
    obtain ⟨z, hz, rfl⟩ := List.mem_map.1 hx
    rw [hpz z hz]
    have := pop_sub2_fin ⟨z.toNat, hz64 z hz⟩ ⟨63, by decide⟩ (by
      show z.toNat &&& 63 = z.toNat
      exact sub_full (k := 6) (hz64 z hz))
    have h6 : popS 63 = 6 := by decide
    simp only [h6] at this
    omega
  -- a cover has at least as many members
  have hge : ∀ x ∈ lcL k zs, ((packM zs 0 : Nat) : Int) ≤ pop x := fun x hx => by
    obtain ⟨t, rfl, ht, htm⟩ := lcL_mem.1 hx
    have hc := ((minB_iff hk6 ht).1 htm).1
    have h1 := pack_cov zs 0 t hz64 (p64 hk6 ht) hc
    have h2 : offS t 0 = t := by unfold offS; rw [Nat.xor_zero]; exact sub_full (k := 6) (p64 hk6 ht)
    rw [h2] at h1
    rw [pop_nat (p64 hk6 ht)]
    omega
  obtain ⟨x0, hx0⟩ : ∃ x, x ∈ lcL k zs := by
    cases e : lcL k zs with
    | nil => rw [e] at hne; simp at hne
    | cons x xs => exact ⟨x, List.mem_cons_self ..⟩
  have hkk : ((packM zs 0 : Nat) : Int) ≤ (k : Int) := by
    obtain ⟨t, rfl, ht, htm⟩ := lcL_mem.1 hx0
    have h1 := hge _ hx0
    rw [pop_nat (p64 hk6 ht)] at h1
    have h2 := pop_le k hk6 t ht
    omega
  refine ⟨hf', by rw [eS, eP]; exact foldmin_ge _ _ _ hkk hge, ?_, by omega, by omega, hM0, hM6⟩
  -- the clubs of a pack are a cover
  obtain ⟨most, hmost⟩ : ∃ most : Nat, mostF (sizesZ (k : Int) zs) = (most : Int) := ⟨(mostF (sizesZ (k : Int) zs)).toNat, by omega⟩
  have hcl : ∀ z ∈ zs, z.toNat < 2 ^ k ∧ z.toNat ≠ 0 ∧ popS z.toNat ≤ most := fun z hz => by
    refine ⟨(hS z hz).2, ?_, ?_⟩
    · obtain ⟨t, rfl, ht, htm⟩ := lcL_mem.1 hx0
      have := covB_iff.1 ((minB_iff hk6 ht).1 htm).1 z hz
      intro e
      rw [e, Nat.zero_and] at this
      exact this rfl
    · have h1 := hmax.2 (pop z) (List.mem_map.2 ⟨z, hz, rfl⟩)
      have h2 : mostF (zs.map pop) = (most : Int) := by rw [← eZ]; exact hmost
      unfold mostF at h2
      rw [h2, hpz z hz] at h1
      omega
  obtain ⟨U, u1, u2, u3⟩ := pack_union k hk6 most zs 0 hcl
  have hcU : covB zs U = true := covB_iff.2 fun z hz => by have := u2 z hz; rw [Nat.zero_or] at this; exact this
  obtain ⟨t, ht1, ht2, ht3⟩ := min_below hk6 U U (Nat.le_refl _) u1 hcU
  have hm : ((t : Nat) : Int) ∈ lcL k zs := lcL_mem.2 ⟨t, rfl, ht2, ht3⟩
  have h1 := (foldmin_le (lcL k zs) (k : Int)).2 _ hm
  rw [pop_nat (p64 hk6 ht2)] at h1
  have h2 := pop_sub2_fin ⟨t, p64 hk6 ht2⟩ ⟨U, p64 hk6 u1⟩ ht1
  have h3 : popS t ≤ packM zs 0 * most := Nat.le_trans h2 u3
  rw [eS, eP, hmost]
  have h4 : ((popS t : Nat) : Int) ≤ ((packM zs 0 * most : Nat) : Int) := by omega
  rw [Int.natCast_mul] at h4
  exact Int.le_trans h1 h4

set_option maxRecDepth 100000 in
set_option maxHeartbeats 8000000 in
theorem walkFnSmall (a : Option Addr) (n cap : Nat) (w : World) (hb : Bys w w.heap.size a n) (hT : Tab w) (hn : n ≤ 1048576) (hc : n ≤ cap) (hc2 : cap ≤ 9223372036854775807) :
    Calls Tryd.prog 6 #[.slice a n cap] w fun e w' => e = .returned (.bool true) ∧ Below w.heap.size w w' := by
  have HBy := Lib.hid hb
  have HT := Lib.hid hT
  clear hb hT
  go_enter Tryd.func6, Tryd.ntmps6
  go_wp2_with fail
  refine (drawCoverSmall_any a n cap w HBy.out hn hc hc2).mono ?_
  rintro e w1 ⟨m, a1, zs, c1, rfl, hl, ho1, hb1⟩
  have F1 := FB.start (m := m) (c := c1) (own_ints ho1)
  have B1 := Lib.hid (hb1.trans ((below1 w1 (.cells #[.int .i64 m, .slice a1 zs.length c1] 25)).mono hb1.size))
  have hln : zs.length ≤ 1048576 := by omega
  have f_f_1 := Lib.hid F1
  clear F1 ho1 hb1
  have f_0 := f_f_1.out.x0
  have f_1 := f_f_1.out.x1
  obtain ⟨A, hA⟩ : ∃ A, A = smallZ m zs := ⟨_, rfl⟩
  have HA := Lib.hid hA
  clear hA
  obtain ⟨O, hO⟩ : ∃ O, O = smallOk m zs := ⟨_, rfl⟩
  have HO := Lib.hid hO
  clear hO
  go_wp2_with fail
  refine (implCoverSmall_any m a1 c1 zs _ f_f_1.out.ints hln).mono ?_
  rw [← HA.out]
  rw [← HO.out]
  rintro e w2 ⟨rfl, hb2⟩
  have B2 := Lib.hid (B1.out.trans (hb2.mono B1.out.size))
  have f_f_2 := Lib.hid (f_f_1.out.step hb2)
  clear hb2 B1 f_f_1
  clear f_0 f_1
  have f_0 := f_f_2.out.x0
  have f_1 := f_f_2.out.x1
  go_wp2_with fail
  refine (specCoverSmall_any m a1 c1 zs _ f_f_2.out.ints hln).mono ?_
  rw [← HA.out]
  rw [← HO.out]
  rintro e w3 ⟨rfl, hb3⟩
  have B3 := Lib.hid (B2.out.trans (hb3.mono B2.out.size))
  have f_f_3 := Lib.hid (f_f_2.out.step hb3)
  clear hb3 B2 f_f_2
  clear f_0 f_1
  have f_0 := f_f_3.out.x0
  have f_1 := f_f_3.out.x1
  cases hd : O
  · clear hd HA HO
    go_wp2
    go_ret
    exact ⟨rfl, B3.out⟩
  · obtain ⟨e1, e2, e3, e4, e5, e6, e7⟩ := small_facts (HO.out.symm.trans hd)
    obtain ⟨K, hK⟩ : ∃ K, K = packZ m zs := ⟨_, rfl⟩
    obtain ⟨qs, hqs⟩ : ∃ qs, qs = sizesZ m zs := ⟨_, rfl⟩
    rw [← hK, ← HA.out] at e2
    rw [← hK, ← hqs, ← HA.out] at e3
    rw [← hK] at e4 e5
    rw [← hqs] at e6 e7
    have hql : qs.length ≤ 1048576 := by rw [hqs]; exact sizesZ_len m zs hln
    have HK := Lib.hid hK
    have HQS := Lib.hid hqs
    have HE1 := Lib.hid e1
    have HE2 := Lib.hid e2
    have HE3 := Lib.hid e3
    have HE4 := Lib.hid e4
    have HE5 := Lib.hid e5
    have HE6 := Lib.hid e6
    have HE7 := Lib.hid e7
    clear hd HA HO hK hqs e1 e2 e3 e4 e5 e6 e7
    go_wp2_with fail
    refine (implCoverPack_any m a1 c1 zs _ f_f_3.out.ints (HT.out.below B3.out HT.out.lt) hln).mono ?_
    rw [HE1.out]
    rw [← HK.out]
    rintro e w4 ⟨rfl, hb4⟩
    have B4 := Lib.hid (B3.out.trans (hb4.mono B3.out.size))
    have f_f_4 := Lib.hid (f_f_3.out.step hb4)
    clear hb4 B3 f_f_3
    clear f_0 f_1
    have f_0 := f_f_4.out.x0
    have f_1 := f_f_4.out.x1
    go_wp2_with fail
    refine (implSizes_any m a1 c1 zs _ f_f_4.out.ints hln).mono ?_
    rw [HE1.out]
    rw [← HQS.out]
    rintro e w5 ⟨a5, c5, rfl, ho5, hb5⟩
    have G5 := Lib.hid (own_ints ho5)
    have B5 := Lib.hid (B4.out.trans (hb5.mono B4.out.size))
    have f_f_5 := Lib.hid (f_f_4.out.step hb5)
    clear ho5 hb5 B4 f_f_4
    clear f_0 f_1
    obtain ⟨Z, hZ⟩ : ∃ Z, Z = qs.length := ⟨_, rfl⟩
    have HZ := Lib.hid hZ
    have hZ1 : Z ≤ 1048576 := by rw [hZ]; exact hql
    rw [← hZ]
    clear hZ hql hl HQS HK
    go_wp2
    go_loopw [12, 13] (fun v i wr => ∃ k : Nat, k ≤ Z ∧ i = .int .i64 (k : Int) ∧ v = .int .i64 (mostF (qs.take k)) ∧ Below w5.heap.size w5 wr) (fun _ i _ => Z - (intOf i).toNat)
    case atStart => exact ⟨0, Nat.zero_le _, rfl, rfl, Below.refl _ _⟩
    case round =>
      obtain ⟨k, hk, rfl, rfl, hB⟩ := hrel
      by_cases hlt : k < Z
      · have hkq : k < qs.length := by rw [← HZ.out]; exact hlt
        have HS := Lib.hid (mostF_take qs k hkq)
        obtain ⟨b1, o1, ha1, hb1, hc1⟩ := G5.out.at_ (k := k) hkq
        subst ha1
        have v1 := (hB.cell (p := ⟨b1, o1 + k, none⟩) hb1).trans hc1
        have HB := Lib.hid hB
        clear hB hc1 hkq
        go_wp2
        go_roundw
        case rel => exact ⟨k + 1, by omega, by go_num, by rw [HS.out], HB.out⟩
        case measure => simp [intOf]; omega
      · obtain rfl : k = Z := by omega
        have HR := Lib.hid (B5.out.trans (hB.mono B5.out.size))
        obtain ⟨M, hM⟩ : ∃ M, M = mostF (qs.take k) := ⟨_, rfl⟩
        have hMq : M = mostF qs := by rw [hM, List.take_of_length_le (by have := HZ.out; omega)]
        have h3 := HE3.out
        have h6 := HE6.out
        have h7 := HE7.out
        rw [← hMq] at h3 h6 h7
        rw [← hM]
        have h2 := HE2.out
        have h4 := HE4.out
        have h5 := HE5.out
        have h8 : K * M ≤ 8 * 6 := by
          have a1 : K * M ≤ 8 * M := Int.mul_le_mul_of_nonneg_right h5 h6
          omega
        have h9 : 0 ≤ K * M := Int.mul_nonneg h4 h6
        have hw : IntKind.i64.wrap (K * M) = K * M := by rw [IntKind.wrap_i64]; omega
        clear hB hM hMq HE1 HE2 HE3 HE4 HE5 HE6 HE7 HZ
        go_wp2
        go_ret
        exact ⟨rfl, HR.out⟩

end Go.Proofs.YtcmpjegfikdofaaDoor

/- It is proved how the greedy cover is told by the numbers of clubs that are missed; conditions: those of each statement. -/
namespace Go.Proofs.YtcmpjegfikdofaaDoor
open Go.RowKit

/-- In how many clubs without a member in a set a member is. -/
def dgN (zs : List Int) (s v : Nat) : Nat := ((missL zs s).filter fun z => z.toNat.testBit v).length

theorem dgN_le (zs : List Int) (s v : Nat) : dgN zs s v ≤ zs.length := Nat.le_trans (List.length_filter_le _ _) (missL_len zs s)
/-- The first place of the greatest number, and this. -/
def bestP (d : Nat → Nat) : Nat → Nat × Nat
  | 0 => (0, 0)
  | j + 1 => if (bestP d j).2 < d j then (j, d j) else bestP d j

theorem bestP_ge (d : Nat → Nat) : ∀ j v, v < j → d v ≤ (bestP d j).2
  | 0, v, h => by omega
  | j + 1, v, h => by
    rw [bestP]
    split
    · rename_i h1
      by_cases e : v = j
      · subst e; exact Nat.le_refl _
      · have := bestP_ge d j v (by omega); simp only; omega
    · rename_i h1
      by_cases e : v = j
      · subst e; omega
      · exact bestP_ge d j v (by omega)

theorem bestP_is (d : Nat → Nat) : ∀ j, (bestP d j).2 = 0 ∧ (bestP d j).1 = 0 ∨ ((bestP d j).1 < j ∧ d (bestP d j).1 = (bestP d j).2 ∧ ∀ i, i < (bestP d j).1 → d i < (bestP d j).2)
  | 0 => .inl ⟨rfl, rfl⟩
  | j + 1 => by
    rw [bestP]
    split
    · rename_i h1
      refine .inr ⟨by simp, rfl, fun i hi => ?_⟩
      have := bestP_ge d j i hi
      simp only; omega
    · rcases bestP_is d j with h | ⟨h1, h2, h3⟩
      · exact .inl h
      · exact .inr ⟨by omega, h2, h3⟩

theorem bestP_small (d : Nat → Nat) (N : Nat) (h : ∀ v, d v ≤ N) : ∀ j, (bestP d j).2 ≤ N ∧ (bestP d j).1 ≤ j
  | 0 => ⟨Nat.zero_le _, Nat.le_refl _⟩
  | j + 1 => by
    rw [bestP]
    have := bestP_small d N h j
    split
    · exact ⟨h j, by simp⟩
    · omega

theorem bestP_uniq {d : Nat → Nat} {m r : Nat} (hr : r < m) (h1 : 0 < d r) (h2 : ∀ v, v < m → d v ≤ d r) (h3 : ∀ v, v < r → d v ≠ d r) : (bestP d m).1 = r := by
  have hge := bestP_ge d m r hr
  rcases bestP_is d m with ⟨h, -⟩ | ⟨k1, k2, k3⟩
  · omega
  · have := h2 _ k1
    rcases Nat.lt_trichotomy (bestP d m).1 r with h | h | h
    · exact absurd (show d (bestP d m).1 = d r by omega) (h3 _ h)
    · exact h
    · have := k3 r h; omega

/-- The next set, and the greedy cover. -/
def nxG (m : Nat) (zs : List Int) (s : Nat) : Nat := s ||| 2 ^ (bestP (dgN zs s) m).1

def grG (m : Nat) (zs : List Int) : Nat → Nat → Nat
  | 0, s => s
  | n + 1, s => if covB zs s then s else grG m zs n (nxG m zs s)

theorem grG_cov {m : Nat} {zs : List Int} {s : Nat} (h : covB zs s = true) (n : Nat) : grG m zs n s = s := by
  cases n
  · rfl
  · rw [grG, if_pos h]

theorem grG_step {m : Nat} {zs : List Int} {s : Nat} (h : covB zs s = false) (n : Nat) : grG m zs (n + 1) s = grG m zs n (nxG m zs s) := by
  rw [grG, h]; rfl

theorem miss_or (zs : List Int) (s b : Nat) : (missL zs (s ||| 2 ^ b)).length + dgN zs s b = (missL zs s).length := by
  induction zs with
  | nil => rfl
  | cons z zs ih =>
    have hand : (z.toNat &&& (s ||| 2 ^ b) == 0) = ((z.toNat &&& s == 0) && !(z.toNat.testBit b)) := by
      rw [Bool.eq_iff_iff, beq_iff_eq, Bool.and_eq_true, beq_iff_eq]
      constructor
      · intro h
        refine ⟨Nat.eq_of_testBit_eq fun i => ?_, ?_⟩
        · have := congrArg (fun t => t.testBit i) h
          simp only [Nat.testBit_and, Nat.testBit_or, Nat.zero_testBit] at this ⊢
          cases hz : z.toNat.testBit i
          · rfl
          · rw [hz] at this; simp at this; simp [this.1]
        · have := congrArg (fun t => t.testBit b) h
          simp only [Nat.testBit_and, Nat.testBit_or, Nat.zero_testBit, Nat.testBit_two_pow_self] at this
          simpa using this
      · rintro ⟨h1, h2⟩
        refine Nat.eq_of_testBit_eq fun i => ?_
        have := congrArg (fun t => t.testBit i) h1
        simp only [Nat.testBit_and, Nat.testBit_or, Nat.zero_testBit, Nat.testBit_two_pow] at this ⊢
        by_cases e : b = i
        · subst e; simp at h2; simp [h2]
        · cases hz : z.toNat.testBit i
          · simp
          · rw [hz] at this; simp at this; simp [this, e]
    unfold dgN missL at ih ⊢
    simp only [List.filter_cons, hand]
    cases h1 : (z.toNat &&& s == 0)
    · simpa using ih
    · cases h2 : z.toNat.testBit b
      · simp [h2, -List.filter_filter]; omega
      · simp [h2, -List.filter_filter]; omega

theorem miss_cov {zs : List Int} {s : Nat} (h : covB zs s = false) : ∃ z ∈ zs, z.toNat &&& s = 0 := by
  refine Classical.byContradiction fun hno => ?_
  have : covB zs s = true := covB_iff.2 fun z hz e => hno ⟨z, hz, e⟩
  rw [h] at this; cases this

/-- While it is no cover, some member helps. -/
theorem greedy_step {m : Nat} {zs : List Int} (hz : ∀ z ∈ zs, 0 < z.toNat ∧ z.toNat < 2 ^ m) {s : Nat} (hs : s < 2 ^ m) (hc : covB zs s = false) :
    (bestP (dgN zs s) m).1 < m ∧ 1 ≤ dgN zs s (bestP (dgN zs s) m).1 ∧ (missL zs (nxG m zs s)).length + 1 ≤ (missL zs s).length ∧ nxG m zs s < 2 ^ m := by
  obtain ⟨z, hz1, hz2⟩ := miss_cov hc
  obtain ⟨h0, hlt⟩ := hz z hz1
  obtain ⟨v, hv⟩ := Nat.exists_testBit_of_ne_zero (show z.toNat ≠ 0 by omega)
  have hvm : v < m := Classical.byContradiction fun h => by
    have : z.toNat.testBit v = false := Nat.testBit_lt_two_pow (Nat.lt_of_lt_of_le hlt (Nat.pow_le_pow_right (by decide) (by omega)))
    rw [this] at hv; cases hv
  have hd : 1 ≤ dgN zs s v := by
    unfold dgN
    refine List.length_pos_of_mem (a := z) ?_
    rw [List.mem_filter]
    refine ⟨?_, hv⟩
    unfold missL
    rw [List.mem_filter, beq_iff_eq]
    exact ⟨hz1, hz2⟩
  have hge := bestP_ge (dgN zs s) m v hvm
  rcases bestP_is (dgN zs s) m with ⟨h, -⟩ | ⟨k1, k2, k3⟩
  · omega
  · have := miss_or zs s (bestP (dgN zs s) m).1
    refine ⟨k1, by omega, by unfold nxG; omega, ?_⟩
    unfold nxG
    exact Nat.or_lt_two_pow hs (Nat.pow_lt_pow_right (by decide) k1)

theorem greedy_end {m : Nat} {zs : List Int} (hz : ∀ z ∈ zs, 0 < z.toNat ∧ z.toNat < 2 ^ m) : ∀ (n s : Nat), s < 2 ^ m → (missL zs s).length ≤ n → covB zs (grG m zs n s) = true ∧ grG m zs n s < 2 ^ m
  | 0, s, hs, hn => by
    refine ⟨?_, hs⟩
    rw [grG, ← missL_cov]
    simpa using hn
  | n + 1, s, hs, hn => by
    cases hc : covB zs s
    · rw [grG_step hc]
      obtain ⟨-, -, h3, h4⟩ := greedy_step hz hs hc
      exact greedy_end hz n _ h4 (by omega)
    · rw [grG_cov hc]
      exact ⟨hc, hs⟩

set_option maxRecDepth 100000 in
theorem memcnt_fin : ∀ s : Fin 64, ∀ v : Fin 6, (mem s.val).count v.val = if s.val.testBit v.val then 1 else 0 := by decide +kernel

theorem allMem_cnt (v : Nat) (hv : v < 6) : ∀ L : List Int, (∀ z ∈ L, z.toNat < 64) → (allMem L).count v = (L.filter fun z => z.toNat.testBit v).length
  | [], _ => rfl
  | z :: L, h => by
    have ih := allMem_cnt v hv L fun y hy => h y (List.mem_cons_of_mem _ hy)
    have h1 := memcnt_fin ⟨z.toNat, h z (List.mem_cons_self ..)⟩ ⟨v, hv⟩
    rw [show allMem (z :: L) = mem z.toNat ++ allMem L from rfl, List.count_append, ih, h1, List.filter_cons]
    simp only
    cases z.toNat.testBit v <;> simp <;> omega

theorem famIn_filter {m : Int} {zs : List Int} (p : Int → Bool) (h : famIn m zs = true) : famIn m (zs.filter p) = true := by
  unfold famIn at h ⊢
  rw [Bool.and_eq_true, Bool.and_eq_true, decide_eq_true_eq, List.all_eq_true] at h ⊢
  exact ⟨h.1, Nat.le_trans (List.length_filter_le _ _) h.2.1, fun z hz => h.2.2 z (List.mem_filter.1 hz).1⟩

/-- The greedy cover of a family without empty clubs. -/
def greIn (m : Int) (zs : List Int) : Bool := famIn m zs && !(zs.any fun z => z == 0)

def greZ (m : Int) (zs : List Int) : Int := if greIn m zs then ((grG m.toNat zs zs.length 0 : Nat) : Int) else 0
theorem gre_sets {k : Nat} {zs : List Int} (hz : Sets k zs) (h : (zs.any fun z => z == 0) = false) : ∀ z ∈ zs, 0 < z.toNat ∧ z.toNat < 2 ^ k := fun z hzm => by
  obtain ⟨h0, h1⟩ := hz z hzm
  have := List.any_eq_false.1 h z hzm
  rw [beq_iff_eq] at this
  exact ⟨by omega, h1⟩

end Go.Proofs.YtcmpjegfikdofaaDoor

/- It is proved what slices.Index, slices.Contains and slices.Max of ints return; conditions: those of each statement. -/
namespace Go.Proofs.YtcmpjegfikdofaaDoor
open Go.RowKit

/-- Where a number first stands in a list, or -1. -/
def IdxR (x : Int) (zs : List Int) (r : Int) : Prop := (r = -1 ∧ ∀ j, j < zs.length → zs[j]?.getD 0 ≠ x) ∨ ∃ k : Nat, r = (k : Int) ∧ k < zs.length ∧ zs[k]?.getD 0 = x ∧ ∀ j, j < k → zs[j]?.getD 0 ≠ x

set_option maxRecDepth 100000 in
set_option maxHeartbeats 1600000 in
theorem indexI_any (a : Option Addr) (c : Nat) (zs : List Int) (x : Int) (w : World) (ha : Ints w w.heap.size a zs) (hx : zs.length ≤ 1048576) :
    Calls Tryd.prog 85 #[.slice a zs.length c, .int .i64 x] w fun e w' => (∃ r, e = .returned (.int .i64 r) ∧ IdxR x zs r) ∧ w = w' := by
  obtain ⟨n, hn⟩ : ∃ n, n = zs.length := ⟨_, rfl⟩
  have HN := Lib.hid hn
  have HA := Lib.hid ha
  rw [← hn] at hx ⊢
  clear ha hn
  go_enter Tryd.func85, Tryd.ntmps85
  go_wp2
  go_loop [5, 8] (fun _ i => ∃ k : Nat, k ≤ n ∧ i = .int .i64 k ∧ ∀ j, j < k → zs[j]?.getD 0 ≠ x) (fun _ i => n - (intOf i).toNat)
  case atStart => exact ⟨0, Nat.zero_le _, rfl, fun j hj => by omega⟩
  case round =>
    obtain ⟨k, hk, rfl, he⟩ := hrel
    have HE := Lib.hid he
    clear he
    by_cases hlt : k < n
    · obtain ⟨b1, o1, rfl, hb1, hc1⟩ := HA.out.at_ (k := k) (by rw [← HN.out]; exact hlt)
      obtain ⟨z, hz⟩ : ∃ z, z = zs[k]?.getD 0 := ⟨_, rfl⟩
      rw [← hz] at hc1
      have HZ := Lib.hid hz
      have hki : (k : Int) < (n : Int) := by omega
      clear hz
      cases h0 : (x == z)
      · have HP : Hid (∀ j, j < k + 1 → zs[j]?.getD 0 ≠ x) := Lib.hid (fun j hj e => by
          by_cases e2 : j = k
          · subst e2; rw [← HZ.out] at e; rw [e] at h0; simp at h0
          · exact HE.out j (by omega) e)
        go_wp2
        go_round
        case rel => exact ⟨k + 1, by omega, by go_num, HP.out⟩
        case measure => simp [intOf]; omega
      · have HX : Hid (x = z) := Lib.hid (by simpa using h0)
        go_wp2
        go_ret
        exact ⟨⟨_, rfl, .inr ⟨k, rfl, by rw [← HN.out]; exact hlt, by rw [HX.out, ← HZ.out], HE.out⟩⟩, rfl⟩
    · obtain rfl : k = n := by omega
      go_wp2
      go_ret
      exact ⟨⟨_, rfl, .inl ⟨rfl, by rw [← HN.out]; exact HE.out⟩⟩, rfl⟩

theorem idx_any {zs : List Int} {r : Int} (h : IdxR 0 zs r) : decide (0 ≤ r) = zs.any fun z => z == 0 := by
  rcases h with ⟨rfl, h⟩ | ⟨k, rfl, hk, hz, -⟩
  · have : (zs.any fun z => z == 0) = false := List.any_eq_false.2 fun z hz => by
      obtain ⟨j, hj, rfl⟩ := List.getElem_of_mem hz
      have := h j hj
      rw [List.getElem?_eq_getElem hj] at this
      simpa using this
    rw [this]; rfl
  · have : (zs.any fun z => z == 0) = true := List.any_eq_true.2 ⟨zs[k], List.getElem_mem _, by
      rw [List.getElem?_eq_getElem hk] at hz
      simpa using hz⟩
    rw [this, decide_eq_true (by omega)]

set_option maxRecDepth 100000 in
theorem contains0_any (a : Option Addr) (c : Nat) (zs : List Int) (w : World) (ha : Ints w w.heap.size a zs) (hx : zs.length ≤ 1048576) :
    Calls Tryd.prog 58 #[.slice a zs.length c, .int .i64 0] w fun e w' => e = .returned (.bool (zs.any fun z => z == 0)) ∧ w = w' := by
  go_enter Tryd.func58, Tryd.ntmps58
  go_wp2_with fail
  refine (indexI_any a c zs 0 w ha hx).mono ?_
  rintro e w1 ⟨⟨r, rfl, hr⟩, rfl⟩
  have HR := Lib.hid (idx_any hr)
  clear hr
  go_wp2
  go_ret
  exact ⟨by rw [← HR.out]; rfl, rfl⟩

/-- The greatest number of a list. -/
def MaxR (zs : List Int) (n : Nat) (M : Int) : Prop := (∀ j, j < n → zs[j]?.getD 0 ≤ M) ∧ ∃ j, j < n ∧ zs[j]?.getD 0 = M

set_option maxRecDepth 100000 in
set_option maxHeartbeats 1600000 in
theorem maxI_any (a : Option Addr) (c : Nat) (zs : List Int) (w : World) (ha : Ints w w.heap.size a zs) (h1 : 1 ≤ zs.length) (hx : zs.length ≤ 1048576) :
    Calls Tryd.prog 87 #[.slice a zs.length c] w fun e w' => (∃ M, e = .returned (.int .i64 M) ∧ MaxR zs zs.length M) ∧ w = w' := by
  obtain ⟨n, hn⟩ : ∃ n, n = zs.length := ⟨_, rfl⟩
  have HN := Lib.hid hn
  have HA := Lib.hid ha
  rw [← hn] at hx h1 ⊢
  obtain ⟨b0, o0, rfl, hb0, hc0⟩ := ha.at_ (k := 0) (by rw [← hn]; omega)
  obtain ⟨z0, hz0⟩ : ∃ z, z = zs[0]?.getD 0 := ⟨_, rfl⟩
  rw [← hz0] at hc0
  have HZ0 := Lib.hid hz0
  have hn1 : (1 : Int) ≤ (n : Int) := by omega
  rw [Nat.add_zero] at hc0
  clear ha hn hz0
  go_enter Tryd.func87, Tryd.ntmps87
  go_wp2
  go_loop [3, 4] (fun m i => ∃ (k : Nat) (M : Int), 1 ≤ k ∧ k ≤ n ∧ i = .int .i64 k ∧ m = .int .i64 M ∧ MaxR zs k M) (fun _ i => n - (intOf i).toNat)
  case atStart => exact ⟨1, z0, Nat.le_refl _, h1, rfl, rfl, fun j hj => by rw [show j = 0 by omega, ← HZ0.out]; exact Int.le_refl _, 0, by omega, HZ0.out.symm⟩
  case round =>
    obtain ⟨k, M, hk1, hk, rfl, rfl, he⟩ := hrel
    have HE := Lib.hid he
    clear he
    by_cases hlt : k < n
    · obtain ⟨b1, o1, e1, hb1, hc1⟩ := HA.out.at_ (k := k) (by rw [← HN.out]; exact hlt)
      obtain ⟨rfl, rfl⟩ : b1 = b0 ∧ o1 = o0 := by simpa using e1.symm
      obtain ⟨z, hz⟩ : ∃ z, z = zs[k]?.getD 0 := ⟨_, rfl⟩
      rw [← hz] at hc1
      have HZ := Lib.hid hz
      have hki : (k : Int) < (n : Int) := by omega
      have HP : Hid (MaxR zs (k + 1) (max M z)) := Lib.hid (by
        obtain ⟨g1, j, g2, g3⟩ := HE.out
        refine ⟨fun i hi => ?_, ?_⟩
        · by_cases e : i = k
          · subst e; rw [← HZ.out]; omega
          · have := g1 i (by omega); omega
        · by_cases e : M ≤ z
          · exact ⟨k, by omega, by rw [← HZ.out]; omega⟩
          · exact ⟨j, by omega, by omega⟩)
      clear hz e1
      go_wp2
      go_round
      case rel => exact ⟨k + 1, max M z, by omega, by omega, by go_num, rfl, HP.out⟩
      case measure => simp [intOf]; omega
    · obtain rfl : k = n := by omega
      go_wp2
      go_ret
      exact ⟨⟨_, rfl, HE.out⟩, rfl⟩

end Go.Proofs.YtcmpjegfikdofaaDoor
