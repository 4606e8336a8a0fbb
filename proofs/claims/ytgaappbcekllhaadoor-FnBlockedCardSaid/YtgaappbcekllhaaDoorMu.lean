/- It is proved that the members without whom fewer clubs get a speaker may all speak at once; conditions: those of each statement. -/
import Derived.RowKit
import Derived.Laws.CopyRow
import Derived.Lib.SlBuf
import Derived.Deep.QuietTactic
import Derived.RangeFuncNested
import Derived.RangeFuncBound
import Derived.RangeFuncCalls
import Derived.RangeFuncLeaves
import Derived.RangeFuncBox
import Derived.RangeFuncWrites
import Derived.StillTailTactics
import Derived.Maps.OwnIn
import Derived.Maps.Ext
import Derived.DeepKeys4
import Derived.MapKept
import Derived.Test.YtgaappbcekllhaaDoorRows
import Derived.WalkKit
import Derived.WalkSpells
import Derived.ProofKit
import Derived.OpenShut
import Derived.ShutString
import Derived.ChangeOld
import Derived.Below
import Derived.Deep.RegionHeld3
import Derived.BigQuiet
import Derived.Lib.Hide
import Derived.Lib.SmallJoins
import Derived.Outline
import Derived.Laws.MakeOwn
import Derived.Laws.OwnMore
import Derived.IntWalk
import Derived.Maps.AppendAt
import Derived.Lib.AppendZeros
import Derived.Deep.AppendLies
import Derived.OwnWalk
import Derived.Lib.SlicesCompact
import Derived.Lib.OwnBridge
import Derived.OrdersIn
import Derived.TacticsIn
import Derived.Shelf.Sort.Plain
import Derived.Shelf.Slices.In.SortNone
import Derived.Shelf.Slices.CompactI
import Derived.Ground.Names2Prog
import Derived.Lib.SliceRun
import Derived.Shelf.RegionOpen
import Derived.Shelf.Abstract
import Derived.OwnWalkIn
import Derived.TacticsInMore
import Derived.LoopNIn
import Derived.LoopIn
import Derived.StillTail
import Derived.StillTactics
import Derived.Shelf.Spec.TrailingZeros
import Derived.Test.YtgaappbcekllhaaDoorCaad
import Derived.Test.YtgaappbcekllhaaDoorCaab
import Derived.Test.YtgaappbcekllhaaDoorHu
import Derived.Test.YtgaappbcekllhaaDoorCaag
import Derived.Test.YtgaappbcekllhaaDoorMa
import Derived.Test.YtgaappbcekllhaaDoorMb
import Derived.Test.YtgaappbcekllhaaDoorCaam
import Derived.Test.YtgaappbcekllhaaDoorCaao
import Derived.Test.YtgaappbcekllhaaDoorMq
namespace Go.Proofs.YtgaappbcekllhaaDoor
open Go.RowKit Go.Shelf

theorem sub_cnt {k P Q X Y : Nat} (h1 : ∀ v, (X ||| Y).testBit v = true → (P ||| Q).testBit v = true) (h2 : ∀ v, (X &&& Y).testBit v = true → (P &&& Q).testBit v = true) : cntK k X + cntK k Y ≤ cntK k P + cntK k Q := by
  have e1 := cnt_ie k X Y
  have e2 := cnt_ie k P Q
  have l1 := cntK_le (k := k) h1
  have l2 := cntK_le (k := k) h2
  omega

theorem over_sub (zs : List Int) (A B p q : Nat) : overK zs A p + overK zs B q ≤ overK zs (A ||| B) (p &&& q) + overK zs (A &&& B) (p ||| q) := by
  have e := cnt_ie zs.length p q
  have hc : cntK 8 (togK zs (p &&& q) &&& (A ||| B)) + cntK 8 (togK zs (p ||| q) &&& (A &&& B)) ≤ cntK 8 (togK zs p &&& A) + cntK 8 (togK zs q &&& B) := by
    have key : ∀ v, (togK zs (p &&& q)).testBit v = true → (togK zs p).testBit v = true ∧ (togK zs q).testBit v = true := fun v hv => by
      have := tog_and hv
      rw [Nat.testBit_and, Bool.and_eq_true] at this
      exact this
    refine sub_cnt (fun v hv => ?_) (fun v hv => ?_)
    · rw [tog_or] at hv
      simp only [Nat.testBit_or, Nat.testBit_and] at hv ⊢
      have hk := key v
      revert hv hk
      cases (togK zs (p &&& q)).testBit v <;> cases (togK zs p).testBit v <;> cases (togK zs q).testBit v <;> cases A.testBit v <;> cases B.testBit v <;> simp
    · rw [tog_or] at hv
      simp only [Nat.testBit_or, Nat.testBit_and] at hv ⊢
      have hk := key v
      revert hv hk
      cases (togK zs (p &&& q)).testBit v <;> cases (togK zs p).testBit v <;> cases (togK zs q).testBit v <;> cases A.testBit v <;> cases B.testBit v <;> simp
  unfold overK
  omega

theorem mat_sub (zs : List Int) {A B : Nat} (hA : A < 64) (hB : B < 64) : matM zs (A ||| B) + matM zs (A &&& B) ≤ matM zs A + matM zs B := by
  obtain ⟨-, p, hp, ep⟩ := ore zs A hA
  obtain ⟨-, q, hq, eq⟩ := ore zs B hB
  have h1 := (ore zs (A ||| B) (Nat.or_lt_two_pow (n := 6) hA hB)).1 (p &&& q) (Nat.lt_of_le_of_lt Nat.and_le_left hp)
  have h2 := (ore zs (A &&& B) (Nat.lt_of_le_of_lt Nat.and_le_left hA)).1 (p ||| q) (Nat.or_lt_two_pow hp hq)
  have h3 := over_sub zs A B p q
  omega

theorem mat_mono (zs : List Int) {A B : Nat} (hA : A < 64) (hB : B < 64) (h : ∀ v, A.testBit v = true → B.testBit v = true) : matM zs A ≤ matM zs B := by
  obtain ⟨-, p, hp, ep⟩ := ore zs B hB
  have h1 := (ore zs A hA).1 p hp
  have h2 : cntK 8 (togK zs p &&& A) ≤ cntK 8 (togK zs p &&& B) := cntK_le fun v hv => by
    rw [Nat.testBit_and, Bool.and_eq_true] at hv ⊢
    exact ⟨hv.1, h v hv.2⟩
  unfold overK at ep h1
  omega

theorem cnt_full (n : Nat) : cntK n (2 ^ n - 1) = n := by
  unfold cntK memK
  rw [List.filter_eq_self.2, List.length_range]
  intro i hi
  rw [Nat.testBit_two_pow_sub_one, decide_eq_true_eq]
  exact List.mem_range.1 hi

theorem mat_cnt (zs : List Int) {A : Nat} (hA : A < 64) : matM zs A ≤ cntK 8 A := by
  have hp := Nat.two_pow_pos zs.length
  have h1 := (ore zs A hA).1 (2 ^ zs.length - 1) (by omega)
  have h2 : cntK 8 (togK zs (2 ^ zs.length - 1) &&& A) ≤ cntK 8 A := cntK_le fun v hv => by
    rw [Nat.testBit_and, Bool.and_eq_true] at hv
    exact hv.2
  unfold overK at h1
  rw [cnt_full] at h1
  omega

theorem mat_none {zs : List Int} {L v : Nat} (hL : L < 64) (hv : v < 6) (h : (togK zs (2 ^ zs.length - 1)).testBit v = false) : matM zs L ≤ matM zs (woP L v) := by
  obtain ⟨-, p, hp, ep⟩ := ore zs (woP L v) (woP_lt hL)
  have h1 := (ore zs L hL).1 p hp
  have h2 : cntK 8 (togK zs p &&& L) ≤ cntK 8 (togK zs p &&& woP L v) := cntK_le fun i hi => by
    rw [Nat.testBit_and, Bool.and_eq_true] at hi ⊢
    refine ⟨hi.1, ?_⟩
    rw [woP_bit hL hv, hi.2, Bool.true_and, decide_eq_true_eq]
    rintro rfl
    obtain ⟨j, hj, hpj, hz⟩ := tog_bit.1 hi.1
    have : (togK zs (2 ^ zs.length - 1)).testBit i = true := tog_bit.2 ⟨j, hj, by rw [Nat.testBit_two_pow_sub_one, decide_eq_true_eq]; exact hj, hz⟩
    rw [h] at this
    exact Bool.noConfusion this
  unfold overK at ep h1
  omega

theorem cnt_pow_fin : ∀ n : Fin 6, cntK 8 (2 ^ n.val) = 1 := by decide
theorem blk_ind {k : Nat} {zs : List Int} (hk : k ≤ 6) : ∀ n, n ≤ k → (∀ v, (blkS k zs (List.range n)).testBit v = true → v < n ∧ matM zs (woP (2 ^ k - 1) v) < matM zs (2 ^ k - 1)) ∧ cntK 8 (blkS k zs (List.range n)) ≤ matM zs (blkS k zs (List.range n))
  | 0, _ => by
      refine ⟨fun v hv => by simp [blkS] at hv, ?_⟩
      show cntK 8 0 ≤ _
      rw [show cntK 8 0 = 0 from by decide]
      exact Nat.zero_le _
  | n + 1, h => by
      obtain ⟨h1, h2⟩ := blk_ind (zs := zs) hk n (by omega)
      have hp1 : 1 ≤ 2 ^ k := Nat.one_le_two_pow
      have hp6 : 2 ^ k ≤ 64 := Nat.pow_le_pow_right (n := 2) (by decide) hk
      have hS := blkS_lt k zs n (by omega)
      rw [List.range_succ, blkS_snoc]
      by_cases hc : matM zs (woP (2 ^ k - 1) n) < matM zs (2 ^ k - 1)
      · rw [if_pos hc]
        obtain ⟨S, hSe⟩ : ∃ S, S = blkS k zs (List.range n) := ⟨_, rfl⟩
        rw [← hSe] at h1 h2 hS ⊢
        have hn6 : 2 ^ n < 64 := Nat.pow_lt_pow_right (a := 2) (m := n) (n := 6) (by decide) (by omega)
        have hS' : S ||| 2 ^ n < 64 := Nat.or_lt_two_pow (n := 6) hS hn6
        have hb : ∀ v, (S ||| 2 ^ n).testBit v = (S.testBit v || decide (n = v)) := fun v => by rw [Nat.testBit_or, Nat.testBit_two_pow]
        refine ⟨fun v hv => ?_, ?_⟩
        · rw [hb, Bool.or_eq_true, decide_eq_true_eq] at hv
          rcases hv with hv | rfl
          · exact ⟨by have := (h1 v hv).1; omega, (h1 v hv).2⟩
          · exact ⟨by omega, hc⟩
        · have hW : woP (2 ^ k - 1) n < 64 := woP_lt (by omega)
          have hbw : ∀ v, (woP (2 ^ k - 1) n).testBit v = (decide (v < k) && decide (v ≠ n)) := fun v => by rw [woP_bit (by omega) (by omega), Nat.testBit_two_pow_sub_one]
          have e1 : (S ||| 2 ^ n) ||| woP (2 ^ k - 1) n = 2 ^ k - 1 := by
            apply Nat.eq_of_testBit_eq
            intro v
            rw [Nat.testBit_or, hb, hbw, Nat.testBit_two_pow_sub_one]
            cases hs : S.testBit v
            · by_cases e : n = v
              · subst e
                simp
                omega
              · simp only [e, decide_false, Bool.or_self, Bool.false_or]
                rw [show decide (v ≠ n) = true from decide_eq_true (Ne.symm e), Bool.and_true]
            · have := (h1 v hs).1
              simp
              omega
          have e2 : (S ||| 2 ^ n) &&& woP (2 ^ k - 1) n = S := by
            apply Nat.eq_of_testBit_eq
            intro v
            rw [Nat.testBit_and, hb, hbw]
            cases hs : S.testBit v
            · by_cases e : n = v
              · subst e; simp
              · simp [e]
            · have := (h1 v hs).1
              simp
              omega
          have h3 := mat_sub zs hS' hW
          rw [e1, e2] at h3
          have h4 := cnt_ie 8 S (2 ^ n)
          have h5 := cnt_pow_fin ⟨n, by omega⟩
          simp only at h5
          omega
      · rw [if_neg hc]
        exact ⟨fun v hv => ⟨by have := (h1 v hv).1; omega, (h1 v hv).2⟩, h2⟩

theorem andQ_fin : ∀ a b : Fin 64, bits .and .i64 (a.val : Int) (b.val : Int) = ((a.val &&& b.val : Nat) : Int) := by decide +kernel
theorem mat_map {B : Nat} (hB : B < 64) : ∀ (zs : List Int) (L : Nat), (∀ z ∈ zs, 0 ≤ z ∧ z.toNat < 64) → matM (zs.map fun z => bits .and .i64 z (B : Int)) L = matM zs (L &&& B)
  | [], _, _ => rfl
  | z :: zs, L, hz => by
      obtain ⟨z0, z6⟩ := hz z (List.mem_cons_self ..)
      obtain ⟨x, rfl⟩ : ∃ x : Nat, z = (x : Int) := ⟨z.toNat, by omega⟩
      rw [Int.toNat_natCast] at z6
      have hz' : ∀ z ∈ zs, 0 ≤ z ∧ z.toNat < 64 := fun y hy => hz y (List.mem_cons_of_mem _ hy)
      have he : bits .and .i64 (x : Int) (B : Int) = ((x &&& B : Nat) : Int) := andQ_fin ⟨x, z6⟩ ⟨B, hB⟩
      rw [List.map_cons]
      show (memK 6 ((bits .and .i64 (x : Int) (B : Int)).toNat &&& L)).foldl (fun b v => max b (1 + matM (zs.map fun z => bits .and .i64 z (B : Int)) (woP L v))) (matM (zs.map fun z => bits .and .i64 z (B : Int)) L)
        = (memK 6 ((x : Int).toNat &&& (L &&& B))).foldl (fun b v => max b (1 + matM zs (woP (L &&& B) v))) (matM zs (L &&& B))
      rw [he, Int.toNat_natCast, Int.toNat_natCast, mat_map hB zs L hz', Nat.and_assoc, Nat.and_comm B L]
      congr 1
      funext b v
      rw [mat_map hB zs (woP L v) hz']
      unfold woP
      rw [Nat.and_assoc, Nat.and_assoc, Nat.and_comm (63 - 2 ^ v) B]

theorem fam_and {k B : Nat} {zs : List Int} (hB : B < 64) (hf : famIn (k : Int) zs = true) : famIn (k : Int) (zs.map fun z => bits .and .i64 z (B : Int)) = true := by
  obtain ⟨h1, h2, h3, h4⟩ := famIn_out hf
  obtain ⟨kk, hkk, hk1, hk6, hset, hl8⟩ := fam_nat2 hf
  obtain rfl : kk = k := by omega
  have hp6 : 2 ^ kk ≤ 64 := Nat.pow_le_pow_right (n := 2) (by decide) hk6
  simp only [famIn, Bool.and_eq_true, decide_eq_true_eq, List.all_eq_true, List.mem_map, List.length_map]
  refine ⟨inB_true h1 h2, h3, ?_⟩
  rintro _ ⟨z, hz, rfl⟩
  have h5 := h4 z hz
  obtain ⟨z0, z6⟩ := hset z hz
  obtain ⟨x, rfl⟩ : ∃ x : Nat, z = (x : Int) := ⟨z.toNat, by omega⟩
  rw [Int.toNat_natCast] at z6
  rw [show bits .and .i64 (x : Int) (B : Int) = ((x &&& B : Nat) : Int) from andQ_fin ⟨x, by omega⟩ ⟨B, hB⟩]
  have : x &&& B ≤ x := Nat.and_le_left
  exact inB_true (by omega) (by omega)

theorem blk_facts {m : Int} {zs : List Int} (hf : famIn m zs = true) :
    ∃ B : Nat, blkZ m zs = (B : Int) ∧ B < 64 ∧ inB (B : Int) 0 (fullI m) = true ∧ (cntK 8 B : Int) ≤ prsZ m zs ∧ leG (B : Int) ((togK zs (2 ^ zs.length - 1) : Nat) : Int) = true ∧
      famIn m (zs.map fun z => bits .and .i64 z (B : Int)) = true ∧ prsZ m (zs.map fun z => bits .and .i64 z (B : Int)) = (cntK 8 B : Int) := by
  obtain ⟨k, rfl, hk1, hk6, hset, hl8⟩ := fam_nat2 hf
  have hp1 : 1 ≤ 2 ^ k := Nat.one_le_two_pow
  have hp6 : 2 ^ k ≤ 64 := Nat.pow_le_pow_right (n := 2) (by decide) hk6
  have hz6 : ∀ z ∈ zs, 0 ≤ z ∧ z.toNat < 64 := fun z hm => ⟨(hset z hm).1, Nat.lt_of_lt_of_le (hset z hm).2 hp6⟩
  obtain ⟨h1, h2⟩ := blk_ind (zs := zs) hk6 k (Nat.le_refl k)
  have hB6 := blkS_lt k zs k hk6
  have e0 : blkZ (k : Int) zs = ((blkS k zs (List.range k) : Nat) : Int) := by unfold blkZ; rw [hf, if_pos rfl, Int.toNat_natCast]
  obtain ⟨B, hBe⟩ : ∃ B, B = blkS k zs (List.range k) := ⟨_, rfl⟩
  rw [← hBe] at h1 h2 hB6 e0
  have hBk : B < 2 ^ k := Nat.lt_pow_two_of_testBit B fun v hv => by
    cases hb : B.testBit v
    · rfl
    · have := (h1 v hb).1
      omega
  have hsub : ∀ v, B.testBit v = true → (2 ^ k - 1).testBit v = true := fun v hv => by
    rw [Nat.testBit_two_pow_sub_one, decide_eq_true_eq]; exact (h1 v hv).1
  have hBL : (2 ^ k - 1) &&& B = B := by
    apply Nat.eq_of_testBit_eq
    intro v
    rw [Nat.testBit_and]
    cases hv : B.testBit v
    · rw [Bool.and_false]
    · rw [hsub v hv]; rfl
  have hmc := mat_cnt zs hB6
  have hmm := mat_mono zs hB6 (B := 2 ^ k - 1) (by omega) hsub
  have hfa := fam_and hB6 hf
  refine ⟨B, e0, hB6, ?_, ?_, ?_, hfa, ?_⟩
  · refine inB_true (by omega) ?_
    unfold fullI
    rw [Int.toNat_natCast]
    have : ((2 : Int) ^ k) = ((2 ^ k : Nat) : Int) := by norm_cast
    omega
  · unfold prsZ
    rw [hf, if_pos rfl, Int.toNat_natCast]
    omega
  · refine (leG_bits64 (by omega) (by rw [Int.toNat_natCast]; exact hB6) (tog_lt (fun z h => (hz6 z h).2) _)).2 fun v hv => ?_
    rw [Int.toNat_natCast] at hv
    obtain ⟨hvk, hlt⟩ := h1 v hv
    cases ht : (togK zs (2 ^ zs.length - 1)).testBit v
    · have := mat_none (zs := zs) (L := 2 ^ k - 1) (by omega) (by omega) ht
      omega
    · rfl
  · unfold prsZ
    rw [hfa, if_pos rfl, Int.toNat_natCast, mat_map hB6 zs _ hz6, hBL]
    omega

end Go.Proofs.YtgaappbcekllhaaDoor
