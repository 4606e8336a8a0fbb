/- It is proved that named families have the same sizes and degrees; conditions: those of each statement. -/
import Derived.Test.YtgpgocijacgkhaaDoorRows
import Derived.WalkKit
import Derived.WalkSpells
import Derived.ProofKit
import Derived.OpenShut
import Derived.ShutString
import Derived.ChangeOld
import Derived.Below
import Derived.Deep.RegionHeld3
import Derived.Deep.QuietTactic
import Derived.BigQuiet
import Derived.Lib.Hide
import Derived.Lib.SmallJoins
import Derived.Outline
import Derived.Laws.MakeOwn
import Derived.Laws.OwnMore
import Derived.IntWalk
import Derived.RangeFuncNested
import Derived.RangeFuncBound
import Derived.RangeFuncCalls
import Derived.RangeFuncLeaves
import Derived.RangeFuncBox
import Derived.Shelf.Abstract
import Derived.Shelf.RegionOpen
import Derived.OwnWalkIn
import Derived.TacticsInMore
import Derived.LoopNIn
import Derived.LoopIn
import Derived.Maps.AppendAt
import Derived.Deep.AppendLies
import Derived.OwnWalk
import Derived.StillTail
import Derived.StillTactics
import Derived.OrdersIn
import Derived.TacticsIn
import Derived.Shelf.Spec.TrailingZeros
import Derived.StillTailTactics
import Derived.Test.YtgpgocijacgkhaaDoorRaab
import Derived.Test.YtgpgocijacgkhaaDoorRaan
import Derived.Test.YtgpgocijacgkhaaDoorNa
import Derived.Test.YtgpgocijacgkhaaDoorNc
import Derived.Test.YtgpgocijacgkhaaDoorNe
import Derived.Test.YtgpgocijacgkhaaDoorNf
import Derived.Test.YtgpgocijacgkhaaDoorRaay
import Derived.Test.YtgpgocijacgkhaaDoorRaac
import Derived.Test.YtgpgocijacgkhaaDoorTb
import Derived.Test.YtgpgocijacgkhaaDoorRaaz
namespace Go.Proofs.YtgpgocijacgkhaaDoor
open Go.RowKit

theorem orP_test : ∀ (qs : List Int) (t i : Nat), (qs.foldl (fun t p => t ||| 2 ^ p.toNat) t).testBit i = (t.testBit i || qs.any fun p => decide (p.toNat = i))
  | [], t, i => by simp
  | q :: qs, t, i => by
    rw [List.foldl_cons, orP_test qs, Nat.testBit_or, Nat.testBit_two_pow, List.any_cons, Bool.or_assoc]

theorem names_inj {m : Nat} (hm : m ≤ 6) {ps : List Int} (h : namesB m ps = true) : ∀ u v, u < v → v < m → (ps[u]?.getD 0).toNat ≠ (ps[v]?.getD 0).toNat := by
  intro u v huv hv he
  have hh := h
  simp only [namesB, Bool.and_eq_true, decide_eq_true_eq] at hh
  have : namesB m ps = false := names_twice hm hh.1 hh.2.1 hv (by
    unfold orP
    rw [orP_test, Nat.zero_testBit, Bool.false_or, List.any_eq_true]
    have hul : u < (ps.take v).length := by rw [List.length_take]; omega
    refine ⟨(ps.take v)[u], List.getElem_mem hul, ?_⟩
    rw [List.getElem_take, decide_eq_true_eq, ← he]
    have : u < ps.length := by omega
    simp [this])
  rw [h] at this; cases this

theorem nm_test : ∀ (ps : List Int) (us : List Nat) (t i : Nat), (us.foldl (fun t v => t ||| 2 ^ (ps[v]?.getD 0).toNat) t).testBit i = (t.testBit i || us.any fun v => decide ((ps[v]?.getD 0).toNat = i))
  | ps, [], t, i => by simp
  | ps, u :: us, t, i => by
    rw [List.foldl_cons, nm_test ps us, Nat.testBit_or, Nat.testBit_two_pow, List.any_cons, Bool.or_assoc]

theorem called_bit {m : Nat} (hm : m ≤ 6) {ps : List Int} (h : namesB m ps = true) {s v : Nat} (hs : s < 2 ^ m) (hv : v < m) : (called ps s).testBit (ps[v]?.getD 0).toNat = s.testBit v := by
  unfold called nm
  rw [nm_test, Nat.zero_testBit, Bool.false_or, Bool.eq_iff_iff, List.any_eq_true]
  constructor
  · rintro ⟨u, hu, he⟩
    rw [decide_eq_true_eq] at he
    have hum := mem_lt m hm s hs u hu
    have huv : u = v := by
      rcases Nat.lt_trichotomy u v with h1 | h1 | h1
      · exact absurd he (names_inj hm h u v h1 hv)
      · exact h1
      · exact absurd he.symm (names_inj hm h v u h1 hum)
    rw [← huv]
    exact ((mem_mem s u).1 hu).2
  · intro ht
    exact ⟨v, (mem_mem s v).2 ⟨by omega, ht⟩, by simp⟩

theorem mem_nodup (s : Nat) : (mem s).Pairwise (· < ·) := List.Pairwise.filter _ List.pairwise_lt_range
theorem called_pop {m : Nat} (hm : m ≤ 6) {ps : List Int} (h : namesB m ps = true) {s : Nat} (hs : s < 2 ^ m) : popS (called ps s) = popS s := by
  have hok := namesB_ok hm h
  have key : ∀ k, k ≤ (mem s).length → popS (nm ps ((mem s).take k)) = k ∧ nm ps ((mem s).take k) < 64 := by
    intro k
    induction k with
    | zero => intro _; simp [nm]; decide
    | succ k ih =>
      intro hk
      obtain ⟨h1, h2⟩ := ih (by omega)
      have hmk : (mem s)[k] < m := mem_lt m hm s hs _ (List.getElem_mem _)
      have hp6 : (ps[(mem s)[k]]?.getD 0).toNat < 6 := by have := hok.2 _ hmk; omega
      rw [List.take_succ_eq_append_getElem (by omega), nm_snoc]
      refine ⟨?_, Nat.or_lt_two_pow (n := 6) h2 (Nat.pow_lt_pow_right (by decide) hp6)⟩
      rw [pop_or _ h2 _ hp6, h1]
      have hf : (nm ps ((mem s).take k)).testBit (ps[(mem s)[k]]?.getD 0).toNat = false := by
        unfold nm
        rw [nm_test, Nat.zero_testBit, Bool.false_or, List.any_eq_false]
        intro u hu
        rw [decide_eq_true_eq]
        obtain ⟨i, hi, rfl⟩ := List.getElem_of_mem hu
        rw [List.length_take] at hi
        rw [List.getElem_take]
        have hlt := List.pairwise_iff_getElem.1 (mem_nodup s) i k (by omega) (by omega) (by omega)
        exact names_inj hm h _ _ hlt hmk
      rw [hf]; rfl
  have := (key (mem s).length (Nat.le_refl _)).1
  rw [List.take_length] at this
  exact this

theorem called_lt {m : Nat} (hm : m ≤ 6) {ps : List Int} (h : namesB m ps = true) {s : Nat} (hs : s < 2 ^ m) : called ps s < 2 ^ m := by
  have hok := namesB_ok hm h
  apply Nat.lt_pow_two_of_testBit
  intro i hi
  unfold called nm
  rw [nm_test, Nat.zero_testBit, Bool.false_or, List.any_eq_false]
  intro u hu
  rw [decide_eq_true_eq]
  have hum := mem_lt m hm s hs u hu
  have hh := h
  simp only [namesB, Bool.and_eq_true, decide_eq_true_eq] at hh
  have := inR_at hh.1 (k := u) (by omega)
  omega

theorem named_facts {k : Nat} {zs ps : List Int} (h : namIn (k : Int) zs ps = true) : namM (k : Int) zs ps = (k : Int) ∧ famIn (k : Int) zs = true ∧ famIn (k : Int) (namZ (k : Int) zs ps) = true ∧ sizesZ (k : Int) (namZ (k : Int) zs ps) = sizesZ (k : Int) zs ∧ ps.length = k ∧
    ∀ v, v < k → 0 ≤ ps[v]?.getD 0 ∧ ps[v]?.getD 0 < (k : Int) ∧ (degL k (allMem (namZ (k : Int) zs ps)))[(ps[v]?.getD 0).toNat]?.getD 0 = (degL k (allMem zs))[v]?.getD 0 := by
  have hh := h
  simp only [namIn, Bool.and_eq_true, Int.toNat_natCast] at hh
  obtain ⟨hf, hp⟩ := hh
  obtain ⟨h1, h2, h3, h4⟩ := famIn_out hf
  have hm : k ≤ 6 := by omega
  have hok := namesB_ok hm hp
  have hfull : fullI (k : Int) = ((2 ^ k : Nat) : Int) - 1 := by simp [fullI]
  have e2 : namZ (k : Int) zs ps = zs.map (callZ ps) := by simp [namZ, h]
  have hz2 : ∀ z ∈ zs, z.toNat < 2 ^ k := fun z hz => by have := h4 z hz; omega
  have hf2 : famIn (k : Int) (zs.map (callZ ps)) = true := by
    simp only [famIn, Bool.and_eq_true, decide_eq_true_eq, List.all_eq_true, List.mem_map, List.length_map]
    refine ⟨inB_true h1 h2, h3, ?_⟩
    rintro _ ⟨z, hz, rfl⟩
    have := called_lt hm hp (hz2 z hz)
    exact inB_true (by unfold callZ; omega) (by unfold callZ; omega)
  rw [e2]
  refine ⟨by simp [namM, h], hf, hf2, ?_, hok.1, ?_⟩
  · rw [sizesZ, if_pos hf2, sizesZ, if_pos hf, List.map_map]
    apply List.map_congr_left
    intro z hz
    have hz0 := small63 hf z hz
    have hc := called_lt hm hp (hz2 z hz)
    have h64 : 2 ^ k ≤ 2 ^ 6 := Nat.pow_le_pow_right (by decide) hm
    simp only [Function.comp, callZ]
    rw [pop_mem (by omega), show z = ((z.toNat : Nat) : Int) from by omega, pop_mem (by omega)]
    have := called_pop hm hp (hz2 z hz)
    unfold popS at this
    simp only [Int.toNat_natCast]
    omega
  · intro v hv
    have hh2 := hp
    simp only [namesB, Bool.and_eq_true, decide_eq_true_eq] at hh2
    have hv2 := inR_at hh2.1 (k := v) (by omega)
    have hlt : (ps[v]?.getD 0).toNat < k := by omega
    refine ⟨by omega, by omega, ?_⟩
    rw [degL_at k _ _ hlt, degL_at k _ _ hv, Option.getD_some, Option.getD_some, count_all (by omega) _ (small63 hf2), count_all (by omega) _ (small63 hf), List.countP_map]
    have : List.countP (hasM (ps[v]?.getD 0).toNat ∘ callZ ps) zs = List.countP (hasM v) zs := by
      apply List.countP_congr
      intro z hz
      simp only [Function.comp, hasM, callZ, Int.toNat_natCast]
      rw [called_bit hm hp (hz2 z hz) hv]
    rw [this]

end Go.Proofs.YtgpgocijacgkhaaDoor
