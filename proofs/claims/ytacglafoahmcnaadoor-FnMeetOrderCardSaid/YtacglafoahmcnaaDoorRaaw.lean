/- It is proved what FamilyDual of the model returns where there is none, and what both return; conditions: those of each statement. -/
import Derived.Test.YtacglafoahmcnaaDoorRows
import Derived.WalkKit
import Derived.WalkSpells
import Derived.ProofKit
import Derived.OpenShut
import Derived.ShutString
import Derived.ChangeOld
import Derived.Below
import Derived.Deep.RegionHeld3
import Derived.Deep.QuietTactic
import Derived.BigQuiet
import Derived.Lib.Hide
import Derived.Lib.SmallJoins
import Derived.Outline
import Derived.Laws.MakeOwn
import Derived.Laws.OwnMore
import Derived.IntWalk
import Derived.RangeFuncNested
import Derived.RangeFuncBound
import Derived.RangeFuncCalls
import Derived.RangeFuncLeaves
import Derived.RangeFuncBox
import Derived.Shelf.Abstract
import Derived.Shelf.RegionOpen
import Derived.OwnWalkIn
import Derived.TacticsInMore
import Derived.LoopNIn
import Derived.LoopIn
import Derived.Maps.AppendAt
import Derived.Deep.AppendLies
import Derived.OwnWalk
import Derived.StillTail
import Derived.StillTactics
import Derived.OrdersIn
import Derived.TacticsIn
import Derived.Shelf.Spec.TrailingZeros
import Derived.StillTailTactics
import Derived.Test.YtacglafoahmcnaaDoorRaaa
import Derived.Test.YtacglafoahmcnaaDoorRaac
import Derived.Test.YtacglafoahmcnaaDoorRaaq
import Derived.Test.YtacglafoahmcnaaDoorRaad
import Derived.Test.YtacglafoahmcnaaDoorRaab
import Derived.Test.YtacglafoahmcnaaDoorRaae
import Derived.Test.YtacglafoahmcnaaDoorRaag
import Derived.Test.YtacglafoahmcnaaDoorUb
import Derived.Test.YtacglafoahmcnaaDoorUc
import Derived.Deep.RegionLaw
namespace Go.Proofs.YtacglafoahmcnaaDoor
open Go.RowKit

set_option maxRecDepth 100000 in
set_option maxHeartbeats 2000000 in
theorem specDual_no1 (m : Int) (a : Option Addr) (c : Nat) (zs : List Int) (w : World) (ha : Ints w w.heap.size a zs) (hx : zs.length ≤ 1048576) (hf : famIn m zs = false) :
    Calls Tryd.prog 18 #[.agg #[.int .i64 m, .slice a zs.length c]] w (RetFB w 0 [] false) := by
  have HA := Lib.hid ((ha.below (below2 w (.cells #[.int .i64 m, .slice a zs.length c] 25) (.cells #[.int .i64 0, .slice none 0 0] 25))).mono (B' := ((w.alloc (.cells #[.int .i64 m, .slice a zs.length c] 25)).alloc (.cells #[.int .i64 0, .slice none 0 0] 25)).heap.size) (by simp; omega))
  have HF := Lib.hid hf
  clear hf ha
  go_enter Tryd.func18, Tryd.ntmps18
  go_wp2_with fail
  refine (specFamilyIn_any _ _ _ zs _ HA.out hx).mono ?_
  rintro e w1 ⟨rfl, hb⟩
  rw [HF.out]
  have b1 : w1.heap[w.heap.size + 1]? = some (.cells #[.int .i64 0, .slice none 0 0] 25 (0, 0)) := (hb.block _ (by simp)).trans (alloc2_1 w _ _)
  have HB := Lib.hid ((below2 w _ _).trans (hb.mono (by simp; omega)))
  have z1 : w.heap.size + 1 < w1.heap.size := by have := hb.size; simp at this; omega
  clear hb
  go_wp2_with fail
  refine (l1None_any _).mono ?_
  rintro e w2 ⟨a2, c2, rfl, ho2, hb⟩
  have b2 := (hb.block _ z1).trans b1
  have d0 := blk_cell b2 0
  have d1 := blk_cell b2 1
  have f0 := blk_frozen b2 0
  have f1 := blk_frozen b2 1
  simp only [cell2_0, cell2_1] at d0 d1
  have z2 : w.heap.size + 1 < w2.heap.size := by have := hb.size; omega
  have HB2 := Lib.hid (HB.out.trans (hb.mono (by omega)))
  have HO := Lib.hid ho2
  clear hb b1 b2 ho2
  go_wp2
  refine bodyPost_ret (v := .tuple #[.agg #[.int .i64 0, .slice a2 0 c2], .bool false]) (by simp [results, Tryd.results18, go_sem, d0, d1]) rfl ?_
  refine ⟨a2, c2, rfl, ?_, ?_⟩
  · exact own_mono (ownsRow_setCell_below (ownsRow_setCell_below HO.out (by simp; omega) _) (by simp; omega) _) (by omega)
  · exact (HB2.out.setCell (p := ⟨w.heap.size + 1, 0, none⟩) (by simp) _).setCell (p := ⟨w.heap.size + 1, 1, none⟩) (by simp) _

set_option maxRecDepth 100000 in
set_option maxHeartbeats 2000000 in
theorem specDual_no2 (m : Int) (a : Option Addr) (c : Nat) (zs : List Int) (w : World) (ha : Ints w w.heap.size a zs) (hx : zs.length ≤ 1048576) (hf : famIn m zs = true) (hi : inB (zs.length : Int) 1 6 = false) :
    Calls Tryd.prog 18 #[.agg #[.int .i64 m, .slice a zs.length c]] w (RetFB w 0 [] false) := by
  have HA := Lib.hid ((ha.below (below2 w (.cells #[.int .i64 m, .slice a zs.length c] 25) (.cells #[.int .i64 0, .slice none 0 0] 25))).mono (B' := ((w.alloc (.cells #[.int .i64 m, .slice a zs.length c] 25)).alloc (.cells #[.int .i64 0, .slice none 0 0] 25)).heap.size) (by simp; omega))
  have HF := Lib.hid hf
  have HI := Lib.hid hi
  clear hf ha hi
  go_enter Tryd.func18, Tryd.ntmps18
  go_wp2_with fail
  refine (specFamilyIn_any _ _ _ zs _ HA.out hx).mono ?_
  rintro e w1 ⟨rfl, hb⟩
  rw [HF.out]
  have b1 : w1.heap[w.heap.size + 1]? = some (.cells #[.int .i64 0, .slice none 0 0] 25 (0, 0)) := (hb.block _ (by simp)).trans (alloc2_1 w _ _)
  have HB := Lib.hid ((below2 w _ _).trans (hb.mono (by simp; omega)))
  have z1 : w.heap.size + 1 < w1.heap.size := by have := hb.size; simp at this; omega
  have b0 : w1.heap[w.heap.size]? = some (.cells #[.int .i64 m, .slice a zs.length c] 25 (0, 0)) := (hb.block _ (by simp; omega)).trans (alloc2_0 w _ _)
  have x1 := blk_cell b0 1
  simp only [cell2_1] at x1
  clear hb b0
  go_wp2_with fail
  refine (l6In_any _ _ _ _).mono ?_
  rintro e w1'' ⟨rfl, rfl⟩
  rw [HI.out]
  go_wp2_with fail
  refine (l1None_any _).mono ?_
  rintro e w2 ⟨a2, c2, rfl, ho2, hb⟩
  have b2 := (hb.block _ z1).trans b1
  have d0 := blk_cell b2 0
  have d1 := blk_cell b2 1
  have f0 := blk_frozen b2 0
  have f1 := blk_frozen b2 1
  simp only [cell2_0, cell2_1] at d0 d1
  have z2 : w.heap.size + 1 < w2.heap.size := by have := hb.size; omega
  have HB2 := Lib.hid (HB.out.trans (hb.mono (by omega)))
  have HO := Lib.hid ho2
  clear hb b1 b2 ho2
  go_wp2
  refine bodyPost_ret (v := .tuple #[.agg #[.int .i64 0, .slice a2 0 c2], .bool false]) (by simp [results, Tryd.results18, go_sem, d0, d1]) rfl ?_
  refine ⟨a2, c2, rfl, ?_, ?_⟩
  · exact own_mono (ownsRow_setCell_below (ownsRow_setCell_below HO.out (by simp; omega) _) (by simp; omega) _) (by omega)
  · exact (HB2.out.setCell (p := ⟨w.heap.size + 1, 0, none⟩) (by simp) _).setCell (p := ⟨w.heap.size + 1, 1, none⟩) (by simp) _

theorem dualIn_split (m : Int) (zs : List Int) : dualIn m zs = (famIn m zs && inB (zs.length : Int) 1 6) := by
  simp only [dualIn, inB]
  congr 1
  have h1 : decide (1 ≤ zs.length) = decide ((1 : Int) ≤ (zs.length : Int)) := by simp; omega
  have h2 : decide (zs.length ≤ 6) = decide ((zs.length : Int) ≤ 6) := by simp; omega
  rw [h1, h2]

theorem specDual_any (m : Int) (a : Option Addr) (c : Nat) (zs : List Int) (w : World) (ha : Ints w w.heap.size a zs) (hx : zs.length ≤ 1048576) :
    Calls Tryd.prog 18 #[.agg #[.int .i64 m, .slice a zs.length c]] w (RetFB w (dualM m zs) (dualZ m zs) (dualIn m zs)) := by
  unfold dualM dualZ
  cases h : famIn m zs
  · have hd : dualIn m zs = false := by simp [dualIn, h]
    rw [hd]
    exact specDual_no1 m a c zs w ha hx h
  · cases hi : inB (zs.length : Int) 1 6
    · have hd : dualIn m zs = false := by rw [dualIn_split, hi]; simp
      rw [hd]
      exact specDual_no2 m a c zs w ha hx h hi
    · have hd : dualIn m zs = true := by rw [dualIn_split, hi, h]; rfl
      rw [hd]
      obtain ⟨hm1, hm6, -, -⟩ := famIn_out h
      obtain ⟨k, rfl⟩ : ∃ k : Nat, m = (k : Int) := ⟨m.toNat, by omega⟩
      obtain ⟨h1, h2⟩ := inB_out hi
      exact specDual_yes k a c zs w ha hx h (by omega) (by omega)

theorem implDual_any (m : Int) (a : Option Addr) (c : Nat) (zs : List Int) (w : World) (ha : Ints w w.heap.size a zs) (hT : Tab w) (hx : zs.length ≤ 1048576) :
    Calls Tryd.prog 15 #[.agg #[.int .i64 m, .slice a zs.length c]] w (RetFB w (dualM m zs) (dualZ m zs) (dualIn m zs)) := by
  unfold dualM dualZ
  cases hd : dualIn m zs
  · exact implDual_no m a c zs w ha hx hd
  · have h : famIn m zs = true := by simp only [dualIn, Bool.and_eq_true] at hd; exact hd.1
    obtain ⟨hm1, hm6, -, -⟩ := famIn_out h
    obtain ⟨k, rfl⟩ : ∃ k : Nat, m = (k : Int) := ⟨m.toNat, by omega⟩
    simp only [dualIn, Bool.and_eq_true, decide_eq_true_eq] at hd
    exact implDual_yes k a c zs w ha hT hx h hd.2.1 hd.2.2

end Go.Proofs.YtacglafoahmcnaaDoor

/- It is proved that the dual of a dual is the family; conditions: those of each statement. -/
namespace Go.Proofs.YtacglafoahmcnaaDoor
open Go.RowKit

theorem mem_mem (s v : Nat) : v ∈ mem s ↔ v < 6 ∧ s.testBit v = true := by simp [mem]
theorem dualBits_test (ps : List (Nat × Nat)) (v i : Nat) : (dualBits ps v).testBit i = decide ((i, v) ∈ ps) := by
  have key : ∀ (l : List (Nat × Nat)) (t : Nat), (l.foldl (fun t p => if p.2 = v then t ||| 2 ^ p.1 else t) t).testBit i = (t.testBit i || decide ((i, v) ∈ l)) := by
    intro l
    induction l with
    | nil => intro t; simp
    | cons x l ih =>
      intro t
      rw [List.foldl_cons, ih]
      by_cases h : x.2 = v
      · rw [if_pos h, Nat.testBit_or, Nat.testBit_two_pow]
        by_cases h2 : x.1 = i
        · have : x = (i, v) := by rw [← h, ← h2]
          simp [this]
        · have h3 : ¬ (i, v) = x := fun e => h2 (by rw [← e])
          simp [h2, h3]
      · rw [if_neg h]
        have h3 : ¬ (i, v) = x := fun e => h (by rw [← e])
        simp [h3]
  have := key ps 0
  simpa [dualBits] using this

theorem prs_mem (zs : List Int) (n i v : Nat) : (i, v) ∈ prsP (pairs zs n) ↔ i < n ∧ v ∈ mem (zs[i]?.getD 0).toNat := by
  simp only [prsP, List.mem_flatMap, List.mem_map, pairs, List.mem_range]
  constructor
  · rintro ⟨p, ⟨j, hj, rfl⟩, u, hu, he⟩
    injection he with e1 e2
    subst e1; subst e2
    exact ⟨hj, hu⟩
  · rintro ⟨h1, h2⟩
    exact ⟨_, ⟨i, h1, rfl⟩, v, h2, rfl⟩

theorem dualBits_pow (zs : List Int) (n v : Nat) : dualBits (prsP (pairs zs n)) v < 2 ^ n := by
  apply Nat.lt_pow_two_of_testBit
  intro i hi
  rw [dualBits_test]
  simp only [decide_eq_false_iff_not, prs_mem]
  omega

theorem dual_dual (k : Nat) (zs : List Int) (hf : famIn (k : Int) zs = true) (h1 : 1 ≤ zs.length) (h6 : zs.length ≤ 6) :
    dualIn (zs.length : Int) (dualL k (prsP (pairs zs zs.length))) = true ∧
    dualM (zs.length : Int) (dualL k (prsP (pairs zs zs.length))) = (k : Int) ∧
    dualZ (zs.length : Int) (dualL k (prsP (pairs zs zs.length))) = zs := by
  obtain ⟨hm1, hm6, hl8, hz⟩ := famIn_out hf
  obtain ⟨n, hn⟩ : ∃ n, n = zs.length := ⟨_, rfl⟩
  rw [← hn] at h1 h6 ⊢
  have hfull : ∀ m : Nat, fullI (m : Int) = ((2 ^ m : Nat) : Int) - 1 := fun m => by simp [fullI]
  have hin : dualIn (n : Int) (dualL k (prsP (pairs zs n))) = true := by
    rw [dualIn_split, dualL_length, Bool.and_eq_true]
    refine ⟨?_, inB_true (by omega) (by omega)⟩
    simp only [famIn, Bool.and_eq_true, decide_eq_true_eq, List.all_eq_true]
    refine ⟨inB_true (by omega) (by omega), by rw [dualL_length]; omega, fun z hz' => ?_⟩
    obtain ⟨v, hv, rfl⟩ := List.mem_map.1 hz'
    have := dualBits_pow zs n v
    exact inB_true (by omega) (by rw [hfull]; omega)
  refine ⟨hin, by rw [dualM, if_pos hin, dualL_length], ?_⟩
  rw [dualZ, if_pos hin, dualL_length]
  apply List.ext_getElem
  · rw [dualL_length]; omega
  · intro v g1 g2
    have hvn : v < n := by rw [dualL_length] at g1; omega
    have hzv := hz zs[v] (List.getElem_mem _)
    rw [hfull] at hzv
    have hzn : zs[v].toNat < 2 ^ k := by omega
    have e1 : (dualL ((n : Int).toNat) (prsP (pairs (dualL k (prsP (pairs zs n))) k)))[v] = ((dualBits (prsP (pairs (dualL k (prsP (pairs zs n))) k)) v : Nat) : Int) := by simp [dualL]
    rw [e1]
    have e2 : dualBits (prsP (pairs (dualL k (prsP (pairs zs n))) k)) v = zs[v].toNat := by
      apply Nat.eq_of_testBit_eq
      intro u
      rw [dualBits_test]
      have h2 : ((u, v) ∈ prsP (pairs (dualL k (prsP (pairs zs n))) k)) ↔ zs[v].toNat.testBit u = true := by
        rw [prs_mem]
        constructor
        · rintro ⟨hu, hm⟩
          rw [dualL_at _ _ _ hu, Option.getD_some, Int.toNat_natCast, mem_mem, dualBits_test, decide_eq_true_eq, prs_mem] at hm
          have h3 := (mem_mem _ _).1 hm.2.2
          rw [show zs[v]?.getD 0 = zs[v] from by simp [g2]] at h3
          exact h3.2
        · intro ht
          have hu : u < k := by
            rcases Nat.lt_or_ge u k with h | h
            · exact h
            · rw [Nat.testBit_lt_two_pow (Nat.lt_of_lt_of_le hzn (Nat.pow_le_pow_right (by decide) h))] at ht; cases ht
          refine ⟨hu, ?_⟩
          rw [dualL_at _ _ _ hu, Option.getD_some, Int.toNat_natCast, mem_mem, dualBits_test, decide_eq_true_eq, prs_mem, mem_mem]
          rw [show zs[v]?.getD 0 = zs[v] from by simp [g2]]
          exact ⟨by omega, hvn, by omega, ht⟩
      cases hb : zs[v].toNat.testBit u
      · simp only [decide_eq_false_iff_not, h2, hb]; decide
      · simp only [decide_eq_true_eq, h2, hb]
    rw [e2]
    omega

end Go.Proofs.YtacglafoahmcnaaDoor

/- It is proved how boxed families and lists are kept while the laws go on; conditions: those of each statement. -/
namespace Go.Proofs.YtacglafoahmcnaaDoor
open Go.RowKit

/-- A family in a box. -/
structure FB (X : Nat) (m : Int) (a : Option Addr) (zs : List Int) (c : Nat) (W : World) : Prop where
  blk : HasBlk W X #[.int .i64 m, .slice a zs.length c] 25
  ints : Ints W W.heap.size a zs

theorem FB.step {X : Nat} {m : Int} {a : Option Addr} {zs : List Int} {c : Nat} {W W' : World} (h : FB X m a zs c W) (hb : Below W.heap.size W W') : FB X m a zs c W' :=
  ⟨(hb.block X (lt_of_some h.blk)).trans h.blk, (h.ints.below hb).mono hb.size⟩

theorem FB.start {w : World} {m : Int} {a : Option Addr} {zs : List Int} {c : Nat} (h : Ints w w.heap.size a zs) : FB w.heap.size m a zs c (w.alloc (.cells #[.int .i64 m, .slice a zs.length c] 25)) :=
  ⟨alloc_new w _, (h.below (below1 w _)).mono (by simp)⟩

theorem FB.x0 {X : Nat} {m : Int} {a : Option Addr} {zs : List Int} {c : Nat} {W : World} (h : FB X m a zs c W) : W.cell? ⟨X, 0, none⟩ = some (.int .i64 m) := (blk_cell h.blk 0).trans (cell2_0 _ _)
theorem FB.x1 {X : Nat} {m : Int} {a : Option Addr} {zs : List Int} {c : Nat} {W : World} (h : FB X m a zs c W) : W.cell? ⟨X, 1, none⟩ = some (.slice a zs.length c) := (blk_cell h.blk 1).trans (cell2_1 _ _)
theorem Ints.step {W W' : World} {a : Option Addr} {zs : List Int} (h : Ints W W.heap.size a zs) (hb : Below W.heap.size W W') : Ints W' W'.heap.size a zs := (h.below hb).mono hb.size
theorem sameB_refl (zs : List Int) : sameB zs zs = true := by simp [sameB]
end Go.Proofs.YtacglafoahmcnaaDoor

/- It is proved that both sides count the members of a set alike; conditions: those of each statement. -/
namespace Go.Proofs.YtacglafoahmcnaaDoor
open Go.RowKit
/-- How many members a set has. -/
def popN : Nat → Int → Int
  | 0, _ => 0
  | f + 1, z => if 0 < z then bits .and .i64 z 1 + popN f (z / 2) else 0

def pop (z : Int) : Int := popN 7 z
theorem ret_int {a b : Int} (h : a = b) : Ending.returned (.int .i64 a) = .returned (.int .i64 b) := by rw [h]
set_option maxRecDepth 100000 in
theorem size_any (z : Int) (w : World) (h0 : 0 ≤ z) (h : z ≤ 63) : Calls Tryd.prog 53 #[.int .i64 z] w fun e w' => e = .returned (.int .i64 (pop z)) ∧ w = w' := by
  go_enter Tryd.func53, Tryd.ntmps53
  go_wp2
  go_ret
  refine ⟨ret_int ?_, rfl⟩
  obtain ⟨i, rfl⟩ : ∃ i : Fin 64, z = (i.val : Int) := ⟨⟨z.toNat, by omega⟩, by simp; omega⟩
  clear h0 h
  revert i
  decide +kernel

set_option maxRecDepth 100000 in
theorem size_some (z : Int) : ∃ r : Int, ∀ W : World, Calls Tryd.prog 53 #[.int .i64 z] W fun e W' => e = .returned (.int .i64 r) ∧ W = W' := by
  apply Exists.intro
  intro W
  go_enter Tryd.func53, Tryd.ntmps53
  go_wp2
  go_ret
  exact ⟨rfl, rfl⟩

/-- What club.size returns at each number. -/
theorem size_fn : ∃ g : Int → Int, (∀ z W, Calls Tryd.prog 53 #[.int .i64 z] W fun e W' => e = .returned (.int .i64 (g z)) ∧ Below W.heap.size W W') ∧ ∀ z, 0 ≤ z → z ≤ 63 → g z = pop z := by
  have h : ∀ z : Int, ∃ r : Int, (∀ W : World, Calls Tryd.prog 53 #[.int .i64 z] W fun e W' => e = .returned (.int .i64 r) ∧ W = W') ∧ (0 ≤ z → z ≤ 63 → r = pop z) := fun z => by
    by_cases hz : 0 ≤ z ∧ z ≤ 63
    · exact ⟨pop z, fun W => size_any z W hz.1 hz.2, fun _ _ => rfl⟩
    · obtain ⟨r, hr⟩ := size_some z
      exact ⟨r, hr, fun a b => absurd ⟨a, b⟩ hz⟩
  refine ⟨fun z => Classical.choose (h z), fun z W => ((Classical.choose_spec (h z)).1 W).mono fun e W' ⟨he, hw⟩ => ⟨he, by rw [← hw]; exact Below.refl _ _⟩, fun z => (Classical.choose_spec (h z)).2⟩

end Go.Proofs.YtacglafoahmcnaaDoor
