/- It is proved what append does with any list of ints, and what slices.Grow and slices.Concat return; conditions: those of each statement. -/
import Derived.Lib.AppendZeros
import Derived.Maps.AppendAt
import Derived.Deep.AppendLies
import Derived.OwnWalk
import Derived.Test.YtemolmkkiagiiaaDoorRows
import Derived.WalkKit
import Derived.WalkSpells
import Derived.ProofKit
import Derived.OpenShut
import Derived.ShutString
import Derived.ChangeOld
import Derived.Below
import Derived.Deep.RegionHeld3
import Derived.Deep.QuietTactic
import Derived.BigQuiet
import Derived.Lib.Hide
import Derived.Lib.SmallJoins
import Derived.Outline
import Derived.Laws.MakeOwn
import Derived.Laws.OwnMore
import Derived.IntWalk
import Derived.RangeFuncNested
import Derived.RangeFuncBound
import Derived.RangeFuncCalls
import Derived.RangeFuncLeaves
import Derived.RangeFuncBox
import Derived.Shelf.Abstract
import Derived.Shelf.RegionOpen
import Derived.OwnWalkIn
import Derived.TacticsInMore
import Derived.LoopNIn
import Derived.LoopIn
import Derived.Test.YtemolmkkiagiiaaDoorPaaa
import Derived.Test.YtemolmkkiagiiaaDoorPaac
import Derived.Test.YtemolmkkiagiiaaDoorPaab
import Derived.Test.YtemolmkkiagiiaaDoorUa
namespace Go.Proofs.YtemolmkkiagiiaaDoor
open Go.RowKit

theorem Ints.add_ {w : World} {B : Nat} {x : Addr} {zs : List Int} (h : Ints w B (some x) zs) : ∀ j u, (zs.map (Value.int .i64))[j]? = some u → w.cell? (x.add j) = some u := by
  intro j u hu
  rcases h with rfl | ⟨b, off, e, hb, hc⟩
  · simp at hu
  · injection e with e
    subst e
    have hj : j < zs.length := by have := (List.getElem?_eq_some_iff.1 hu).1; simpa using this
    rw [show (⟨b, off, none⟩ : Addr).add j = ⟨b, off + j, none⟩ from by unfold Addr.add; split <;> simp_all, hc j hj]
    simp [hj] at hu ⊢
    exact hu

/-- append of any list of ints onto a row of the call's own. -/
theorem app_run {w : World} {B n : Nat} {v : Value} {xs : List Value} (h : w.ownsRow B 3 1 v n xs) (hB : B ≤ w.heap.size) (a : Option Addr) (c : Nat) (zs : List Int) (hz : Ints w w.heap.size a zs) (hn : n ≤ 1048576) (hzn : zs.length ≤ 1048576) :
    ∃ a' c' w', (Builtin.append_ #[23, 23] 23 #[v, .slice a zs.length c]).run Tryd.prog w = .ok (.slice a' (n + zs.length) c') w' ∧
      w'.ownsRow B 3 1 (.slice a' (n + zs.length) c') (n + zs.length) (xs ++ zs.map (Value.int .i64)) ∧ w.grownBy w' v.ownBlock := by
  obtain ⟨i0, hi0, hz0, hz1, hz2⟩ := info_parts Tryd.info3
  have form : ∀ {w' : World} {v' : Value} {k : Nat} {ys : List Value}, w'.ownsRow B 3 1 v' k ys → ∃ a' c', v' = .slice a' k c' := fun {w' v' k ys} h' => by
    rcases h'.2 with ⟨rfl, rfl⟩ | ⟨g, cap, cur, rfl, _⟩
    · exact ⟨none, 0, rfl⟩
    · exact ⟨_, _, rfl⟩
  rcases a with _ | x
  · have hzs : zs = [] := by
      rcases hz with h | ⟨_, _, e, _⟩
      · exact h
      · cases e
    subst hzs
    obtain ⟨a', c', rfl⟩ := form h
    refine ⟨a', c', w, ?_, by simpa using h, World.grownBy.refl _ _⟩
    rcases h.2 with ⟨e, rfl⟩ | ⟨g, cap, cur, e, _, _, hnc, _⟩
    · cases e; simp [Builtin.append_, run_underlying Tryd.underlying23, sizeOf, typeInfo, hi0, Builtin.lenOf, Builtin.firstCells]
    · cases e; simp [Builtin.append_, run_underlying Tryd.underlying23, sizeOf, typeInfo, hi0, Builtin.lenOf, Builtin.firstCells, hnc, storeCells]
  · obtain ⟨v', w', hr, h2, h3, _⟩ := run_append_own (P := Tryd.prog) w B 23 23 3 i0 (.int .i64 0) 1 8 Tryd.underlying23 hi0 hz0 hz1 hz2 rfl (by decide) v n xs h x zs.length c (zs.map (Value.int .i64)) (by simp) hz.add_ (ints_oneCell _ _) (by simp only [maxLen]; omega) (by omega) hB
    obtain ⟨a', c', rfl⟩ := form h2
    exact ⟨a', c', w', hr, h2, h3⟩

set_option maxRecDepth 100000 in
set_option maxHeartbeats 400000 in
theorem grow_any (T : Nat) (w : World) (hT : T ≤ 2097152) :
    Calls Tryd.prog 87 #[.slice none 0 0, .int .i64 T] w fun e w' => ∃ a c, e = .returned (.slice a 0 c) ∧ OwnI w' w.heap.size (.slice a 0 c) [] ∧ Below w.heap.size w w' := by
  obtain ⟨i0, hi0, hz0, hz1, hz2⟩ := info_parts Tryd.info3
  by_cases h0 : T = 0
  · subst h0
    go_enter Tryd.func87, Tryd.ntmps87
    go_wp2
    go_ret
    exact ⟨none, 0, rfl, own_nil _ _, Below.refl _ _⟩
  · have hT0 : 0 < T := by omega
    have hT1 : (0 : Int) < (T : Int) := by omega
    have hz' : ((T : Int) == 0) = false := by simp; omega
    have hrun := Lib.run_append_nil_zeros (P := Tryd.prog) w 23 3 23 3 i0 (.int .i64 0) .i64 .i64 Tryd.underlying23 Tryd.underlying3 hi0 hz0 T hT0 (by omega) (by omega) (by rw [hz2]; omega)
    have hge := grownCap_ge w T 0 3
    have hle := grownCap_le_maxLen w T 0 3 (by simp only [maxLen]; omega)
    obtain ⟨C, hC⟩ : ∃ C, C = grownCap w T 0 3 := ⟨_, rfl⟩
    rw [← hC] at hrun hge hle
    have hO : OwnI (w.drew.alloc (.cells (Builtin.zeroCells (Value.int .i64 0).cells T ++ Builtin.zeroCells (Value.int .i64 0).cells (C - T)) 3)) w.heap.size (.slice (some ⟨w.heap.size, 0, none⟩) 0 C) [] :=
      ⟨by simp, .inr ⟨w.heap.size, C, _, rfl, Nat.le_refl _, heap_alloc_new w.drew _, Nat.zero_le _, hle, by simp [size_zeroCells, Value.cells]; omega, by simp⟩⟩
    obtain ⟨W', hW'⟩ : ∃ W', W' = w.drew.alloc (.cells (Builtin.zeroCells (Value.int .i64 0).cells T ++ Builtin.zeroCells (Value.int .i64 0).cells (C - T)) 3) := ⟨_, rfl⟩
    have hB : Below w.heap.size w W' := by rw [hW']; exact (Below.refl _ _).drew.alloc (Nat.le_refl _) _
    rw [← hW'] at hO hrun
    have HO := Lib.hid hO
    have HB := Lib.hid hB
    have HR := Lib.hid hrun
    have hC0 : 0 < C := by omega
    simp only [maxLen] at hle
    clear hO hB hrun hW' hC hz0 hz1 hz2
    go_enter Tryd.func87, Tryd.ntmps87
    go_wp2_with (at_builtin; refine Lib.wpList_append_run _ rfl _ _ 23 3 rfl _ _ rfl rfl _ _ HR.out ?_)
    go_ret
    exact ⟨_, _, rfl, HO.out, HB.out⟩

/-- The sum of the lengths of the first k of two lists. -/
def sumLen (n d : Nat) (k : Nat) : Nat := if k = 0 then 0 else if k = 1 then n else n + d

def catPart (zs ys : List Int) (k : Nat) : List Int := if k = 0 then [] else if k = 1 then zs else zs ++ ys
set_option maxRecDepth 100000 in
set_option maxHeartbeats 1600000 in
theorem concat_any (a b : Option Addr) (c d s : Nat) (zs ys : List Int) (w : World) (ha : Ints w w.heap.size a zs) (hb : Ints w w.heap.size b ys) (hx : zs.length ≤ 1048576) (hy : ys.length ≤ 1048576)
    (s0 : w.cell? ⟨s, 0, none⟩ = some (.slice a zs.length c)) (s1 : w.cell? ⟨s, 1, none⟩ = some (.slice b ys.length d)) :
    Calls Tryd.prog 62 #[.slice (some ⟨s, 0, none⟩) 2 2] w fun e w' => ∃ a' c', e = .returned (.slice a' (zs ++ ys).length c') ∧ OwnI w' w.heap.size (.slice a' (zs ++ ys).length c') (zs ++ ys) ∧ Below w.heap.size w w' := by
  have hs : s < w.heap.size := lt_of_cell s0
  have HA := Lib.hid ha
  have HB := Lib.hid hb
  clear ha hb
  go_enter Tryd.func62, Tryd.ntmps62
  go_wp2
  go_loop [3, 5, 11] (fun t e i => ∃ k : Nat, k ≤ 2 ∧ i = .int .i64 k ∧ t = .int .i64 (sumLen zs.length ys.length k)) (fun _ _ i => 2 - (intOf i).toNat)
  case atStart => exact ⟨0, by omega, rfl, rfl⟩
  case round =>
    obtain ⟨k, hk, rfl, rfl⟩ := hrel
    obtain rfl | rfl | rfl : k = 0 ∨ k = 1 ∨ k = 2 := by omega
    · have e0 : sumLen zs.length ys.length 0 = 0 := rfl
      go_wp2
      go_round
      case rel => exact ⟨1, by omega, rfl, rfl⟩
      case measure => simp [intOf]
    · have H1 : Hid (sumLen zs.length ys.length 1 = zs.length) := Lib.hid rfl
      rw [H1.out]
      have h2 : (zs.length : Int) + (ys.length : Int) ≤ 2097152 := by omega
      go_wp2
      go_round
      case rel => exact ⟨2, by omega, rfl, rfl⟩
      case measure => simp [intOf]
    · have H2 : Hid (sumLen zs.length ys.length 2 = zs.length + ys.length) := Lib.hid rfl
      go_wp2_with fail
      refine (grow_any _ _ (by rw [H2.out]; omega)).mono ?_
      rintro e w1 ⟨g, cp, rfl, ho, hb⟩
      have HO := Lib.hid ho
      have HW := Lib.hid hb
      clear ho hb
      go_wp2
      go_loopw [6, 8, 27] (fun v e i wr => ∃ (k : Nat) (a' : Option Addr) (c' : Nat), k ≤ 2 ∧ i = .int .i64 k ∧ v = .slice a' (catPart zs ys k).length c' ∧ OwnI wr w.heap.size (.slice a' (catPart zs ys k).length c') (catPart zs ys k) ∧ Below w.heap.size w wr) (fun _ _ i _ => 2 - (intOf i).toNat)
      case atStart => exact ⟨0, _, _, by omega, rfl, rfl, HO.out, HW.out⟩
      case round =>
        obtain ⟨k, a', c', hk, rfl, rfl, ho, hb⟩ := hrel
        have y0 := (hb.cell (p := ⟨s, 0, none⟩) hs).trans s0
        have y1 := (hb.cell (p := ⟨s, 1, none⟩) hs).trans s1
        have hsz := hb.size
        obtain rfl | rfl | rfl : k = 0 ∨ k = 1 ∨ k = 2 := by omega
        · have P0 : catPart zs ys 0 = [] := rfl
          have P1 : catPart zs ys 1 = zs := rfl
          rw [P0] at ho
          obtain ⟨a2, c2, w2, hrun, ho2, hg2⟩ := app_run (n := 0) ho hsz a c zs ((HA.out.below hb).mono hsz) (by omega) hx
          have HR := Lib.hid hrun
          have HO2 := Lib.hid ho2
          have HB2 := Lib.hid (hb.grown hg2 hsz (fun g e => (World.ownsRow.lt ho g e).1))
          rw [P0]
          clear hrun ho2 hg2 ho hb
          go_wp2_with (at_builtin; refine Lib.wpList_append_run _ rfl _ _ 23 23 rfl _ _ rfl rfl _ _ HR.out ?_)
          go_roundw
          case rel => exact ⟨1, a2, c2, by omega, rfl, by rw [P1], by have h := HO2.out; rw [P1]; unfold OwnI; simpa using h, HB2.out⟩
          case measure => simp [intOf]
        · have P1 : catPart zs ys 1 = zs := rfl
          have P2 : catPart zs ys 2 = zs ++ ys := rfl
          rw [P1] at ho
          obtain ⟨a2, c2, w2, hrun, ho2, hg2⟩ := app_run ho hsz b d ys ((HB.out.below hb).mono hsz) hx hy
          have HR := Lib.hid hrun
          have HO2 := Lib.hid ho2
          have HB2 := Lib.hid (hb.grown hg2 hsz (fun g e => (World.ownsRow.lt ho g e).1))
          rw [P1]
          clear hrun ho2 hg2 ho hb
          go_wp2_with (at_builtin; refine Lib.wpList_append_run _ rfl _ _ 23 23 rfl _ _ rfl rfl _ _ HR.out ?_)
          go_roundw
          case rel => exact ⟨2, a2, c2, by omega, rfl, by rw [P2]; simp, by have h := HO2.out; rw [P2]; unfold OwnI; simpa using h, HB2.out⟩
          case measure => simp [intOf]
        · have P2 : catPart zs ys 2 = zs ++ ys := rfl
          rw [P2] at ho ⊢
          have HO2 := Lib.hid ho
          have HB2 := Lib.hid hb
          clear ho hb
          go_wp2
          go_ret
          exact ⟨a', c', rfl, HO2.out, HB2.out⟩

end Go.Proofs.YtemolmkkiagiiaaDoor
