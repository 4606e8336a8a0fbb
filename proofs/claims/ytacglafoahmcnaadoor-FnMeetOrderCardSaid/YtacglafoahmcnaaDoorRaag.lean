/- It is proved what with returns, what a dual is, and what FamilyDual of the program returns where there is none; conditions: those of each statement. -/
import Derived.Test.YtacglafoahmcnaaDoorRows
import Derived.WalkKit
import Derived.WalkSpells
import Derived.ProofKit
import Derived.OpenShut
import Derived.ShutString
import Derived.ChangeOld
import Derived.Below
import Derived.Deep.RegionHeld3
import Derived.Deep.QuietTactic
import Derived.BigQuiet
import Derived.Lib.Hide
import Derived.Lib.SmallJoins
import Derived.Outline
import Derived.Laws.MakeOwn
import Derived.Laws.OwnMore
import Derived.IntWalk
import Derived.RangeFuncNested
import Derived.RangeFuncBound
import Derived.RangeFuncCalls
import Derived.RangeFuncLeaves
import Derived.RangeFuncBox
import Derived.Shelf.Abstract
import Derived.Shelf.RegionOpen
import Derived.OwnWalkIn
import Derived.TacticsInMore
import Derived.LoopNIn
import Derived.LoopIn
import Derived.Maps.AppendAt
import Derived.Deep.AppendLies
import Derived.OwnWalk
import Derived.Shelf.Spec.TrailingZeros
import Derived.Test.YtacglafoahmcnaaDoorRaaa
import Derived.Test.YtacglafoahmcnaaDoorRaac
import Derived.Test.YtacglafoahmcnaaDoorRaad
import Derived.Test.YtacglafoahmcnaaDoorRaab
import Derived.Test.YtacglafoahmcnaaDoorRaae
import Derived.Test.YtacglafoahmcnaaDoorTb
import Derived.Lib.AppendZeros
namespace Go.Proofs.YtacglafoahmcnaaDoor
open Go.RowKit Go.Shelf

set_option maxRecDepth 100000 in
theorem or_fin : ∀ x : Fin 256, ∀ p : Fin 8, bits BinOp.or IntKind.i64 (x.val : Int) (2 ^ p.val) = ((x.val ||| 2 ^ p.val : Nat) : Int) := by decide +kernel

theorem or_at (x p : Nat) (hx : x < 256) (hp : p < 8) : bits BinOp.or IntKind.i64 (x : Int) (2 ^ p) = ((x ||| 2 ^ p : Nat) : Int) := or_fin ⟨x, hx⟩ ⟨p, hp⟩
theorem p2_small (p : Nat) (hp : p < 8) : (2 : Int) ^ p ≤ 128 ∧ 1 ≤ (2 : Int) ^ p := by
  obtain rfl | rfl | rfl | rfl | rfl | rfl | rfl | rfl : p = 0 ∨ p = 1 ∨ p = 2 ∨ p = 3 ∨ p = 4 ∨ p = 5 ∨ p = 6 ∨ p = 7 := by omega
  all_goals decide

theorem with_any (x p : Nat) (hx : x < 256) (hp : p < 8) (w : World) :
    Calls Tryd.prog 91 #[.int .i64 (x : Int), .int .i64 (p : Int)] w fun e w' => e = .returned (.int .i64 ((x ||| 2 ^ p : Nat) : Int)) ∧ w = w' := by
  have hp8 : (p : Int) < 8 := by omega
  obtain ⟨h1, h2⟩ := p2_small p hp
  have HO := Lib.hid (or_at x p hx hp)
  go_enter Tryd.func91, Tryd.ntmps91
  go_wp2
  go_ret
  exact ⟨by rw [HO.out]; rfl, rfl⟩

/-- The clubs that have a member, as a set of places. -/
def dualBits (ps : List (Nat × Nat)) (v : Nat) : Nat := ps.foldl (fun t p => if p.2 = v then t ||| 2 ^ p.1 else t) 0

def dualL (m : Nat) (ps : List (Nat × Nat)) : List Int := (List.range m).map fun v => ((dualBits ps v : Nat) : Int)
theorem dualL_length (m : Nat) (ps : List (Nat × Nat)) : (dualL m ps).length = m := by simp [dualL]
theorem dualL_at (m : Nat) (ps : List (Nat × Nat)) (v : Nat) (h : v < m) : (dualL m ps)[v]? = some ((dualBits ps v : Nat) : Int) := by simp [dualL, h]
theorem dualL_nil (m : Nat) : dualL m [] = List.replicate m 0 := by
  apply List.ext_getElem <;> simp [dualL, dualBits]

theorem dualBits_snoc (ps : List (Nat × Nat)) (p u v : Nat) : dualBits (ps ++ [(p, u)]) v = if u = v then dualBits ps v ||| 2 ^ p else dualBits ps v := by simp [dualBits]
theorem dualL_snoc (m : Nat) (ps : List (Nat × Nat)) (p u : Nat) : dualL m (ps ++ [(p, u)]) = (dualL m ps).set u ((dualBits ps u ||| 2 ^ p : Nat) : Int) := by
  apply List.ext_getElem
  · simp [dualL]
  · intro i h1 h2
    have hi : i < m := by simpa [dualL] using h1
    simp only [dualL, List.getElem_map, List.getElem_range, List.getElem_set, dualBits_snoc]
    by_cases h : u = i
    · subst h; simp
    · simp [h]

theorem dualBits_lt (ps : List (Nat × Nat)) (v : Nat) (h : ∀ x ∈ ps, x.1 < 8) : dualBits ps v < 256 := by
  have : ∀ t, t < 256 → ps.foldl (fun t p => if p.2 = v then t ||| 2 ^ p.1 else t) t < 256 := by
    induction ps with
    | nil => intro t ht; exact ht
    | cons x ps ih =>
      intro t ht
      rw [List.foldl_cons]
      refine ih (fun y hy => h y (by simp [hy])) _ ?_
      split
      · exact Nat.or_lt_two_pow (n := 8) ht (Nat.pow_lt_pow_right (by decide) (h x (by simp)))
      · exact ht
  exact this 0 (by decide)

theorem dualBits_club (ps : List (Nat × Nat)) (i : Nat) (us : List Nat) (v : Nat) : dualBits (ps ++ us.map fun u => (i, u)) v = if v ∈ us then dualBits ps v ||| 2 ^ i else dualBits ps v := by
  induction us generalizing ps with
  | nil => simp
  | cons u us ih =>
    rw [List.map_cons, show ps ++ (i, u) :: us.map (fun u => (i, u)) = (ps ++ [(i, u)]) ++ us.map (fun u => (i, u)) from by simp, ih, dualBits_snoc]
    by_cases h : u = v
    · subst h
      simp [Nat.or_assoc]
    · have h' : ¬ v = u := fun e => h e.symm
      simp [h, h']

set_option maxRecDepth 100000 in
theorem mem_bit : ∀ s, s < 64 → ∀ v, v < 6 → ((s >>> v) &&& 1) = if v ∈ mem s then 1 else 0 := by decide +kernel

/-- All pairs of a place and a member of the club there. -/
def prsP (l : List (Nat × Int)) : List (Nat × Nat) := l.flatMap fun p => (mem p.2.toNat).map fun u => (p.1, u)

theorem prsP_snoc (l : List (Nat × Int)) (p : Nat × Int) : prsP (l ++ [p]) = prsP l ++ (mem p.2.toNat).map fun u => (p.1, u) := by simp [prsP]
theorem prsP_lt (l : List (Nat × Int)) (h : ∀ p ∈ l, p.1 < 8) : ∀ x ∈ prsP l, x.1 < 8 := by
  intro x hx
  obtain ⟨p, hp, hx2⟩ := List.mem_flatMap.1 hx
  obtain ⟨u, _, rfl⟩ := List.mem_map.1 hx2
  exact h p hp

def plc {m : Nat} (pre : List { p // IsClub m p }) : List (Nat × Nat) := prsP (pre.map (·.1))
theorem plc_snoc {m : Nat} (pre : List { p // IsClub m p }) (x : { p // IsClub m p }) : plc (pre ++ [x]) = plc pre ++ (mem x.1.2.toNat).map fun u => (x.1.1, u) := by
  simp only [plc, List.map_append, List.map_cons, List.map_nil, prsP_snoc]

theorem plc_lt {m : Nat} (pre : List { p // IsClub m p }) : ∀ x ∈ plc pre, x.1 < 8 := prsP_lt _ (by
  intro p hp
  obtain ⟨y, _, rfl⟩ := List.mem_map.1 hp
  exact y.2.1)

/-- The pairs of one club so far. -/
def row1 {m : Nat} (i : Nat) (us : List (Mem m)) : List (Nat × Nat) := us.map fun u => (i, u.1)

theorem row1_snoc {m : Nat} (i : Nat) (us : List (Mem m)) (u : Mem m) : row1 i (us ++ [u]) = row1 i us ++ [(i, u.1)] := by simp [row1]
theorem row1_lt {m : Nat} (i : Nat) (hi : i < 8) (us : List (Mem m)) : ∀ x ∈ row1 i us, x.1 < 8 := by
  intro x hx
  obtain ⟨u, _, rfl⟩ := List.mem_map.1 hx
  exact hi

theorem row1_all {m : Nat} (i : Nat) (us : List (Mem m)) (l : List Nat) (h : us.map (·.1) = l) : row1 i us = l.map fun u => (i, u) := by
  rw [← h, row1, List.map_map]; rfl

/-- The dual. -/
def dualIn (m : Int) (zs : List Int) : Bool := famIn m zs && (decide (1 ≤ zs.length) && decide (zs.length ≤ 6))

def dualM (m : Int) (zs : List Int) : Int := if dualIn m zs then (zs.length : Int) else 0
def dualZ (m : Int) (zs : List Int) : List Int := if dualIn m zs then dualL m.toNat (prsP (pairs zs zs.length)) else []
theorem dualZ_len (m : Int) (zs : List Int) : (dualZ m zs).length ≤ 1048576 := by
  unfold dualZ
  split
  · rename_i h
    have := (famIn_out (show famIn m zs = true by simp only [dualIn, Bool.and_eq_true] at h; exact h.1)).2.1
    rw [dualL_length]; omega
  · simp

theorem own_nil (w : World) (B : Nat) : OwnI w B (.slice none 0 0) [] := World.ownsRow_nil w B 3 1
set_option maxRecDepth 100000 in
set_option maxHeartbeats 2000000 in
theorem implDual_no (m : Int) (a : Option Addr) (c : Nat) (zs : List Int) (w : World) (ha : Ints w w.heap.size a zs) (hx : zs.length ≤ 1048576) (hf : dualIn m zs = false) :
    Calls Tryd.prog 15 #[.agg #[.int .i64 m, .slice a zs.length c]] w (RetFB w 0 [] false) := by
  have HB0 := Lib.hid (below2 w (.cells #[.int .i64 m, .slice a zs.length c] 25) (.cells #[.int .i64 0, .slice none 0 0] 25))
  have HA := Lib.hid (ha.below HB0.out)
  cases h1 : famIn m zs
  · have HF := Lib.hid h1
    clear hf ha h1
    go_enter Tryd.func15, Tryd.ntmps15
    go_wp2_with fail
    refine (implFamilyIn_any _ _ _ zs _ (HA.out.mono (by simp; omega)) hx).mono ?_
    rintro e w1 ⟨rfl, hb⟩
    rw [HF.out]
    have b2 : w1.heap[w.heap.size + 1]? = some (.cells #[.int .i64 0, .slice none 0 0] 25 (0, 0)) := (hb.block _ (by simp)).trans (alloc2_1 w _ _)
    have d0 := blk_cell b2 0
    have d1 := blk_cell b2 1
    have f0 := blk_frozen b2 0
    have f1 := blk_frozen b2 1
    simp only [cell2_0, cell2_1] at d0 d1
    have HB := Lib.hid (HB0.out.trans (hb.mono (by simp; omega)))
    clear hb b2
    go_wp2
    refine bodyPost_ret (v := .tuple #[.agg #[.int .i64 0, .slice none 0 0], .bool false]) (by simp [results, Tryd.results15, go_sem, d0, d1]) rfl ?_
    exact ⟨none, 0, rfl, own_nil _ _, (HB.out.setCell (p := ⟨w.heap.size + 1, 0, none⟩) (by simp) _).setCell (p := ⟨w.heap.size + 1, 1, none⟩) (by simp) _⟩
  · have HF := Lib.hid h1
    obtain ⟨n, hn⟩ : ∃ n, n = zs.length := ⟨_, rfl⟩
    have hc : n = 0 ∨ 6 < n := by
      simp only [dualIn, h1, Bool.true_and, Bool.and_eq_false_iff, decide_eq_false_iff_not] at hf
      omega
    have HN := Lib.hid hn
    rw [← hn] at hx
    clear hf ha h1 hn
    rcases hc with h2 | h2
    · go_enter Tryd.func15, Tryd.ntmps15
      go_wp2_with fail
      refine (implFamilyIn_any _ _ _ zs _ (HA.out.mono (by simp; omega)) (by rw [← HN.out]; exact hx)).mono ?_
      rintro e w1 ⟨rfl, hb⟩
      rw [HF.out]
      have b0 : w1.heap[w.heap.size]? = some (.cells #[.int .i64 m, .slice a zs.length c] 25 (0, 0)) := (hb.block _ (by simp; omega)).trans (alloc2_0 w _ _)
      have b2 : w1.heap[w.heap.size + 1]? = some (.cells #[.int .i64 0, .slice none 0 0] 25 (0, 0)) := (hb.block _ (by simp)).trans (alloc2_1 w _ _)
      rw [← HN.out] at b0
      have x1 := blk_cell b0 1
      have d0 := blk_cell b2 0
      have d1 := blk_cell b2 1
      have f0 := blk_frozen b2 0
      have f1 := blk_frozen b2 1
      simp only [cell2_0, cell2_1] at d0 d1 x1
      have HB := Lib.hid (HB0.out.trans (hb.mono (by simp; omega)))
      clear hb b2 b0
      go_wp2
      refine bodyPost_ret (v := .tuple #[.agg #[.int .i64 0, .slice none 0 0], .bool false]) (by simp [results, Tryd.results15, go_sem, d0, d1]) rfl ?_
      exact ⟨none, 0, rfl, own_nil _ _, (HB.out.setCell (p := ⟨w.heap.size + 1, 0, none⟩) (by simp) _).setCell (p := ⟨w.heap.size + 1, 1, none⟩) (by simp) _⟩
    · go_enter Tryd.func15, Tryd.ntmps15
      go_wp2_with fail
      refine (implFamilyIn_any _ _ _ zs _ (HA.out.mono (by simp; omega)) (by rw [← HN.out]; exact hx)).mono ?_
      rintro e w1 ⟨rfl, hb⟩
      rw [HF.out]
      have b0 : w1.heap[w.heap.size]? = some (.cells #[.int .i64 m, .slice a zs.length c] 25 (0, 0)) := (hb.block _ (by simp; omega)).trans (alloc2_0 w _ _)
      have b2 : w1.heap[w.heap.size + 1]? = some (.cells #[.int .i64 0, .slice none 0 0] 25 (0, 0)) := (hb.block _ (by simp)).trans (alloc2_1 w _ _)
      rw [← HN.out] at b0
      have x1 := blk_cell b0 1
      have d0 := blk_cell b2 0
      have d1 := blk_cell b2 1
      have f0 := blk_frozen b2 0
      have f1 := blk_frozen b2 1
      simp only [cell2_0, cell2_1] at d0 d1 x1
      have HB := Lib.hid (HB0.out.trans (hb.mono (by simp; omega)))
      clear hb b2 b0
      go_wp2
      refine bodyPost_ret (v := .tuple #[.agg #[.int .i64 0, .slice none 0 0], .bool false]) (by simp [results, Tryd.results15, go_sem, d0, d1]) rfl ?_
      exact ⟨none, 0, rfl, own_nil _ _, (HB.out.setCell (p := ⟨w.heap.size + 1, 0, none⟩) (by simp) _).setCell (p := ⟨w.heap.size + 1, 1, none⟩) (by simp) _⟩

end Go.Proofs.YtacglafoahmcnaaDoor

/- It is proved what append does with any list of ints, and what slices.Grow and slices.Concat return; conditions: those of each statement. -/
namespace Go.Proofs.YtacglafoahmcnaaDoor
open Go.RowKit

theorem Ints.add_ {w : World} {B : Nat} {x : Addr} {zs : List Int} (h : Ints w B (some x) zs) : ∀ j u, (zs.map (Value.int .i64))[j]? = some u → w.cell? (x.add j) = some u := by
  intro j u hu
  rcases h with rfl | ⟨b, off, e, hb, hc⟩
  · simp at hu
  · injection e with e
    subst e
    have hj : j < zs.length := by have := (List.getElem?_eq_some_iff.1 hu).1; simpa using this
    rw [show (⟨b, off, none⟩ : Addr).add j = ⟨b, off + j, none⟩ from by unfold Addr.add; split <;> simp_all, hc j hj]
    simp [hj] at hu ⊢
    exact hu

/-- append of any list of ints onto a row of the call's own. -/
theorem app_run {w : World} {B n : Nat} {v : Value} {xs : List Value} (h : w.ownsRow B 3 1 v n xs) (hB : B ≤ w.heap.size) (a : Option Addr) (c : Nat) (zs : List Int) (hz : Ints w w.heap.size a zs) (hn : n ≤ 1048576) (hzn : zs.length ≤ 1048576) :
    ∃ a' c' w', (Builtin.append_ #[23, 23] 23 #[v, .slice a zs.length c]).run Tryd.prog w = .ok (.slice a' (n + zs.length) c') w' ∧
      w'.ownsRow B 3 1 (.slice a' (n + zs.length) c') (n + zs.length) (xs ++ zs.map (Value.int .i64)) ∧ w.grownBy w' v.ownBlock := by
  obtain ⟨i0, hi0, hz0, hz1, hz2⟩ := info_parts Tryd.info3
  have form : ∀ {w' : World} {v' : Value} {k : Nat} {ys : List Value}, w'.ownsRow B 3 1 v' k ys → ∃ a' c', v' = .slice a' k c' := fun {w' v' k ys} h' => by
    rcases h'.2 with ⟨rfl, rfl⟩ | ⟨g, cap, cur, rfl, _⟩
    · exact ⟨none, 0, rfl⟩
    · exact ⟨_, _, rfl⟩
  rcases a with _ | x
  · have hzs : zs = [] := by
      rcases hz with h | ⟨_, _, e, _⟩
      · exact h
      · cases e
    subst hzs
    obtain ⟨a', c', rfl⟩ := form h
    refine ⟨a', c', w, ?_, by simpa using h, World.grownBy.refl _ _⟩
    rcases h.2 with ⟨e, rfl⟩ | ⟨g, cap, cur, e, _, _, hnc, _⟩
    · cases e; simp [Builtin.append_, run_underlying Tryd.underlying23, sizeOf, typeInfo, hi0, Builtin.lenOf, Builtin.firstCells]
    · cases e; simp [Builtin.append_, run_underlying Tryd.underlying23, sizeOf, typeInfo, hi0, Builtin.lenOf, Builtin.firstCells, hnc, storeCells]
  · obtain ⟨v', w', hr, h2, h3, _⟩ := run_append_own (P := Tryd.prog) w B 23 23 3 i0 (.int .i64 0) 1 8 Tryd.underlying23 hi0 hz0 hz1 hz2 rfl (by decide) v n xs h x zs.length c (zs.map (Value.int .i64)) (by simp) hz.add_ (ints_oneCell _ _) (by simp only [maxLen]; omega) (by omega) hB
    obtain ⟨a', c', rfl⟩ := form h2
    exact ⟨a', c', w', hr, h2, h3⟩

end Go.Proofs.YtacglafoahmcnaaDoor

/- It is proved what the FamilyDrop of the program returns; conditions: those of each statement. -/
namespace Go.Proofs.YtacglafoahmcnaaDoor
open Go.RowKit

/-- Without the club at place p. -/
def without (zs : List Int) (p : Nat) : List Int := zs.take p ++ zs.drop (p + 1)

theorem Ints.take_ {w : World} {B : Nat} {a : Option Addr} {zs : List Int} (h : Ints w B a zs) (p : Nat) : Ints w B a (zs.take p) := by
  rcases h with rfl | ⟨b, off, e, hb, hc⟩
  · exact .inl (by simp)
  · exact .inr ⟨b, off, e, hb, fun j hj => by
      rw [List.length_take] at hj
      rw [hc j (by omega), List.getElem?_take, if_pos (by omega)]⟩

theorem Ints.drop_ {w : World} {B b off : Nat} {zs : List Int} (h : Ints w B (some ⟨b, off, none⟩) zs) (p : Nat) (hp : p < zs.length) : Ints w B (some ⟨b, off + p, none⟩) (zs.drop p) := by
  rcases h with rfl | ⟨b', off', e, hb, hc⟩
  · simp at hp
  · injection e with e
    injection e with e1 e2
    subst e1; subst e2
    exact .inr ⟨b, off + p, rfl, hb, fun j hj => by
      rw [List.length_drop] at hj
      have := hc (p + j) (by omega)
      rw [Nat.add_assoc, this, List.getElem?_drop]⟩

theorem two_far {w2 : World} {H : Nat} {u0 u1 v0 v1 : Value} (h0 : w2.cell? ⟨H, 0, none⟩ = some u0) (h1 : w2.cell? ⟨H, 1, none⟩ = some u1) :
    ((w2.setCell ⟨H + 1, 0, none⟩ v0).setCell ⟨H + 1, 1, none⟩ v1).cell? ⟨H, 0, none⟩ = some u0 ∧ ((w2.setCell ⟨H + 1, 0, none⟩ v0).setCell ⟨H + 1, 1, none⟩ v1).cell? ⟨H, 1, none⟩ = some u1 :=
  ⟨(World.cell?_setCell_other _ _ _ _ (by simp)).trans ((World.cell?_setCell_other _ _ _ _ (by simp)).trans h0), (World.cell?_setCell_other _ _ _ _ (by simp)).trans ((World.cell?_setCell_other _ _ _ _ (by simp)).trans h1)⟩

/-- The condition of FamilyDrop. -/
def dropIn (m : Int) (zs : List Int) (x : Int) : Bool := famIn m zs && inB x 0 ((zs.length : Int) - 1)

def dropZ (m : Int) (zs : List Int) (x : Int) : List Int := if dropIn m zs x then without zs x.toNat else []
def dropM (m : Int) (zs : List Int) (x : Int) : Int := if dropIn m zs x then m else 0
end Go.Proofs.YtacglafoahmcnaaDoor
