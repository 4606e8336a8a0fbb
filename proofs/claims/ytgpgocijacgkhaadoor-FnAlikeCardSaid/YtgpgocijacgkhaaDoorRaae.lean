/- It is proved what with returns, what a dual is, and what FamilyDual of the program returns where there is none; conditions: those of each statement. -/
import Derived.Test.YtgpgocijacgkhaaDoorRows
import Derived.WalkKit
import Derived.WalkSpells
import Derived.ProofKit
import Derived.OpenShut
import Derived.ShutString
import Derived.ChangeOld
import Derived.Below
import Derived.Deep.RegionHeld3
import Derived.Deep.QuietTactic
import Derived.BigQuiet
import Derived.Lib.Hide
import Derived.Lib.SmallJoins
import Derived.Outline
import Derived.Laws.MakeOwn
import Derived.Laws.OwnMore
import Derived.IntWalk
import Derived.RangeFuncNested
import Derived.RangeFuncBound
import Derived.RangeFuncCalls
import Derived.RangeFuncLeaves
import Derived.RangeFuncBox
import Derived.Shelf.Abstract
import Derived.Shelf.RegionOpen
import Derived.OwnWalkIn
import Derived.TacticsInMore
import Derived.LoopNIn
import Derived.LoopIn
import Derived.Maps.AppendAt
import Derived.Deep.AppendLies
import Derived.OwnWalk
import Derived.Shelf.Spec.TrailingZeros
import Derived.Test.YtgpgocijacgkhaaDoorRaaa
import Derived.Test.YtgpgocijacgkhaaDoorRaab
import Derived.Test.YtgpgocijacgkhaaDoorRaac
import Derived.Test.YtgpgocijacgkhaaDoorTb
import Derived.RowKit
import Derived.Laws.CopyRow
import Derived.Lib.SlBuf
import Derived.RangeFuncWrites
import Derived.StillTailTactics
import Derived.Maps.OwnIn
import Derived.Maps.Ext
import Derived.DeepKeys4
import Derived.MapKept
import Derived.Lib.AppendZeros
import Derived.Lib.SlicesCompact
import Derived.Lib.OwnBridge
import Derived.OrdersIn
import Derived.TacticsIn
import Derived.Shelf.Sort.Plain
import Derived.Shelf.Slices.In.SortNone
import Derived.Shelf.Slices.CompactI
import Derived.Ground.Names2Prog
import Derived.Lib.SliceRun
import Derived.StillTail
import Derived.StillTactics
namespace Go.Proofs.YtgpgocijacgkhaaDoor
open Go.RowKit Go.Shelf

set_option maxRecDepth 100000 in
theorem or_fin : ∀ x : Fin 256, ∀ p : Fin 8, bits BinOp.or IntKind.i64 (x.val : Int) (2 ^ p.val) = ((x.val ||| 2 ^ p.val : Nat) : Int) := by decide +kernel

theorem or_at (x p : Nat) (hx : x < 256) (hp : p < 8) : bits BinOp.or IntKind.i64 (x : Int) (2 ^ p) = ((x ||| 2 ^ p : Nat) : Int) := or_fin ⟨x, hx⟩ ⟨p, hp⟩
theorem p2_small (p : Nat) (hp : p < 8) : (2 : Int) ^ p ≤ 128 ∧ 1 ≤ (2 : Int) ^ p := by
  obtain rfl | rfl | rfl | rfl | rfl | rfl | rfl | rfl : p = 0 ∨ p = 1 ∨ p = 2 ∨ p = 3 ∨ p = 4 ∨ p = 5 ∨ p = 6 ∨ p = 7 := by omega
  all_goals decide

theorem with_any (x p : Nat) (hx : x < 256) (hp : p < 8) (w : World) :
    Calls Tryd.prog 62 #[.int .i64 (x : Int), .int .i64 (p : Int)] w fun e w' => e = .returned (.int .i64 ((x ||| 2 ^ p : Nat) : Int)) ∧ w = w' := by
  have hp8 : (p : Int) < 8 := by omega
  obtain ⟨h1, h2⟩ := p2_small p hp
  have HO := Lib.hid (or_at x p hx hp)
  go_enter Tryd.func62, Tryd.ntmps62
  go_wp2
  go_ret
  exact ⟨by rw [HO.out]; rfl, rfl⟩

/-- The clubs that have a member, as a set of places. -/
def dualBits (ps : List (Nat × Nat)) (v : Nat) : Nat := ps.foldl (fun t p => if p.2 = v then t ||| 2 ^ p.1 else t) 0

def dualL (m : Nat) (ps : List (Nat × Nat)) : List Int := (List.range m).map fun v => ((dualBits ps v : Nat) : Int)
theorem dualL_length (m : Nat) (ps : List (Nat × Nat)) : (dualL m ps).length = m := by simp [dualL]
theorem dualL_at (m : Nat) (ps : List (Nat × Nat)) (v : Nat) (h : v < m) : (dualL m ps)[v]? = some ((dualBits ps v : Nat) : Int) := by simp [dualL, h]
theorem dualL_nil (m : Nat) : dualL m [] = List.replicate m 0 := by
  apply List.ext_getElem <;> simp [dualL, dualBits]

theorem dualBits_snoc (ps : List (Nat × Nat)) (p u v : Nat) : dualBits (ps ++ [(p, u)]) v = if u = v then dualBits ps v ||| 2 ^ p else dualBits ps v := by simp [dualBits]
theorem dualL_snoc (m : Nat) (ps : List (Nat × Nat)) (p u : Nat) : dualL m (ps ++ [(p, u)]) = (dualL m ps).set u ((dualBits ps u ||| 2 ^ p : Nat) : Int) := by
  apply List.ext_getElem
  · simp [dualL]
  · intro i h1 h2
    have hi : i < m := by simpa [dualL] using h1
    simp only [dualL, List.getElem_map, List.getElem_range, List.getElem_set, dualBits_snoc]
    by_cases h : u = i
    · subst h; simp
    · simp [h]

theorem dualBits_lt (ps : List (Nat × Nat)) (v : Nat) (h : ∀ x ∈ ps, x.1 < 8) : dualBits ps v < 256 := by
  have : ∀ t, t < 256 → ps.foldl (fun t p => if p.2 = v then t ||| 2 ^ p.1 else t) t < 256 := by
    induction ps with
    | nil => intro t ht; exact ht
    | cons x ps ih =>
      intro t ht
      rw [List.foldl_cons]
      refine ih (fun y hy => h y (by simp [hy])) _ ?_
      split
      · exact Nat.or_lt_two_pow (n := 8) ht (Nat.pow_lt_pow_right (by decide) (h x (by simp)))
      · exact ht
  exact this 0 (by decide)

/-- All pairs of a place and a member of the club there. -/
def prsP (l : List (Nat × Int)) : List (Nat × Nat) := l.flatMap fun p => (mem p.2.toNat).map fun u => (p.1, u)

theorem prsP_snoc (l : List (Nat × Int)) (p : Nat × Int) : prsP (l ++ [p]) = prsP l ++ (mem p.2.toNat).map fun u => (p.1, u) := by simp [prsP]
theorem prsP_lt (l : List (Nat × Int)) (h : ∀ p ∈ l, p.1 < 8) : ∀ x ∈ prsP l, x.1 < 8 := by
  intro x hx
  obtain ⟨p, hp, hx2⟩ := List.mem_flatMap.1 hx
  obtain ⟨u, _, rfl⟩ := List.mem_map.1 hx2
  exact h p hp

def plc {m : Nat} (pre : List { p // IsClub m p }) : List (Nat × Nat) := prsP (pre.map (·.1))
theorem plc_snoc {m : Nat} (pre : List { p // IsClub m p }) (x : { p // IsClub m p }) : plc (pre ++ [x]) = plc pre ++ (mem x.1.2.toNat).map fun u => (x.1.1, u) := by
  simp only [plc, List.map_append, List.map_cons, List.map_nil, prsP_snoc]

theorem plc_lt {m : Nat} (pre : List { p // IsClub m p }) : ∀ x ∈ plc pre, x.1 < 8 := prsP_lt _ (by
  intro p hp
  obtain ⟨y, _, rfl⟩ := List.mem_map.1 hp
  exact y.2.1)

/-- The pairs of one club so far. -/
def row1 {m : Nat} (i : Nat) (us : List (Mem m)) : List (Nat × Nat) := us.map fun u => (i, u.1)

theorem row1_snoc {m : Nat} (i : Nat) (us : List (Mem m)) (u : Mem m) : row1 i (us ++ [u]) = row1 i us ++ [(i, u.1)] := by simp [row1]
theorem row1_lt {m : Nat} (i : Nat) (hi : i < 8) (us : List (Mem m)) : ∀ x ∈ row1 i us, x.1 < 8 := by
  intro x hx
  obtain ⟨u, _, rfl⟩ := List.mem_map.1 hx
  exact hi

theorem row1_all {m : Nat} (i : Nat) (us : List (Mem m)) (l : List Nat) (h : us.map (·.1) = l) : row1 i us = l.map fun u => (i, u) := by
  rw [← h, row1, List.map_map]; rfl

/-- The dual. -/
def dualIn (m : Int) (zs : List Int) : Bool := famIn m zs && (decide (1 ≤ zs.length) && decide (zs.length ≤ 6))

def dualM (m : Int) (zs : List Int) : Int := if dualIn m zs then (zs.length : Int) else 0
def dualZ (m : Int) (zs : List Int) : List Int := if dualIn m zs then dualL m.toNat (prsP (pairs zs zs.length)) else []
theorem dualZ_len (m : Int) (zs : List Int) : (dualZ m zs).length ≤ 1048576 := by
  unfold dualZ
  split
  · rename_i h
    have := (famIn_out (show famIn m zs = true by simp only [dualIn, Bool.and_eq_true] at h; exact h.1)).2.1
    rw [dualL_length]; omega
  · simp

theorem own_nil (w : World) (B : Nat) : OwnI w B (.slice none 0 0) [] := World.ownsRow_nil w B 3 1
set_option maxRecDepth 100000 in
set_option maxHeartbeats 2000000 in
theorem implDual_no (m : Int) (a : Option Addr) (c : Nat) (zs : List Int) (w : World) (ha : Ints w w.heap.size a zs) (hx : zs.length ≤ 1048576) (hf : dualIn m zs = false) :
    Calls Tryd.prog 19 #[.agg #[.int .i64 m, .slice a zs.length c]] w (RetFB w 0 [] false) := by
  have HB0 := Lib.hid (below2 w (.cells #[.int .i64 m, .slice a zs.length c] 25) (.cells #[.int .i64 0, .slice none 0 0] 25))
  have HA := Lib.hid (ha.below HB0.out)
  cases h1 : famIn m zs
  · have HF := Lib.hid h1
    clear hf ha h1
    go_enter Tryd.func19, Tryd.ntmps19
    go_wp2_with fail
    refine (implFamilyIn_any _ _ _ zs _ (HA.out.mono (by simp; omega)) hx).mono ?_
    rintro e w1 ⟨rfl, hb⟩
    rw [HF.out]
    have b2 : w1.heap[w.heap.size + 1]? = some (.cells #[.int .i64 0, .slice none 0 0] 25 (0, 0)) := (hb.block _ (by simp)).trans (alloc2_1 w _ _)
    have d0 := blk_cell b2 0
    have d1 := blk_cell b2 1
    have f0 := blk_frozen b2 0
    have f1 := blk_frozen b2 1
    simp only [cell2_0, cell2_1] at d0 d1
    have HB := Lib.hid (HB0.out.trans (hb.mono (by simp; omega)))
    clear hb b2
    go_wp2
    refine bodyPost_ret (v := .tuple #[.agg #[.int .i64 0, .slice none 0 0], .bool false]) (by simp [results, Tryd.results19, go_sem, d0, d1]) rfl ?_
    exact ⟨none, 0, rfl, own_nil _ _, (HB.out.setCell (p := ⟨w.heap.size + 1, 0, none⟩) (by simp) _).setCell (p := ⟨w.heap.size + 1, 1, none⟩) (by simp) _⟩
  · have HF := Lib.hid h1
    obtain ⟨n, hn⟩ : ∃ n, n = zs.length := ⟨_, rfl⟩
    have hc : n = 0 ∨ 6 < n := by
      simp only [dualIn, h1, Bool.true_and, Bool.and_eq_false_iff, decide_eq_false_iff_not] at hf
      omega
    have HN := Lib.hid hn
    rw [← hn] at hx
    clear hf ha h1 hn
    rcases hc with h2 | h2
    · go_enter Tryd.func19, Tryd.ntmps19
      go_wp2_with fail
      refine (implFamilyIn_any _ _ _ zs _ (HA.out.mono (by simp; omega)) (by rw [← HN.out]; exact hx)).mono ?_
      rintro e w1 ⟨rfl, hb⟩
      rw [HF.out]
      have b0 : w1.heap[w.heap.size]? = some (.cells #[.int .i64 m, .slice a zs.length c] 25 (0, 0)) := (hb.block _ (by simp; omega)).trans (alloc2_0 w _ _)
      have b2 : w1.heap[w.heap.size + 1]? = some (.cells #[.int .i64 0, .slice none 0 0] 25 (0, 0)) := (hb.block _ (by simp)).trans (alloc2_1 w _ _)
      rw [← HN.out] at b0
      have x1 := blk_cell b0 1
      have d0 := blk_cell b2 0
      have d1 := blk_cell b2 1
      have f0 := blk_frozen b2 0
      have f1 := blk_frozen b2 1
      simp only [cell2_0, cell2_1] at d0 d1 x1
      have HB := Lib.hid (HB0.out.trans (hb.mono (by simp; omega)))
      clear hb b2 b0
      go_wp2
      refine bodyPost_ret (v := .tuple #[.agg #[.int .i64 0, .slice none 0 0], .bool false]) (by simp [results, Tryd.results19, go_sem, d0, d1]) rfl ?_
      exact ⟨none, 0, rfl, own_nil _ _, (HB.out.setCell (p := ⟨w.heap.size + 1, 0, none⟩) (by simp) _).setCell (p := ⟨w.heap.size + 1, 1, none⟩) (by simp) _⟩
    · go_enter Tryd.func19, Tryd.ntmps19
      go_wp2_with fail
      refine (implFamilyIn_any _ _ _ zs _ (HA.out.mono (by simp; omega)) (by rw [← HN.out]; exact hx)).mono ?_
      rintro e w1 ⟨rfl, hb⟩
      rw [HF.out]
      have b0 : w1.heap[w.heap.size]? = some (.cells #[.int .i64 m, .slice a zs.length c] 25 (0, 0)) := (hb.block _ (by simp; omega)).trans (alloc2_0 w _ _)
      have b2 : w1.heap[w.heap.size + 1]? = some (.cells #[.int .i64 0, .slice none 0 0] 25 (0, 0)) := (hb.block _ (by simp)).trans (alloc2_1 w _ _)
      rw [← HN.out] at b0
      have x1 := blk_cell b0 1
      have d0 := blk_cell b2 0
      have d1 := blk_cell b2 1
      have f0 := blk_frozen b2 0
      have f1 := blk_frozen b2 1
      simp only [cell2_0, cell2_1] at d0 d1 x1
      have HB := Lib.hid (HB0.out.trans (hb.mono (by simp; omega)))
      clear hb b2 b0
      go_wp2
      refine bodyPost_ret (v := .tuple #[.agg #[.int .i64 0, .slice none 0 0], .bool false]) (by simp [results, Tryd.results19, go_sem, d0, d1]) rfl ?_
      exact ⟨none, 0, rfl, own_nil _ _, (HB.out.setCell (p := ⟨w.heap.size + 1, 0, none⟩) (by simp) _).setCell (p := ⟨w.heap.size + 1, 1, none⟩) (by simp) _⟩

end Go.Proofs.YtgpgocijacgkhaaDoor

/- It is proved that reducing a family leads to one family only, in whatever order it is done; conditions: those of each statement. -/
namespace Go.Proofs.YtgpgocijacgkhaaDoor
open Go.RowKit

def Bt (v : Nat) (z : Int) : Bool := z.toNat.testBit v
/-- A member that just one set has. -/
def D1 (v : Nat) (G : List Int) : Prop := ∃ x ∈ G, Bt v x = true ∧ ∀ y ∈ G, Bt v y = true → y = x

end Go.Proofs.YtgpgocijacgkhaaDoor
