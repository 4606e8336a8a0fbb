/- It is proved what the FamilyDrop of the program returns; conditions: those of each statement. -/
import Derived.Test.YtemolmkkiagiiaaDoorRows
import Derived.WalkKit
import Derived.WalkSpells
import Derived.ProofKit
import Derived.OpenShut
import Derived.ShutString
import Derived.ChangeOld
import Derived.Below
import Derived.Deep.RegionHeld3
import Derived.Deep.QuietTactic
import Derived.BigQuiet
import Derived.Lib.Hide
import Derived.Lib.SmallJoins
import Derived.Outline
import Derived.Laws.MakeOwn
import Derived.Laws.OwnMore
import Derived.IntWalk
import Derived.Lib.AppendZeros
import Derived.Maps.AppendAt
import Derived.Deep.AppendLies
import Derived.OwnWalk
import Derived.RangeFuncNested
import Derived.RangeFuncBound
import Derived.RangeFuncCalls
import Derived.RangeFuncLeaves
import Derived.RangeFuncBox
import Derived.Shelf.Abstract
import Derived.Shelf.RegionOpen
import Derived.OwnWalkIn
import Derived.TacticsInMore
import Derived.LoopNIn
import Derived.LoopIn
import Derived.Test.YtemolmkkiagiiaaDoorPaaa
import Derived.Test.YtemolmkkiagiiaaDoorPaac
import Derived.Test.YtemolmkkiagiiaaDoorGa
import Derived.Test.YtemolmkkiagiiaaDoorPaad
import Derived.Test.YtemolmkkiagiiaaDoorPaab
import Derived.Test.YtemolmkkiagiiaaDoorUa
namespace Go.Proofs.YtemolmkkiagiiaaDoor
open Go.RowKit

theorem concat_n (a b : Option Addr) (n k c d s : Nat) (zs ys : List Int) (w : World) (hn : zs.length = n) (hk : ys.length = k) (ha : Ints w w.heap.size a zs) (hb : Ints w w.heap.size b ys) (hx : n ≤ 1048576) (hy : k ≤ 1048576)
    (s0 : w.cell? ⟨s, 0, none⟩ = some (.slice a n c)) (s1 : w.cell? ⟨s, 1, none⟩ = some (.slice b k d)) :
    Calls Tryd.prog 62 #[.slice (some ⟨s, 0, none⟩) 2 2] w fun e w' => ∃ a' c', e = .returned (.slice a' (zs ++ ys).length c') ∧ OwnI w' w.heap.size (.slice a' (zs ++ ys).length c') (zs ++ ys) ∧ Below w.heap.size w w' := by
  subst hn; subst hk
  exact concat_any a b c d s zs ys w ha hb hx hy s0 s1

/-- Without the club at place p. -/
def without (zs : List Int) (p : Nat) : List Int := zs.take p ++ zs.drop (p + 1)

theorem Ints.take_ {w : World} {B : Nat} {a : Option Addr} {zs : List Int} (h : Ints w B a zs) (p : Nat) : Ints w B a (zs.take p) := by
  rcases h with rfl | ⟨b, off, e, hb, hc⟩
  · exact .inl (by simp)
  · exact .inr ⟨b, off, e, hb, fun j hj => by
      rw [List.length_take] at hj
      rw [hc j (by omega), List.getElem?_take, if_pos (by omega)]⟩

theorem Ints.drop_ {w : World} {B b off : Nat} {zs : List Int} (h : Ints w B (some ⟨b, off, none⟩) zs) (p : Nat) (hp : p < zs.length) : Ints w B (some ⟨b, off + p, none⟩) (zs.drop p) := by
  rcases h with rfl | ⟨b', off', e, hb, hc⟩
  · simp at hp
  · injection e with e
    injection e with e1 e2
    subst e1; subst e2
    exact .inr ⟨b, off + p, rfl, hb, fun j hj => by
      rw [List.length_drop] at hj
      have := hc (p + j) (by omega)
      rw [Nat.add_assoc, this, List.getElem?_drop]⟩

theorem drop_ints {w : World} {B b off : Nat} {zs : List Int} (h : Ints w B (some ⟨b, off, none⟩) zs) (p : Nat) : Ints w B (some ⟨b, off + p, none⟩) (zs.drop p) := by
  by_cases hp : p < zs.length
  · exact h.drop_ p hp
  · exact .inl (List.drop_eq_nil_of_le (by omega))

theorem two_far {w2 : World} {H : Nat} {u0 u1 v0 v1 : Value} (h0 : w2.cell? ⟨H, 0, none⟩ = some u0) (h1 : w2.cell? ⟨H, 1, none⟩ = some u1) :
    ((w2.setCell ⟨H + 1, 0, none⟩ v0).setCell ⟨H + 1, 1, none⟩ v1).cell? ⟨H, 0, none⟩ = some u0 ∧ ((w2.setCell ⟨H + 1, 0, none⟩ v0).setCell ⟨H + 1, 1, none⟩ v1).cell? ⟨H, 1, none⟩ = some u1 :=
  ⟨(World.cell?_setCell_other _ _ _ _ (by simp)).trans ((World.cell?_setCell_other _ _ _ _ (by simp)).trans h0), (World.cell?_setCell_other _ _ _ _ (by simp)).trans ((World.cell?_setCell_other _ _ _ _ (by simp)).trans h1)⟩

set_option maxRecDepth 100000 in
set_option maxHeartbeats 1600000 in
theorem implDrop_no (m : Int) (a : Option Addr) (c : Nat) (zs : List Int) (x : Int) (w : World) (ha : Ints w w.heap.size a zs) (hx : zs.length ≤ 1048576) (hf : famIn m zs = false ∨ x < 0 ∨ (zs.length : Int) ≤ x) :
    Calls Tryd.prog 28 #[.agg #[.int .i64 m, .slice a zs.length c], .int .i64 x] w (RetFB w 0 [] false) := by
  have HB0 := Lib.hid (below2 w (.cells #[.int .i64 m, .slice a zs.length c] 25) (.cells #[.int .i64 0, .slice none 0 0] 25))
  have HA := Lib.hid (ha.below HB0.out)
  have go : ∀ t : Bool, famIn m zs = t → (t = false ∨ x < 0 ∨ (zs.length : Int) ≤ x) → Calls Tryd.prog 28 #[.agg #[.int .i64 m, .slice a zs.length c], .int .i64 x] w (RetFB w 0 [] false) := by
    intro t ht hc
    have HF := Lib.hid ht
    clear ht hf ha
    have H3 : t = false ∨ (t = true ∧ x < 0) ∨ (t = true ∧ 0 ≤ x ∧ (zs.length : Int) ≤ x) := by
      cases t
      · exact .inl rfl
      · right
        rcases hc with h | h | h
        · cases h
        · exact .inl ⟨rfl, h⟩
        · exact .inr ⟨rfl, by omega, h⟩
    clear hc
    rcases H3 with rfl | ⟨rfl, hx1⟩ | ⟨rfl, hx0, hx1⟩
    all_goals
      go_enter Tryd.func28, Tryd.ntmps28
      go_wp2_with fail
      refine (implFamilyIn_any _ _ _ zs _ (HA.out.mono (by simp; omega)) hx).mono ?_
      rintro e w1 ⟨rfl, hb⟩
      rw [HF.out]
      have b0 : w1.heap[w.heap.size]? = some (.cells #[.int .i64 m, .slice a zs.length c] 25 (0, 0)) := (hb.block _ (by simp; omega)).trans (alloc2_0 w _ _)
      have b2 : w1.heap[w.heap.size + 1]? = some (.cells #[.int .i64 0, .slice none 0 0] 25 (0, 0)) := (hb.block _ (by simp)).trans (alloc2_1 w _ _)
      have x0 := blk_cell b0 0
      have x1 := blk_cell b0 1
      have d0 := blk_cell b2 0
      have d1 := blk_cell b2 1
      have f0 := blk_frozen b2 0
      have f1 := blk_frozen b2 1
      simp only [cell2_0, cell2_1] at d0 d1 x0 x1
      have HB := Lib.hid (HB0.out.trans (hb.mono (by simp; omega)))
      clear hb b0 b2
      go_wp2
      refine bodyPost_ret (v := .tuple #[.agg #[.int .i64 0, .slice none 0 0], .bool false]) (by simp [results, Tryd.results28, go_sem, d0, d1]) rfl ?_
      exact ⟨none, 0, rfl, own_nil _ _, (HB.out.setCell (p := ⟨w.heap.size + 1, 0, none⟩) (by simp) _).setCell (p := ⟨w.heap.size + 1, 1, none⟩) (by simp) _⟩
  exact go _ rfl hf

set_option maxRecDepth 100000 in
set_option maxHeartbeats 1600000 in
theorem implDrop_yes (m : Int) (b off c : Nat) (zs : List Int) (p : Nat) (w : World) (ha : Ints w w.heap.size (some ⟨b, off, none⟩) zs) (hx : zs.length ≤ 1048576) (hf : famIn m zs = true) (hp : p < zs.length) (hc : zs.length ≤ c) :
    Calls Tryd.prog 28 #[.agg #[.int .i64 m, .slice (some ⟨b, off, none⟩) zs.length c], .int .i64 p] w (RetFB w m (without zs p) true) := by
  have HB0 := Lib.hid (below2 w (.cells #[.int .i64 m, .slice (some ⟨b, off, none⟩) zs.length c] 25) (.cells #[.int .i64 0, .slice none 0 0] 25))
  have HA := Lib.hid (ha.below HB0.out)
  have HF := Lib.hid hf
  have hp0 : (0 : Int) ≤ (p : Int) := by omega
  have hp1 : (p : Int) < (zs.length : Int) := by omega
  clear hf ha
  go_enter Tryd.func28, Tryd.ntmps28
  go_wp2_with fail
  refine (implFamilyIn_any _ _ _ zs _ (HA.out.mono (by simp; omega)) hx).mono ?_
  rintro e w1 ⟨rfl, hb⟩
  rw [HF.out]
  have b0 : w1.heap[w.heap.size]? = some (.cells #[.int .i64 m, .slice (some ⟨b, off, none⟩) zs.length c] 25 (0, 0)) := (hb.block _ (by simp; omega)).trans (alloc2_0 w _ _)
  have b2 : w1.heap[w.heap.size + 1]? = some (.cells #[.int .i64 0, .slice none 0 0] 25 (0, 0)) := (hb.block _ (by simp)).trans (alloc2_1 w _ _)
  have x0 := blk_cell b0 0
  have x1 := blk_cell b0 1
  simp only [cell2_0, cell2_1] at x0 x1
  have HB := Lib.hid (HB0.out.trans (hb.mono (by simp; omega)))
  have HA1 := Lib.hid (HA.out.below (hb.mono (by simp; omega)))
  have B2 := Lib.hid b2
  have z1 : w.heap.size + 1 < w1.heap.size := by have := hb.size; simp at this; omega
  clear hb b0 b2
  have hH1 : w.heap.size < w1.heap.size := by omega
  by_cases hcc : c = p + 1
  · subst hcc
    have hD0 : zs.drop (p + 1) = [] := List.drop_eq_nil_of_le (by omega)
    go_wp2_with fail
    have hw : IntKind.i64.wrap ((p : Int) + 1) = (p : Int) + 1 := IntWalk.i64_in _ (by omega)
    have ht : ((p : Int) + 1).toNat = p + 1 := by omega
    have h2 : (0 : Int) ≤ (p : Int) + 1 := by omega
    have h3 : (p : Int) + 1 ≤ (zs.length : Int) := by omega
    have h4 : (zs.length : Int) ≤ (p : Int) + 1 := by omega
    have h5 : (p : Int) ≤ (p : Int) + 1 := by omega
    have HL1 : Hid ((zs.take p).length = p) := Lib.hid (by rw [List.length_take]; omega)
    have HL2 : Hid ((zs.drop (p + 1)).length = 0) := Lib.hid (by rw [List.length_drop]; omega)
    have HB1 := Lib.hid (below1 w1 (.cells #[.slice (some ⟨b, off, none⟩) p (p + 1), .slice (some ⟨b, off, none⟩) 0 0] 23))
    have HY0 := Lib.hid (blk_cell (w := (w1.alloc (.cells #[.slice (some ⟨b, off, none⟩) p (p + 1), .slice (some ⟨b, off, none⟩) 0 0] 23)).drew) (alloc_new w1 (.cells #[.slice (some ⟨b, off, none⟩) p (p + 1), .slice (some ⟨b, off, none⟩) 0 0] 23)) 0)
    have HY1 := Lib.hid (blk_cell (w := (w1.alloc (.cells #[.slice (some ⟨b, off, none⟩) p (p + 1), .slice (some ⟨b, off, none⟩) 0 0] 23)).drew) (alloc_new w1 (.cells #[.slice (some ⟨b, off, none⟩) p (p + 1), .slice (some ⟨b, off, none⟩) 0 0] 23)) 1)
    have HI1 : Hid (Ints (w1.alloc (.cells #[.slice (some ⟨b, off, none⟩) p (p + 1), .slice (some ⟨b, off, none⟩) 0 0] 23)).drew (w1.alloc (.cells #[.slice (some ⟨b, off, none⟩) p (p + 1), .slice (some ⟨b, off, none⟩) 0 0] 23)).drew.heap.size (some ⟨b, off, none⟩) (zs.take p)) := Lib.hid (((HA1.out.take_ p).below ((HB1.out.drew).mono (by omega))).mono (by show w.heap.size ≤ (w1.alloc (.cells #[.slice (some ⟨b, off, none⟩) p (p + 1), .slice (some ⟨b, off, none⟩) 0 0] 23)).heap.size; simp; omega))
    have HI2 : Hid (Ints (w1.alloc (.cells #[.slice (some ⟨b, off, none⟩) p (p + 1), .slice (some ⟨b, off, none⟩) 0 0] 23)).drew (w1.alloc (.cells #[.slice (some ⟨b, off, none⟩) p (p + 1), .slice (some ⟨b, off, none⟩) 0 0] 23)).drew.heap.size (some ⟨b, off, none⟩) (zs.drop (p + 1))) := Lib.hid (by rw [hD0]; exact .inl rfl)
    clear hD0
    have HD : Hid ((w1.alloc (.cells #[.slice (some ⟨b, off, none⟩) p (p + 1), .slice (some ⟨b, off, none⟩) 0 0] 23)).drew.heap[w.heap.size + 1]? = some (.cells #[.int .i64 0, .slice none 0 0] 25 (0, 0))) := Lib.hid ((alloc_old w1 (.cells #[.slice (some ⟨b, off, none⟩) p (p + 1), .slice (some ⟨b, off, none⟩) 0 0] 23) _ z1).trans B2.out)
    have X0 : Hid ((w1.alloc (.cells #[.slice (some ⟨b, off, none⟩) p (p + 1), .slice (some ⟨b, off, none⟩) 0 0] 23)).drew.cell? ⟨w.heap.size, 0, none⟩ = some (.int .i64 m)) := Lib.hid ((World.cell?_alloc_lt w1 (.cells #[.slice (some ⟨b, off, none⟩) p (p + 1), .slice (some ⟨b, off, none⟩) 0 0] 23) _ hH1).trans x0)
    have X1 : Hid ((w1.alloc (.cells #[.slice (some ⟨b, off, none⟩) p (p + 1), .slice (some ⟨b, off, none⟩) 0 0] 23)).drew.cell? ⟨w.heap.size, 1, none⟩ = some (.slice (some ⟨b, off, none⟩) zs.length (p + 1))) := Lib.hid ((World.cell?_alloc_lt w1 (.cells #[.slice (some ⟨b, off, none⟩) p (p + 1), .slice (some ⟨b, off, none⟩) 0 0] 23) _ hH1).trans x1)
    have hS : w.heap.size + 1 < (w1.alloc (.cells #[.slice (some ⟨b, off, none⟩) p (p + 1), .slice (some ⟨b, off, none⟩) 0 0] 23)).drew.heap.size := by show w.heap.size + 1 < (w1.alloc (.cells #[.slice (some ⟨b, off, none⟩) p (p + 1), .slice (some ⟨b, off, none⟩) 0 0] 23)).heap.size; simp; omega
    go_region_held3 (fun w' => w'.cell? ⟨w.heap.size, 0, none⟩ = some (.int .i64 m) ∧ w'.cell? ⟨w.heap.size, 1, none⟩ = some (.slice (some ⟨b, off, none⟩) zs.length (p + 1)))
      (first
        | exact ⟨x0, x1⟩
        | exact ⟨X0.out, X1.out⟩
        | exact ⟨(hb2.cell (p := ⟨w.heap.size, 0, none⟩) (Nat.lt_of_succ_lt hS)).trans X0.out, (hb2.cell (p := ⟨w.heap.size, 1, none⟩) (Nat.lt_of_succ_lt hS)).trans X1.out⟩
        | exact two_far ((hb2.cell (p := ⟨w.heap.size, 0, none⟩) (Nat.lt_of_succ_lt hS)).trans X0.out) ((hb2.cell (p := ⟨w.heap.size, 1, none⟩) (Nat.lt_of_succ_lt hS)).trans X1.out))
      (first
        | (go_at_call 62; refine (concat_n _ _ _ _ _ _ _ (zs.take p) (zs.drop (p + 1)) _ HL1.out HL2.out HI1.out HI2.out (by omega) (by omega) HY0.out HY1.out).mono ?_; rintro e w2 ⟨a', c', rfl, ho, hb2⟩; have e2 := (hb2.block _ hS).trans HD.out; have d0 := (blk_cell e2 0).trans (cell2_0 _ _); have d1 := (blk_cell e2 1).trans (cell2_1 _ _); have f0 := blk_frozen e2 0; have f1 := blk_frozen e2 1))
    have HO := Lib.hid ho
    have HB2 := Lib.hid (HB.out.trans (((HB1.out.drew).mono (by omega)).trans (hb2.mono (Nat.le_of_lt (Nat.lt_of_succ_lt hS)))))
    have HS2 : Hid (w.heap.size + 1 < (w1.alloc (.cells #[.slice (some ⟨b, off, none⟩) p (p + 1), .slice (some ⟨b, off, none⟩) 0 0] 23)).drew.heap.size) := Lib.hid hS
    clear ho hb2 e2 hS
    go_wp2
    have hN : zs.length - (p + 1) = 0 := by omega
    refine bodyPost_ret (v := .tuple #[.agg #[.int .i64 m, .slice a' (zs.take p ++ zs.drop (p + 1)).length c'], .bool true]) (by simp [results, Tryd.results28, go_sem, d0, d1, hN]) rfl ?_
    refine ⟨a', c', rfl, ?_, ?_⟩
    · exact own_mono (ownsRow_setCell_below (ownsRow_setCell_below HO.out HS2.out _) HS2.out _) (Nat.le_of_lt (Nat.lt_of_succ_lt HS2.out))
    · exact (HB2.out.setCell (p := ⟨w.heap.size + 1, 0, none⟩) (by simp) _).setCell (p := ⟨w.heap.size + 1, 1, none⟩) (by simp) _
  · have hcc' : (p : Int) + 1 < (c : Int) := by omega
    have hcn : ¬ c = p + 1 := hcc
    go_wp2_with fail
    have hw : IntKind.i64.wrap ((p : Int) + 1) = (p : Int) + 1 := IntWalk.i64_in _ (by omega)
    have ht : ((p : Int) + 1).toNat = p + 1 := by omega
    have h2 : (0 : Int) ≤ (p : Int) + 1 := by omega
    have h3 : (p : Int) + 1 ≤ (zs.length : Int) := by omega
    have h4 : (zs.length : Int) ≤ (c : Int) := by omega
    have h5 : (p : Int) ≤ (c : Int) := by omega
    have HL1 : Hid ((zs.take p).length = p) := Lib.hid (by rw [List.length_take]; omega)
    have HL2 : Hid ((zs.drop (p + 1)).length = zs.length - (p + 1)) := Lib.hid List.length_drop
    have HB1 := Lib.hid (below1 w1 (.cells #[.slice (some ⟨b, off, none⟩) p c, .slice (some ⟨b, off + (p + 1), none⟩) (zs.length - (p + 1)) (c - (p + 1))] 23))
    have HY0 := Lib.hid (blk_cell (w := (w1.alloc (.cells #[.slice (some ⟨b, off, none⟩) p c, .slice (some ⟨b, off + (p + 1), none⟩) (zs.length - (p + 1)) (c - (p + 1))] 23)).drew) (alloc_new w1 (.cells #[.slice (some ⟨b, off, none⟩) p c, .slice (some ⟨b, off + (p + 1), none⟩) (zs.length - (p + 1)) (c - (p + 1))] 23)) 0)
    have HY1 := Lib.hid (blk_cell (w := (w1.alloc (.cells #[.slice (some ⟨b, off, none⟩) p c, .slice (some ⟨b, off + (p + 1), none⟩) (zs.length - (p + 1)) (c - (p + 1))] 23)).drew) (alloc_new w1 (.cells #[.slice (some ⟨b, off, none⟩) p c, .slice (some ⟨b, off + (p + 1), none⟩) (zs.length - (p + 1)) (c - (p + 1))] 23)) 1)
    have HI1 : Hid (Ints (w1.alloc (.cells #[.slice (some ⟨b, off, none⟩) p c, .slice (some ⟨b, off + (p + 1), none⟩) (zs.length - (p + 1)) (c - (p + 1))] 23)).drew (w1.alloc (.cells #[.slice (some ⟨b, off, none⟩) p c, .slice (some ⟨b, off + (p + 1), none⟩) (zs.length - (p + 1)) (c - (p + 1))] 23)).drew.heap.size (some ⟨b, off, none⟩) (zs.take p)) := Lib.hid (((HA1.out.take_ p).below ((HB1.out.drew).mono (by omega))).mono (by show w.heap.size ≤ (w1.alloc (.cells #[.slice (some ⟨b, off, none⟩) p c, .slice (some ⟨b, off + (p + 1), none⟩) (zs.length - (p + 1)) (c - (p + 1))] 23)).heap.size; simp; omega))
    have HI2 : Hid (Ints (w1.alloc (.cells #[.slice (some ⟨b, off, none⟩) p c, .slice (some ⟨b, off + (p + 1), none⟩) (zs.length - (p + 1)) (c - (p + 1))] 23)).drew (w1.alloc (.cells #[.slice (some ⟨b, off, none⟩) p c, .slice (some ⟨b, off + (p + 1), none⟩) (zs.length - (p + 1)) (c - (p + 1))] 23)).drew.heap.size (some ⟨b, off + (p + 1), none⟩) (zs.drop (p + 1))) := Lib.hid ((drop_ints HA1.out (p + 1)).below ((HB1.out.drew).mono (by omega)) |>.mono (by show w.heap.size ≤ (w1.alloc _).heap.size; rw [World.size_alloc]; omega))
    have HD : Hid ((w1.alloc (.cells #[.slice (some ⟨b, off, none⟩) p c, .slice (some ⟨b, off + (p + 1), none⟩) (zs.length - (p + 1)) (c - (p + 1))] 23)).drew.heap[w.heap.size + 1]? = some (.cells #[.int .i64 0, .slice none 0 0] 25 (0, 0))) := Lib.hid ((alloc_old w1 (.cells #[.slice (some ⟨b, off, none⟩) p c, .slice (some ⟨b, off + (p + 1), none⟩) (zs.length - (p + 1)) (c - (p + 1))] 23) _ z1).trans B2.out)
    have X0 : Hid ((w1.alloc (.cells #[.slice (some ⟨b, off, none⟩) p c, .slice (some ⟨b, off + (p + 1), none⟩) (zs.length - (p + 1)) (c - (p + 1))] 23)).drew.cell? ⟨w.heap.size, 0, none⟩ = some (.int .i64 m)) := Lib.hid ((World.cell?_alloc_lt w1 (.cells #[.slice (some ⟨b, off, none⟩) p c, .slice (some ⟨b, off + (p + 1), none⟩) (zs.length - (p + 1)) (c - (p + 1))] 23) _ hH1).trans x0)
    have X1 : Hid ((w1.alloc (.cells #[.slice (some ⟨b, off, none⟩) p c, .slice (some ⟨b, off + (p + 1), none⟩) (zs.length - (p + 1)) (c - (p + 1))] 23)).drew.cell? ⟨w.heap.size, 1, none⟩ = some (.slice (some ⟨b, off, none⟩) zs.length c)) := Lib.hid ((World.cell?_alloc_lt w1 (.cells #[.slice (some ⟨b, off, none⟩) p c, .slice (some ⟨b, off + (p + 1), none⟩) (zs.length - (p + 1)) (c - (p + 1))] 23) _ hH1).trans x1)
    have hS : w.heap.size + 1 < (w1.alloc (.cells #[.slice (some ⟨b, off, none⟩) p c, .slice (some ⟨b, off + (p + 1), none⟩) (zs.length - (p + 1)) (c - (p + 1))] 23)).drew.heap.size := by show w.heap.size + 1 < (w1.alloc (.cells #[.slice (some ⟨b, off, none⟩) p c, .slice (some ⟨b, off + (p + 1), none⟩) (zs.length - (p + 1)) (c - (p + 1))] 23)).heap.size; simp; omega
    go_region_held3 (fun w' => w'.cell? ⟨w.heap.size, 0, none⟩ = some (.int .i64 m) ∧ w'.cell? ⟨w.heap.size, 1, none⟩ = some (.slice (some ⟨b, off, none⟩) zs.length c))
      (first
        | exact ⟨x0, x1⟩
        | exact ⟨X0.out, X1.out⟩
        | exact ⟨(hb2.cell (p := ⟨w.heap.size, 0, none⟩) (Nat.lt_of_succ_lt hS)).trans X0.out, (hb2.cell (p := ⟨w.heap.size, 1, none⟩) (Nat.lt_of_succ_lt hS)).trans X1.out⟩
        | exact two_far ((hb2.cell (p := ⟨w.heap.size, 0, none⟩) (Nat.lt_of_succ_lt hS)).trans X0.out) ((hb2.cell (p := ⟨w.heap.size, 1, none⟩) (Nat.lt_of_succ_lt hS)).trans X1.out))
      (first
        | (go_at_call 62; refine (concat_n _ _ _ _ _ _ _ (zs.take p) (zs.drop (p + 1)) _ HL1.out HL2.out HI1.out HI2.out (by omega) (by omega) HY0.out HY1.out).mono ?_; rintro e w2 ⟨a', c', rfl, ho, hb2⟩; have e2 := (hb2.block _ hS).trans HD.out; have d0 := (blk_cell e2 0).trans (cell2_0 _ _); have d1 := (blk_cell e2 1).trans (cell2_1 _ _); have f0 := blk_frozen e2 0; have f1 := blk_frozen e2 1))
    have HO := Lib.hid ho
    have HB2 := Lib.hid (HB.out.trans (((HB1.out.drew).mono (by omega)).trans (hb2.mono (Nat.le_of_lt (Nat.lt_of_succ_lt hS)))))
    have HS2 : Hid (w.heap.size + 1 < (w1.alloc (.cells #[.slice (some ⟨b, off, none⟩) p c, .slice (some ⟨b, off + (p + 1), none⟩) (zs.length - (p + 1)) (c - (p + 1))] 23)).drew.heap.size) := Lib.hid hS
    clear ho hb2 e2 hS
    go_wp2
    refine bodyPost_ret (v := .tuple #[.agg #[.int .i64 m, .slice a' (zs.take p ++ zs.drop (p + 1)).length c'], .bool true]) (by simp [results, Tryd.results28, go_sem, d0, d1]) rfl ?_
    refine ⟨a', c', rfl, ?_, ?_⟩
    · exact own_mono (ownsRow_setCell_below (ownsRow_setCell_below HO.out HS2.out _) HS2.out _) (Nat.le_of_lt (Nat.lt_of_succ_lt HS2.out))
    · exact (HB2.out.setCell (p := ⟨w.heap.size + 1, 0, none⟩) (by simp) _).setCell (p := ⟨w.heap.size + 1, 1, none⟩) (by simp) _

/-- The condition of FamilyDrop. -/
def dropIn (m : Int) (zs : List Int) (x : Int) : Bool := famIn m zs && inB x 0 ((zs.length : Int) - 1)

def dropZ (m : Int) (zs : List Int) (x : Int) : List Int := if dropIn m zs x then without zs x.toNat else []
def dropM (m : Int) (zs : List Int) (x : Int) : Int := if dropIn m zs x then m else 0
theorem dropZ_len (m : Int) (zs : List Int) (x : Int) (h : zs.length ≤ 1048576) : (dropZ m zs x).length ≤ 1048576 := by
  unfold dropZ without; split <;> simp <;> omega

end Go.Proofs.YtemolmkkiagiiaaDoor
