/- It is proved how a slice of bytes among a law's arguments reads; conditions: none but that the argument can be read. -/
import Derived.Test.YtgpgocijacgkhaaDoorRows
import Derived.WalkKit
import Derived.WalkSpells
import Derived.ProofKit
import Derived.OpenShut
import Derived.ShutString
import Derived.ChangeOld
import Derived.Below
import Derived.Deep.RegionHeld3
import Derived.Deep.QuietTactic
import Derived.BigQuiet
import Derived.Lib.Hide
import Derived.Lib.SmallJoins
import Derived.Outline
import Derived.Laws.MakeOwn
import Derived.Laws.OwnMore
import Derived.IntWalk
import Derived.Deep.RegionLaw
import Derived.Deep.AppendLies
import Derived.RangeFuncNested
import Derived.RangeFuncBound
import Derived.RangeFuncCalls
import Derived.RangeFuncLeaves
import Derived.RangeFuncBox
import Derived.Shelf.Abstract
import Derived.Shelf.RegionOpen
import Derived.OwnWalkIn
import Derived.TacticsInMore
import Derived.LoopNIn
import Derived.LoopIn
import Derived.Maps.AppendAt
import Derived.OwnWalk
import Derived.Shelf.Spec.TrailingZeros
import Derived.Test.YtgpgocijacgkhaaDoorRaab
import Derived.Test.YtgpgocijacgkhaaDoorDb
import Derived.Test.YtgpgocijacgkhaaDoorRaag
import Derived.Test.YtgpgocijacgkhaaDoorRaaa
import Derived.Lib.AppendZeros
namespace Go.Proofs.YtgpgocijacgkhaaDoor
open Go.ChangeShapes Go.WideShapes Go.ChangeAt Go.RowKit Go.Joins
open Go.ChangeMaps (open_string shut_string)

theorem u8_min : IntKind.u8.min = 0 := by decide
theorem u8_max : IntKind.u8.max = 255 := by decide
theorem byte_in {z : Int} (h : (Lit.int .u8 z).wf = true) : 0 ≤ z ∧ z ≤ 255 := by
  simp [Lit.wf, u8_min, u8_max] at h; exact h

theorem byte_small {z : Int} (h : (Lit.int .u8 z).wf = true) : z.toNat < 256 := by have := byte_in h; omega
theorem byte_nat {z : Int} (h : (Lit.int .u8 z).wf = true) : Value.int .u8 z = .int .u8 ((z.toNat : Nat) : Int) := by
  rw [Int.toNat_of_nonneg (byte_in h).1]

theorem Tryd.cells5 : Tryd.prog.cellsOf 5 = 1 := by kernel_rfl
set_option maxRecDepth 100000 in
theorem open_code {H : Type} {enc : TypeId × Value → H} {W : World} {base : Nat} {v : Value} {d : DataW H} {p : List MemPlace}
    (hv : Value.okWide Tryd.prog W .any base 22 v) (h : DataW.Trod enc Tryd.prog W 0 (fun _ => true) true 22 v d p) :
    ∃ a n cap, v = .slice a n cap ∧ n ≤ cap ∧ cap ≤ maxLen ∧ Bys W W.heap.size a n := by
  obtain ⟨a, n, cap, rfl⟩ := okWide_slice Tryd.underlying22 hv
  obtain ⟨fuel, hf⟩ := h
  rcases open_ints Tryd.underlying22 Tryd.underlying5 Tryd.cells5 hf with ⟨hcs, _⟩ | ⟨x, l, c, zs, hcs, _, hl, hm, hz, hx, hcell, hwz⟩
  · simp [Value.cells] at hcs
    obtain ⟨rfl, rfl, rfl⟩ := hcs
    exact ⟨none, 0, 0, rfl, by omega, by simp [maxLen], .inl rfl⟩
  · simp [Value.cells] at hcs
    obtain ⟨rfl, rfl, rfl⟩ := hcs
    refine ⟨some x, n, cap, rfl, hl, hm, ?_⟩
    by_cases h0 : n = 0
    · exact .inl h0
    · obtain ⟨b, off, spot⟩ := x
      simp at hz
      have hc := hcell 0 (by omega)
      have hspot : spot = none := by simpa [Addr.add] using World.cell?_spot hc
      subst hspot
      refine .inr ⟨b, off, rfl, by simpa [Addr.add] using World.block_lt_of_cell? W _ hc, fun j hj => ?_⟩
      have h1 := hcell j (by omega)
      rw [show (⟨b, off, none⟩ : Addr).add j = ⟨b, off + j, none⟩ from by unfold Addr.add; split <;> simp_all] at h1
      have h2 := hwz (zs.getD j 0) (by
        have : j < zs.length := by omega
        simp [List.getD, this])
      refine ⟨(zs.getD j 0).toNat, ?_, ?_⟩
      · exact byte_small h2
      · rw [h1, byte_nat h2]

end Go.Proofs.YtgpgocijacgkhaaDoor

/- It is proved how a Family among a law's arguments reads as a number and a list of ints; conditions: none but that the argument can be read. -/
namespace Go.Proofs.YtgpgocijacgkhaaDoor
open Go.ChangeShapes Go.WideShapes Go.ChangeAt Go.RowKit Go.Joins
open Go.ChangeMaps (open_string shut_string)

theorem Tryd.own : ownKnob Tryd.prog.godebug = none := by kernel_rfl
theorem Tryd.laidOut : laidOutB Tryd.prog = true := by kernel_rfl
theorem Tryd.cells3 : Tryd.prog.cellsOf 3 = 1 := by kernel_rfl
theorem Tryd.cells23 : Tryd.prog.cellsOf 23 = 1 := by kernel_rfl
theorem ints_of_row {W : World} {x : Addr} {l c : Nat} {zs : List Int} (hl : l ≤ c) (hz : zs.length = c)
    (hcell : ∀ i, i < zs.length → W.cell? (x.add i) = some (.int .i64 (zs.getD i 0))) : Ints W W.heap.size (some x) (zs.take l) := by
  by_cases h0 : l = 0
  · subst h0; exact .inl (by simp)
  · obtain ⟨b, off, spot⟩ := x
    have hc := hcell 0 (by omega)
    have hspot : spot = none := by simpa [Addr.add] using World.cell?_spot hc
    subst hspot
    refine .inr ⟨b, off, rfl, by simpa [Addr.add] using World.block_lt_of_cell? W _ hc, fun j hj => ?_⟩
    have hj' : j < l := by simp at hj; omega
    have := hcell j (by omega)
    rw [show (⟨b, off, none⟩ : Addr).add j = ⟨b, off + j, none⟩ from by unfold Addr.add; split <;> simp_all] at this
    rw [this]
    simp [List.getD, hj']

end Go.Proofs.YtgpgocijacgkhaaDoor

/- It is proved how boxed families and lists are kept while the laws go on; conditions: those of each statement. -/
namespace Go.Proofs.YtgpgocijacgkhaaDoor
open Go.RowKit

/-- A family in a box. -/
structure FB (X : Nat) (m : Int) (a : Option Addr) (zs : List Int) (c : Nat) (W : World) : Prop where
  blk : HasBlk W X #[.int .i64 m, .slice a zs.length c] 25
  ints : Ints W W.heap.size a zs

theorem FB.step {X : Nat} {m : Int} {a : Option Addr} {zs : List Int} {c : Nat} {W W' : World} (h : FB X m a zs c W) (hb : Below W.heap.size W W') : FB X m a zs c W' :=
  ⟨(hb.block X (lt_of_some h.blk)).trans h.blk, (h.ints.below hb).mono hb.size⟩

theorem FB.start {w : World} {m : Int} {a : Option Addr} {zs : List Int} {c : Nat} (h : Ints w w.heap.size a zs) : FB w.heap.size m a zs c (w.alloc (.cells #[.int .i64 m, .slice a zs.length c] 25)) :=
  ⟨alloc_new w _, (h.below (below1 w _)).mono (by simp)⟩

theorem FB.x0 {X : Nat} {m : Int} {a : Option Addr} {zs : List Int} {c : Nat} {W : World} (h : FB X m a zs c W) : W.cell? ⟨X, 0, none⟩ = some (.int .i64 m) := (blk_cell h.blk 0).trans (cell2_0 _ _)
theorem FB.x1 {X : Nat} {m : Int} {a : Option Addr} {zs : List Int} {c : Nat} {W : World} (h : FB X m a zs c W) : W.cell? ⟨X, 1, none⟩ = some (.slice a zs.length c) := (blk_cell h.blk 1).trans (cell2_1 _ _)
theorem Ints.step {W W' : World} {a : Option Addr} {zs : List Int} (h : Ints W W.heap.size a zs) (hb : Below W.heap.size W W') : Ints W' W'.heap.size a zs := (h.below hb).mono hb.size
theorem sameB_refl (zs : List Int) : sameB zs zs = true := by simp [sameB]
end Go.Proofs.YtgpgocijacgkhaaDoor

/- It is proved what append does with any list of ints, and what slices.Grow and slices.Concat return; conditions: those of each statement. -/
namespace Go.Proofs.YtgpgocijacgkhaaDoor
open Go.RowKit

theorem Ints.add_ {w : World} {B : Nat} {x : Addr} {zs : List Int} (h : Ints w B (some x) zs) : ∀ j u, (zs.map (Value.int .i64))[j]? = some u → w.cell? (x.add j) = some u := by
  intro j u hu
  rcases h with rfl | ⟨b, off, e, hb, hc⟩
  · simp at hu
  · injection e with e
    subst e
    have hj : j < zs.length := by have := (List.getElem?_eq_some_iff.1 hu).1; simpa using this
    rw [show (⟨b, off, none⟩ : Addr).add j = ⟨b, off + j, none⟩ from by unfold Addr.add; split <;> simp_all, hc j hj]
    simp [hj] at hu ⊢
    exact hu

/-- append of any list of ints onto a row of the call's own. -/
theorem app_run {w : World} {B n : Nat} {v : Value} {xs : List Value} (h : w.ownsRow B 3 1 v n xs) (hB : B ≤ w.heap.size) (a : Option Addr) (c : Nat) (zs : List Int) (hz : Ints w w.heap.size a zs) (hn : n ≤ 1048576) (hzn : zs.length ≤ 1048576) :
    ∃ a' c' w', (Builtin.append_ #[23, 23] 23 #[v, .slice a zs.length c]).run Tryd.prog w = .ok (.slice a' (n + zs.length) c') w' ∧
      w'.ownsRow B 3 1 (.slice a' (n + zs.length) c') (n + zs.length) (xs ++ zs.map (Value.int .i64)) ∧ w.grownBy w' v.ownBlock := by
  obtain ⟨i0, hi0, hz0, hz1, hz2⟩ := info_parts Tryd.info3
  have form : ∀ {w' : World} {v' : Value} {k : Nat} {ys : List Value}, w'.ownsRow B 3 1 v' k ys → ∃ a' c', v' = .slice a' k c' := fun {w' v' k ys} h' => by
    rcases h'.2 with ⟨rfl, rfl⟩ | ⟨g, cap, cur, rfl, _⟩
    · exact ⟨none, 0, rfl⟩
    · exact ⟨_, _, rfl⟩
  rcases a with _ | x
  · have hzs : zs = [] := by
      rcases hz with h | ⟨_, _, e, _⟩
      · exact h
      · cases e
    subst hzs
    obtain ⟨a', c', rfl⟩ := form h
    refine ⟨a', c', w, ?_, by simpa using h, World.grownBy.refl _ _⟩
    rcases h.2 with ⟨e, rfl⟩ | ⟨g, cap, cur, e, _, _, hnc, _⟩
    · cases e; simp [Builtin.append_, run_underlying Tryd.underlying23, sizeOf, typeInfo, hi0, Builtin.lenOf, Builtin.firstCells]
    · cases e; simp [Builtin.append_, run_underlying Tryd.underlying23, sizeOf, typeInfo, hi0, Builtin.lenOf, Builtin.firstCells, hnc, storeCells]
  · obtain ⟨v', w', hr, h2, h3, _⟩ := run_append_own (P := Tryd.prog) w B 23 23 3 i0 (.int .i64 0) 1 8 Tryd.underlying23 hi0 hz0 hz1 hz2 rfl (by decide) v n xs h x zs.length c (zs.map (Value.int .i64)) (by simp) hz.add_ (ints_oneCell _ _) (by simp only [maxLen]; omega) (by omega) hB
    obtain ⟨a', c', rfl⟩ := form h2
    exact ⟨a', c', w', hr, h2, h3⟩

end Go.Proofs.YtgpgocijacgkhaaDoor

/- It is proved what the FamilyDrop of the program returns; conditions: those of each statement. -/
namespace Go.Proofs.YtgpgocijacgkhaaDoor
open Go.RowKit

/-- Without the club at place p. -/
def without (zs : List Int) (p : Nat) : List Int := zs.take p ++ zs.drop (p + 1)

theorem Ints.take_ {w : World} {B : Nat} {a : Option Addr} {zs : List Int} (h : Ints w B a zs) (p : Nat) : Ints w B a (zs.take p) := by
  rcases h with rfl | ⟨b, off, e, hb, hc⟩
  · exact .inl (by simp)
  · exact .inr ⟨b, off, e, hb, fun j hj => by
      rw [List.length_take] at hj
      rw [hc j (by omega), List.getElem?_take, if_pos (by omega)]⟩

theorem Ints.drop_ {w : World} {B b off : Nat} {zs : List Int} (h : Ints w B (some ⟨b, off, none⟩) zs) (p : Nat) (hp : p < zs.length) : Ints w B (some ⟨b, off + p, none⟩) (zs.drop p) := by
  rcases h with rfl | ⟨b', off', e, hb, hc⟩
  · simp at hp
  · injection e with e
    injection e with e1 e2
    subst e1; subst e2
    exact .inr ⟨b, off + p, rfl, hb, fun j hj => by
      rw [List.length_drop] at hj
      have := hc (p + j) (by omega)
      rw [Nat.add_assoc, this, List.getElem?_drop]⟩

end Go.Proofs.YtgpgocijacgkhaaDoor

/- It is proved how lists of the call's own and boxed families read; conditions: the bounds in each statement. -/
namespace Go.Proofs.YtgpgocijacgkhaaDoor
open Go.RowKit

theorem own_ints {w : World} {B : Nat} {a : Option Addr} {n cap : Nat} {zs : List Int} (h : OwnI w B (.slice a n cap) zs) : Ints w w.heap.size a zs := by
  rcases h.2 with ⟨h2, hn⟩ | ⟨g, c, cur, e, hb, hg, r⟩
  · exact .inl (List.eq_nil_of_length_eq_zero hn)
  · injection e with e1 e2 e3
    subst e1
    refine .inr ⟨g, 0, rfl, (Array.getElem?_eq_some_iff.1 hg).1, fun j hj => ?_⟩
    have h' : w.ownsRow B 3 1 (.slice (some ⟨g, 0, none⟩) zs.length c) zs.length (zs.map (Value.int .i64)) := ⟨h.1, .inr ⟨g, c, cur, rfl, hb, hg, r⟩⟩
    have := h'.cellAt j (by omega)
    simpa [hj] using this

end Go.Proofs.YtgpgocijacgkhaaDoor
