/- It is proved that a family drawn from bytes is one of the call's own; conditions: those of each statement. -/
import Derived.Test.YtkmaebkfmljiiaaDoorRows
import Derived.WalkKit
import Derived.WalkSpells
import Derived.ProofKit
import Derived.OpenShut
import Derived.ShutString
import Derived.ChangeOld
import Derived.Below
import Derived.Deep.RegionHeld3
import Derived.Deep.QuietTactic
import Derived.BigQuiet
import Derived.Lib.Hide
import Derived.Lib.SmallJoins
import Derived.Outline
import Derived.Laws.MakeOwn
import Derived.Laws.OwnMore
import Derived.IntWalk
import Derived.Deep.RegionLaw
import Derived.Deep.AppendLies
import Derived.RangeFuncNested
import Derived.RangeFuncBound
import Derived.RangeFuncCalls
import Derived.RangeFuncLeaves
import Derived.RangeFuncBox
import Derived.Shelf.Abstract
import Derived.Shelf.RegionOpen
import Derived.OwnWalkIn
import Derived.TacticsInMore
import Derived.LoopNIn
import Derived.LoopIn
import Derived.Maps.AppendAt
import Derived.OwnWalk
import Derived.Shelf.Spec.TrailingZeros
import Derived.Test.YtkmaebkfmljiiaaDoorB
import Derived.Test.YtkmaebkfmljiiaaDoorC
import Derived.Test.YtkmaebkfmljiiaaDoorMrbmxFnAll
import Derived.Test.YtkmaebkfmljiiaaDoorF
import Derived.Test.YtkmaebkfmljiiaaDoorP
import Derived.Test.YtkmaebkfmljiiaaDoorSa
import Derived.Test.YtkmaebkfmljiiaaDoorE
import Derived.Test.YtkmaebkfmljiiaaDoorD
import Derived.Test.YtkmaebkfmljiiaaDoorN
import Derived.Test.YtkmaebkfmljiiaaDoorT
import Derived.Test.YtkmaebkfmljiiaaDoorTa
import Derived.Test.YtkmaebkfmljiiaaDoorTb
import Derived.StillTailTactics
import Derived.StillTail
import Derived.StillTactics
import Derived.OrdersIn
import Derived.TacticsIn
import Derived.Test.YtkmaebkfmljiiaaDoorTO
namespace Go.Proofs.YtkmaebkfmljiiaaDoor
open Go.RowKit

theorem openD_any (a : Option Addr) (n cap : Nat) (w : World) (hn : n ≤ 1048576) (hc : n ≤ cap) (hc2 : cap ≤ 9223372036854775807) (ha : n ≠ 0 → ∃ g off, a = some ⟨g, off, none⟩) :
    Calls Tryd.prog 37 #[.slice a n cap] w fun e w' => ∃ k, k ≤ n ∧ e = .returned (.pointer (some ⟨w.heap.size, 0, none⟩)) ∧ w' = w.alloc (.cells #[.slice a k cap, .int .i64 0] 70) := by
  by_cases h : n ≤ 2000
  · go_enter Tryd.func37, Tryd.ntmps37
    go_wp2
    go_ret
    exact ⟨n, Nat.le_refl _, rfl, rfl⟩
  · obtain ⟨g, off, rfl⟩ := ha (by omega)
    have hc3 : (2000 : Int) ≤ (cap : Int) := by omega
    go_enter Tryd.func37, Tryd.ntmps37
    go_wp2
    go_ret
    exact ⟨2000, by omega, rfl, rfl⟩

/-- A family of the call's own. -/
def DrawnOne (w : World) (e : Ending) (W : World) : Prop :=
  ∃ (m : Int) (a : Option Addr) (zs : List Int) (c : Nat), e = .returned (.agg #[.int .i64 m, .slice a zs.length c]) ∧ zs.length ≤ 9 ∧ OwnI W w.heap.size (.slice a zs.length c) zs ∧ Below w.heap.size w W

theorem Bys.below {w W : World} {B : Nat} {b : Option Addr} {n : Nat} (h : Bys w B b n) (hb : Below B w W) : Bys W B b n := by
  rcases h with h | ⟨g, off, e, hgR, hc⟩
  · exact .inl h
  · refine .inr ⟨g, off, e, hgR, fun j hj => ?_⟩
    obtain ⟨z, hz, hcz⟩ := hc j hj
    exact ⟨z, hz, (hb.cell (p := ⟨g, off + j, none⟩) hgR).trans hcz⟩

theorem Bys.fewer {w : World} {B B' : Nat} {b : Option Addr} {n k : Nat} (h : Bys w B b n) (hB : B ≤ B') (hk : k ≤ n) : Bys w B' b k := by
  rcases h with h | ⟨g, off, e, hgR, hc⟩
  · exact .inl (by omega)
  · exact .inr ⟨g, off, e, by omega, fun j hj => hc j (by omega)⟩

set_option maxRecDepth 100000 in
set_option maxHeartbeats 2000000 in
theorem oneD_any (a : Option Addr) (n cap : Nat) (w : World) (hb : Bys w w.heap.size a n) (hn : n ≤ 1048576) (hc : n ≤ cap) (hc2 : cap ≤ 9223372036854775807) :
    Calls Tryd.prog 19 #[.slice a n cap] w (DrawnOne w) := by
  have ha : n ≠ 0 → ∃ g off, a = some ⟨g, off, none⟩ := fun h => by obtain ⟨g, off, e, _⟩ := hb.resolve_left h; exact ⟨g, off, e⟩
  have HB := Lib.hid hb
  clear hb
  go_enter Tryd.func19, Tryd.ntmps19
  go_wp2_with fail
  refine (openD_any a n cap _ hn hc hc2 ha).mono ?_
  rintro e w1 ⟨k, hk, rfl, rfl⟩
  have b1 := below2 w (.cells #[.int .i64 0, .slice none 0 0] 25) (.cells #[.slice a k cap, .int .i64 0] 70)
  have HD1 : Hid (DS ((w.alloc (.cells #[.int .i64 0, .slice none 0 0] 25)).alloc (.cells #[.slice a k cap, .int .i64 0] 70)) (w.heap.size + 1) a k cap 0 ((w.alloc (.cells #[.int .i64 0, .slice none 0 0] 25)).alloc (.cells #[.slice a k cap, .int .i64 0] 70))) := Lib.hid ⟨⟨0, Nat.le_refl _, alloc2_1 w _ _⟩, World.grownBy.refl _ _⟩
  have HB1 := Lib.hid ((HB.out.below b1).fewer (B' := w.heap.size + 1) (by omega) hk)
  have HX : Hid (HasBlk ((w.alloc (.cells #[.int .i64 0, .slice none 0 0] 25)).alloc (.cells #[.slice a k cap, .int .i64 0] 70)) w.heap.size #[.int .i64 0, .slice none 0 0] 25) := Lib.hid (alloc2_0 w _ _)
  have HBL := Lib.hid b1
  clear b1
  go_wp2_with fail
  refine (someD_any 6 7 6 7 rfl rfl (by decide) (by decide) (by decide) (w.heap.size + 1) a k cap 0 _ HD1.out HB1.out (by simp) (by omega) (by omega)).mono ?_
  rintro e w2 ⟨m, a2, zs, c2, rfl, ⟨hl, -, -⟩, ho, D2⟩
  have q0 := HX.out.kept D2.gr (by simp)
  have d0 := (blk_cell q0 0).trans (cell2_0 _ _)
  have d1 := (blk_cell q0 1).trans (cell2_1 _ _)
  have f0 := blk_frozen q0 0
  have f1 := blk_frozen q0 1
  have HO : Hid (OwnI w2 (w.heap.size + 2) (.slice a2 zs.length c2) zs) := Lib.hid (own_mono ho (by simp))
  have HBW := Lib.hid (HBL.out.trans ((Below.refl w.heap.size _).grown D2.gr (by simp; omega) (fun g e => by injection e; omega)))
  clear ho D2 q0
  go_wp2
  refine bodyPost_ret (v := .agg #[.int .i64 m, .slice a2 zs.length c2]) (by simp [results, Tryd.results19, go_sem, d0, d1]) rfl ?_
  refine ⟨m, a2, zs, c2, rfl, Nat.le_trans hl (by decide), ?_, ?_⟩
  · exact own_mono (ownsRow_setCell_below (ownsRow_setCell_below HO.out (a := ⟨w.heap.size, 0, none⟩) (show w.heap.size < w.heap.size + 2 by omega) _) (a := ⟨w.heap.size, 1, none⟩) (show w.heap.size < w.heap.size + 2 by omega) _) (by omega)
  · exact (HBW.out.setCell (p := ⟨w.heap.size, 0, none⟩) (Nat.le_refl _) _).setCell (p := ⟨w.heap.size, 1, none⟩) (Nat.le_refl _) _

set_option maxRecDepth 100000 in
set_option maxHeartbeats 2000000 in
theorem drawOther_any (a : Option Addr) (n cap : Nat) (w : World) (hb : Bys w w.heap.size a n) (hn : n ≤ 1048576) (hc : n ≤ cap) (hc2 : cap ≤ 9223372036854775807) :
    Calls Tryd.prog 6 #[.slice a n cap] w (DrawnOne w) := by
  have b1 := below1 w (.cells #[.int .i64 0, .slice none 0 0] 25)
  have HB := Lib.hid ((hb.below b1).fewer (B' := (w.alloc (.cells #[.int .i64 0, .slice none 0 0] 25)).heap.size) (by simp) (Nat.le_refl n))
  have HX : Hid (HasBlk (w.alloc (.cells #[.int .i64 0, .slice none 0 0] 25)) w.heap.size #[.int .i64 0, .slice none 0 0] 25) := Lib.hid (alloc_new w _)
  have HBL := Lib.hid b1
  clear hb b1
  go_enter Tryd.func6, Tryd.ntmps6
  go_wp2_with fail
  refine (oneD_any a n cap _ HB.out hn hc hc2).mono ?_
  rintro e w2 ⟨m, a2, zs, c2, rfl, hl, ho, D2⟩
  have q0 : HasBlk w2 w.heap.size #[.int .i64 0, .slice none 0 0] 25 := (D2.block _ (by simp)).trans HX.out
  have d0 := (blk_cell q0 0).trans (cell2_0 _ _)
  have d1 := (blk_cell q0 1).trans (cell2_1 _ _)
  have f0 := blk_frozen q0 0
  have f1 := blk_frozen q0 1
  have HO : Hid (OwnI w2 (w.heap.size + 1) (.slice a2 zs.length c2) zs) := Lib.hid (own_mono ho (by simp))
  have HBW := Lib.hid (HBL.out.trans (D2.mono (by simp)))
  clear ho D2 q0
  go_wp2
  refine bodyPost_ret (v := .agg #[.int .i64 m, .slice a2 zs.length c2]) (by simp [results, Tryd.results6, go_sem, d0, d1]) rfl ?_
  refine ⟨m, a2, zs, c2, rfl, hl, ?_, ?_⟩
  · exact own_mono (ownsRow_setCell_below (ownsRow_setCell_below HO.out (a := ⟨w.heap.size, 0, none⟩) (show w.heap.size < w.heap.size + 1 by omega) _) (a := ⟨w.heap.size, 1, none⟩) (show w.heap.size < w.heap.size + 1 by omega) _) (by omega)
  · exact (HBW.out.setCell (p := ⟨w.heap.size, 0, none⟩) (Nat.le_refl _) _).setCell (p := ⟨w.heap.size, 1, none⟩) (Nat.le_refl _) _

set_option maxRecDepth 100000 in
set_option maxHeartbeats 2000000 in
theorem drawAll_any (a : Option Addr) (n cap : Nat) (w : World) (hb : Bys w w.heap.size a n) (hn : n ≤ 1048576) (hc : n ≤ cap) (hc2 : cap ≤ 9223372036854775807) :
    Calls Tryd.prog 13 #[.slice a n cap] w (DrawnOne w) := by
  have b1 := below1 w (.cells #[.int .i64 0, .slice none 0 0] 25)
  have HB := Lib.hid ((hb.below b1).fewer (B' := (w.alloc (.cells #[.int .i64 0, .slice none 0 0] 25)).heap.size) (by simp) (Nat.le_refl n))
  have HX : Hid (HasBlk (w.alloc (.cells #[.int .i64 0, .slice none 0 0] 25)) w.heap.size #[.int .i64 0, .slice none 0 0] 25) := Lib.hid (alloc_new w _)
  have HBL := Lib.hid b1
  clear hb b1
  go_enter Tryd.func13, Tryd.ntmps13
  go_wp2_with fail
  refine (oneD_any a n cap _ HB.out hn hc hc2).mono ?_
  rintro e w2 ⟨m, a2, zs, c2, rfl, hl, ho, D2⟩
  have q0 : HasBlk w2 w.heap.size #[.int .i64 0, .slice none 0 0] 25 := (D2.block _ (by simp)).trans HX.out
  have d0 := (blk_cell q0 0).trans (cell2_0 _ _)
  have d1 := (blk_cell q0 1).trans (cell2_1 _ _)
  have f0 := blk_frozen q0 0
  have f1 := blk_frozen q0 1
  have HO : Hid (OwnI w2 (w.heap.size + 1) (.slice a2 zs.length c2) zs) := Lib.hid (own_mono ho (by simp))
  have HBW := Lib.hid (HBL.out.trans (D2.mono (by simp)))
  clear ho D2 q0
  go_wp2
  refine bodyPost_ret (v := .agg #[.int .i64 m, .slice a2 zs.length c2]) (by simp [results, Tryd.results13, go_sem, d0, d1]) rfl ?_
  refine ⟨m, a2, zs, c2, rfl, hl, ?_, ?_⟩
  · exact own_mono (ownsRow_setCell_below (ownsRow_setCell_below HO.out (a := ⟨w.heap.size, 0, none⟩) (show w.heap.size < w.heap.size + 1 by omega) _) (a := ⟨w.heap.size, 1, none⟩) (show w.heap.size < w.heap.size + 1 by omega) _) (by omega)
  · exact (HBW.out.setCell (p := ⟨w.heap.size, 0, none⟩) (Nat.le_refl _) _).setCell (p := ⟨w.heap.size, 1, none⟩) (Nat.le_refl _) _

end Go.Proofs.YtkmaebkfmljiiaaDoor

/- It is proved how a slice of bytes among a law's arguments reads; conditions: none but that the argument can be read. -/
namespace Go.Proofs.YtkmaebkfmljiiaaDoor
open Go.ChangeShapes Go.WideShapes Go.ChangeAt Go.RowKit Go.Joins
open Go.ChangeMaps (open_string shut_string)

theorem u8_min : IntKind.u8.min = 0 := by decide
theorem u8_max : IntKind.u8.max = 255 := by decide
theorem byte_in {z : Int} (h : (Lit.int .u8 z).wf = true) : 0 ≤ z ∧ z ≤ 255 := by
  simp [Lit.wf, u8_min, u8_max] at h; exact h

theorem byte_small {z : Int} (h : (Lit.int .u8 z).wf = true) : z.toNat < 256 := by have := byte_in h; omega
theorem byte_nat {z : Int} (h : (Lit.int .u8 z).wf = true) : Value.int .u8 z = .int .u8 ((z.toNat : Nat) : Int) := by
  rw [Int.toNat_of_nonneg (byte_in h).1]

theorem Tryd.cells5 : Tryd.prog.cellsOf 5 = 1 := by kernel_rfl
set_option maxRecDepth 100000 in
theorem open_code {H : Type} {enc : TypeId × Value → H} {W : World} {base : Nat} {v : Value} {d : DataW H} {p : List MemPlace}
    (hv : Value.okWide Tryd.prog W .any base 22 v) (h : DataW.Trod enc Tryd.prog W 0 (fun _ => true) true 22 v d p) :
    ∃ a n cap, v = .slice a n cap ∧ n ≤ cap ∧ cap ≤ maxLen ∧ Bys W W.heap.size a n := by
  obtain ⟨a, n, cap, rfl⟩ := okWide_slice Tryd.underlying22 hv
  obtain ⟨fuel, hf⟩ := h
  rcases open_ints Tryd.underlying22 Tryd.underlying5 Tryd.cells5 hf with ⟨hcs, _⟩ | ⟨x, l, c, zs, hcs, _, hl, hm, hz, hx, hcell, hwz⟩
  · simp [Value.cells] at hcs
    obtain ⟨rfl, rfl, rfl⟩ := hcs
    exact ⟨none, 0, 0, rfl, by omega, by simp [maxLen], .inl rfl⟩
  · simp [Value.cells] at hcs
    obtain ⟨rfl, rfl, rfl⟩ := hcs
    refine ⟨some x, n, cap, rfl, hl, hm, ?_⟩
    by_cases h0 : n = 0
    · exact .inl h0
    · obtain ⟨b, off, spot⟩ := x
      simp at hz
      have hc := hcell 0 (by omega)
      have hspot : spot = none := by simpa [Addr.add] using World.cell?_spot hc
      subst hspot
      refine .inr ⟨b, off, rfl, by simpa [Addr.add] using World.block_lt_of_cell? W _ hc, fun j hj => ?_⟩
      have h1 := hcell j (by omega)
      rw [show (⟨b, off, none⟩ : Addr).add j = ⟨b, off + j, none⟩ from by unfold Addr.add; split <;> simp_all] at h1
      have h2 := hwz (zs.getD j 0) (by
        have : j < zs.length := by omega
        simp [List.getD, this])
      refine ⟨(zs.getD j 0).toNat, ?_, ?_⟩
      · exact byte_small h2
      · rw [h1, byte_nat h2]

end Go.Proofs.YtkmaebkfmljiiaaDoor

/- It is proved how boxed families and lists are kept while the laws go on; conditions: those of each statement. -/
namespace Go.Proofs.YtkmaebkfmljiiaaDoor
open Go.RowKit

/-- A family in a box. -/
structure FB (X : Nat) (m : Int) (a : Option Addr) (zs : List Int) (c : Nat) (W : World) : Prop where
  blk : HasBlk W X #[.int .i64 m, .slice a zs.length c] 25
  ints : Ints W W.heap.size a zs

theorem FB.step {X : Nat} {m : Int} {a : Option Addr} {zs : List Int} {c : Nat} {W W' : World} (h : FB X m a zs c W) (hb : Below W.heap.size W W') : FB X m a zs c W' :=
  ⟨(hb.block X (lt_of_some h.blk)).trans h.blk, (h.ints.below hb).mono hb.size⟩

theorem FB.start {w : World} {m : Int} {a : Option Addr} {zs : List Int} {c : Nat} (h : Ints w w.heap.size a zs) : FB w.heap.size m a zs c (w.alloc (.cells #[.int .i64 m, .slice a zs.length c] 25)) :=
  ⟨alloc_new w _, (h.below (below1 w _)).mono (by simp)⟩

theorem FB.x0 {X : Nat} {m : Int} {a : Option Addr} {zs : List Int} {c : Nat} {W : World} (h : FB X m a zs c W) : W.cell? ⟨X, 0, none⟩ = some (.int .i64 m) := (blk_cell h.blk 0).trans (cell2_0 _ _)
theorem FB.x1 {X : Nat} {m : Int} {a : Option Addr} {zs : List Int} {c : Nat} {W : World} (h : FB X m a zs c W) : W.cell? ⟨X, 1, none⟩ = some (.slice a zs.length c) := (blk_cell h.blk 1).trans (cell2_1 _ _)
theorem Ints.step {W W' : World} {a : Option Addr} {zs : List Int} (h : Ints W W.heap.size a zs) (hb : Below W.heap.size W W') : Ints W' W'.heap.size a zs := (h.below hb).mono hb.size
end Go.Proofs.YtkmaebkfmljiiaaDoor

/- It is proved that both sides' unions and meetings of small sets are those of natural numbers; conditions: those of each statement. -/
namespace Go.Proofs.YtkmaebkfmljiiaaDoor
open Go.RowKit
set_option maxRecDepth 100000 in
theorem orG_fin : ∀ a b : Fin 64, bits .or .i64 (a.val : Int) (b.val : Int) = ((a.val ||| b.val : Nat) : Int) := by decide +kernel

theorem or_fin2 (a b : Nat) (ha : a < 64) (hb : b < 64) : bits .or .i64 (a : Int) (b : Int) = ((a ||| b : Nat) : Int) := orG_fin ⟨a, ha⟩ ⟨b, hb⟩
end Go.Proofs.YtkmaebkfmljiiaaDoor

/- It is proved that the call of the law FnExactFamilyDegrees returns true, given what the two functions return; conditions: those of each statement. -/
namespace Go.Proofs.YtkmaebkfmljiiaaDoor
open Go.RowKit

/-- What a function of a family that hands back a list and a bool returns. -/
def RetSB (w : World) (zs : List Int) (ok : Bool) (e : Ending) (w' : World) : Prop :=
  ∃ a cap, e = .returned (.tuple #[.slice a zs.length cap, .bool ok]) ∧ OwnI w' w.heap.size (.slice a zs.length cap) zs ∧ Below w.heap.size w w'

end Go.Proofs.YtkmaebkfmljiiaaDoor

/- It is proved what FamilyDegrees of the program returns; conditions: those of each statement. -/
namespace Go.Proofs.YtkmaebkfmljiiaaDoor
open Go.RowKit Go.Shelf

attribute [local go_sem] Oper.semAt_some

def famDeg (m : Int) (zs : List Int) : List Int := if famIn m zs then degL m.toNat (allMem zs) else []
set_option maxRecDepth 100000 in
set_option maxHeartbeats 2000000 in
theorem implDegrees_no (m : Int) (a : Option Addr) (c : Nat) (zs : List Int) (w : World) (ha : Ints w w.heap.size a zs) (hx : zs.length ≤ 1048576) (hf : famIn m zs = false) :
    Calls Tryd.prog 15 #[.agg #[.int .i64 m, .slice a zs.length c]] w (RetSB w [] false) := by
  have HA := Lib.hid ((ha.below (below1 w (.cells #[.int .i64 m, .slice a zs.length c] 25))).mono (B' := (w.alloc (.cells #[.int .i64 m, .slice a zs.length c] 25)).heap.size) (by simp))
  have HF := Lib.hid hf
  clear hf ha
  go_enter Tryd.func15, Tryd.ntmps15
  go_wp2_with (go_at_call 20; refine (implFamilyIn_any _ _ _ zs _ HA.out hx).mono ?_; rintro e w1 ⟨rfl, hb⟩; rw [HF.out]; have HB := Lib.hid hb; clear hb)
  go_ret2
  exact ⟨none, 0, rfl, World.ownsRow_nil _ _ 3 1, (below1 _ _).trans (HB.out.mono (by simp))⟩

set_option maxRecDepth 100000 in
set_option maxHeartbeats 4000000 in
theorem implDegrees_yes (m : Nat) (a : Option Addr) (c : Nat) (zs : List Int) (w : World) (ha : Ints w w.heap.size a zs) (hT : Tab w) (hx : zs.length ≤ 1048576) (hf : famIn (m : Int) zs = true) :
    Calls Tryd.prog 15 #[.agg #[.int .i64 (m : Int), .slice a zs.length c]] w (RetSB w (degL m (allMem zs)) true) := by
  obtain ⟨i0, hi0, hz0, hz1, hz2⟩ := info_parts Tryd.info3
  have HA := Lib.hid ((ha.below (below1 w (.cells #[.int .i64 (m : Int), .slice a zs.length c] 25))).mono (B' := (w.alloc (.cells #[.int .i64 (m : Int), .slice a zs.length c] 25)).heap.size) (by simp))
  have HI := Lib.hid ha
  have HF := Lib.hid hf
  have HT := Lib.hid hT
  have hPc := isClub_all hf
  obtain ⟨hm1, hm6, hl8, -⟩ := famIn_out hf
  have hm6' : m ≤ 6 := by omega
  clear hf ha hT
  refine (callsIn_wide (n := 6)).1 ?_
  refine callsIn_of_wp_marks Tryd.func15 rfl trivial ?_ rfl
  simp only [Tryd.ntmps15, List.size_toArray, List.length_cons, List.length_nil, Nat.reduceAdd, Nat.reduceSub, Array.replicate_succ, Array.replicate_zero, List.push_toArray, List.append_toArray, List.nil_append, List.cons_append]
  gi_wp2_with fail
  refine ⟨trivial, (callsIn_wide.2 (implFamilyIn_any _ _ _ zs _ HA.out hx)).mono ?_⟩
  rintro e w1 ⟨rfl, hb⟩
  rw [HF.out]
  have q0 : w1.heap[w.heap.size]? = some (.cells #[.int .i64 (m : Int), .slice a zs.length c] 25 (0, 0)) := (hb.block _ (by simp)).trans (alloc_new w _)
  have x0 := blk_cell q0 0
  have x1 := blk_cell q0 1
  have xs : w.heap.size + 1 ≤ w1.heap.size := by have := hb.size; simpa using this
  have HB := Lib.hid ((below1 w _).trans (hb.mono (by simp)))
  have Q0 := Lib.hid q0
  simp only [cell2_0, cell2_1] at x0 x1
  clear hb q0
  gi_wp2_with (gi_at_make; refine mark_make ?_)
  refine unmark_make ?_
  refine wpListIn_make_fullD _ rfl _ _ 23 rfl w1.heap.size 3 i0 (.int .i64 0) 1 Tryd.underlying23 hi0 hz0 hz1 .i64 .i64 m rfl rfl (by rw [hz2]; omega) (by simp only [maxLen]; omega) (Nat.le_refl _) ?_
  intro w2 hown hg
  have y0 := ((hg.block w.heap.size (by omega) (by simp)).trans Q0.out : w2.heap[w.heap.size]? = _)
  have z0 := blk_cell (w := w2.alloc (.cells #[.slice (some ⟨w1.heap.size, 0, none⟩) m m] 23)) ((alloc_old _ _ _ (lt_of_some y0)).trans y0) 0
  have z1 := blk_cell (w := w2.alloc (.cells #[.slice (some ⟨w1.heap.size, 0, none⟩) m m] 23)) ((alloc_old _ _ _ (lt_of_some y0)).trans y0) 1
  have hGl : w1.heap.size < w2.heap.size := by have := (World.ownsRow.lt hown _ rfl).2; simpa using this
  have HO : Hid (w2.ownsRow w1.heap.size 3 1 (.slice (some ⟨w1.heap.size, 0, none⟩) m m) m ((degL m []).map (Value.int .i64))) := Lib.hid (by rw [degL_nil]; have := hown; rw [show (madeCells (Value.int .i64 0).cells (m * 1)).toList = (List.replicate m (0 : Int)).map (Value.int .i64) from by rw [show (Value.int .i64 0).cells = #[Value.int .i64 0] from rfl, toList_madeCells_one]; simp] at this; exact this)
  have HG := Lib.hid (HB.out.trans (((Below.refl _ _).grown hg (Nat.le_refl _) (by simp) : Below w1.heap.size w1 w2).mono (by omega)))
  simp only [cell2_0, cell2_1] at z0 z1
  clear hown hg y0 x0 x1
  gi_wp2_with (refine ⟨trivial, ?_⟩; gi_at_call 30; refine (callsIn_wide.2 (clubs_any _ _ _ _ _)).mono ?_; rintro e w' ⟨rfl, rfl⟩)
  have hle : w.heap.size ≤ w2.heap.size := by omega
  have h16 : 1 ≤ 6 := by omega
  have bD := Boxed.new w2 23 (.slice (some ⟨w1.heap.size, 0, none⟩) m m)
  have HBB : Hid (Below w.heap.size w ((w2.alloc (.cells #[.slice (some ⟨w1.heap.size, 0, none⟩) m m] 23)).alloc (.cells #[.int .i64 (m : Int), .slice a zs.length c] 25))) := Lib.hid (HG.out.trans ((below2 w2 _ _).mono (by omega)))
  have hst := clubsP_stops (IsClub m) (6 - 1) (by omega) (w2.heap.size + 1) w.heap.size a c zs hx hPc ((w2.alloc (.cells #[.slice (some ⟨w1.heap.size, 0, none⟩) m m] 23)).alloc (.cells #[.int .i64 (m : Int), .slice a zs.length c] 25)) (by simp) (by simp; omega)
    (by simp) (HI.out.below HBB.out)
  have h0 : RowBox w2.heap.size w1.heap.size w.heap.size m (degL m (allMem (sets ([] : List { p // IsClub m p })))) ((w2.alloc (.cells #[.slice (some ⟨w1.heap.size, 0, none⟩) m m] 23)).alloc (.cells #[.int .i64 (m : Int), .slice a zs.length c] 25)) :=
    ⟨_, bD.alloc _, by have := ownsRow_base HO.out (B := w.heap.size) (by omega); exact (this.alloc _).alloc _, rfl⟩
  obtain ⟨Wo, hWo⟩ : ∃ Wo, (w2.alloc (.cells #[.slice (some ⟨w1.heap.size, 0, none⟩) m m] 23)).alloc (.cells #[.int .i64 (m : Int), .slice a zs.length c] 25) = Wo := ⟨_, rfl⟩
  have hso : Wo.heap.size = w2.heap.size + 1 + 1 := by rw [← hWo]; simp
  rw [hWo] at hst HBB h0 ⊢
  have HSO := Lib.hid hso
  clear hWo bD hso
  refine wpIn_rangeFunc_ownH rfl h16 (gf := 42) (lb := #[.pointer (some ⟨w2.heap.size + 1, 0, none⟩)]) rfl trivial (enters_of Tryd.func42 (by kernel_rfl) rfl)
    hst belowK_t (belowK_b (by have := HSO.out; omega)) (Below.refl _ _) (fun _ => rfl)
    (fun pre W => RowBox w2.heap.size w1.heap.size w.heap.size m (degL m (allMem (sets pre))) W ∧ Below w.heap.size w W)
    (fun _ _ _ => False)
    (OwnFrom.and (Own.from (RowBox.own _ _ _ _ (fun pre => degL m (allMem (sets pre)))) _) (ownFrom_below (Nat.le_refl _) (by have := HSO.out; omega)))
    (fun _ _ _ _ _ hs _ _ => hs)
    ⟨h0, HBB.out⟩
    (fun x a' _ => a' = { tmps := #[.agg #[.int .i64 (m : Int), .slice a zs.length c], .pointer (some ⟨w.heap.size, 0, none⟩), .slice none 0 0, .bool false, .pointer (some ⟨w2.heap.size, 0, none⟩), undef, .int .i64 x.1.2, undef, .agg #[.int .i64 (m : Int), .slice a zs.length c], .bool true, .bool false, .pointer (some ⟨w.heap.size, 0, none⟩), .int .i64 (m : Int), .slice (some ⟨w1.heap.size, 0, none⟩) m m, .agg #[.int .i64 (m : Int), .slice a zs.length c], .func (.func 42) #[] #[.pointer (some ⟨w2.heap.size + 1, 0, none⟩)], .int .i64 (x.1.1 : Int), .int .i64 x.1.2, undef, undef, undef, undef, undef, undef, undef, undef, undef, undef], defers := [] })
    (fun _ _ _ _ _ _ hs _ _ => hs)
    ?assign ?body ?done ?stop
  case assign =>
    rintro l pre x W K hi hK
    gi_wp2
    exact hK _ _ (KeepsFrom.refl _ _) (Below.refl _ _) hi rfl
  case body =>
    rintro l pre x a' W hl ⟨r, hr⟩ ⟨hv, hB⟩ rfl hlt
    obtain ⟨s, hs⟩ : ∃ s : Nat, x.1.2 = (s : Int) := ⟨x.1.2.toNat, by have := x.2.2.1; omega⟩
    have hs2 : s < 2 ^ m := by have := x.2.2.2; rw [hs] at this; simpa using this
    rw [hs]
    have HV := Lib.hid hv
    have HBW := Lib.hid hB
    have hWs : w.heap.size ≤ W.heap.size := hB.size
    have h1' : 1 ≤ 6 - 1 - 1 := by omega
    clear hv hB
    gi_wp2_with (refine ⟨trivial, ?_⟩; gi_at_call 32; refine (callsIn_wide.2 (members_any _ _)).mono ?_; rintro e w' ⟨rfl, rfl⟩)
    have hDW : w2.heap.size < W.heap.size := HV.out.box.lt
    have hst2 := (members_stops (6 - 1 - 1 - 1) (by omega) W.heap.size w.heap.size m s hm6' hs2 (W.alloc (.cells #[.int .i64 (s : Int)] 45)) (by simp) (by simp; omega) HT.out.lt (by simp)
      (HT.out.below (HBW.out.alloc hWs _) HT.out.lt)).inRound l
    have hr' : (W.alloc (.cells #[.int .i64 (s : Int)] 45)).heap[l]? = some (.loop r) := (alloc_old W _ l (lt_of_some hr)).trans hr
    have h00 : RowBox w2.heap.size w1.heap.size w.heap.size m (degL m (allMem (sets pre) ++ vals ([] : List (Mem m)))) (W.alloc (.cells #[.int .i64 (s : Int)] 45)) := by
      rw [vals_nil, List.append_nil]; exact HV.out.alloc _
    have hbl : (allMem (sets pre)).length ≤ 48 := by have := sets_len hm6' pre; omega
    refine wpIn_rangeFunc_ownN (l₀ := l) (r₀ := r) rfl hr' h1' (gf := 43) (lb := #[.pointer (some ⟨W.heap.size, 0, none⟩)]) rfl trivial (enters_of Tryd.func43 (by kernel_rfl) rfl)
      hst2 belowK_t (belowK_b (by simp; omega)) (Below.refl _ _) (fun _ => rfl)
      (fun us W' => RowBox w2.heap.size w1.heap.size w.heap.size m (degL m (allMem (sets pre) ++ vals us)) W' ∧ (Below w.heap.size W W' ∧ KeepsFrom Wo.heap.size W W'))
      (fun _ _ _ => False)
      (OwnFrom.and (Own.from (RowBox.own _ _ _ _ (fun us => degL m (allMem (sets pre) ++ vals us))) _) (OwnFrom.and (ownFrom_below hWs (by simp; omega)) (ownFrom_keepsFrom (by simp))))
      (fun _ _ _ _ _ hs _ _ => hs)
      ⟨h00, (Below.refl _ W).alloc hWs _, (KeepsOthers.alloc _ _).from _⟩
      (fun y a'' _ => a'' = { tmps := #[.agg #[.int .i64 (m : Int), .slice a zs.length c], .pointer (some ⟨w.heap.size, 0, none⟩), .slice none 0 0, .bool false, .pointer (some ⟨w2.heap.size, 0, none⟩), undef, .int .i64 (s : Int), .int .i64 (y.1 : Int), .agg #[.int .i64 (m : Int), .slice a zs.length c], .bool true, .bool false, .pointer (some ⟨w.heap.size, 0, none⟩), .int .i64 (m : Int), .slice (some ⟨w1.heap.size, 0, none⟩) m m, .agg #[.int .i64 (m : Int), .slice a zs.length c], .func (.func 42) #[] #[.pointer (some ⟨w2.heap.size + 1, 0, none⟩)], .int .i64 (x.1.1 : Int), .int .i64 (s : Int), .int .i64 (s : Int), .func (.func 43) #[] #[.pointer (some ⟨W.heap.size, 0, none⟩)], .int .i64 (y.1 : Int), undef, undef, undef, undef, undef, undef, undef], defers := [] })
      (fun _ _ _ _ _ _ hs _ _ => hs)
      ?assign2 ?body2 ?done2 ?stop2
    case assign2 =>
      rintro l2 us y W' K hi hK
      gi_wp2
      exact hK _ _ (KeepsFrom.refl _ _) (Below.refl _ _) hi rfl
    case body2 =>
      rintro l2 us y a'' W' _ _ ⟨hv, hBW, hKF⟩ rfl hul
      obtain ⟨u, hu⟩ := y
      obtain ⟨d, hd⟩ : ∃ d, d = (allMem (sets pre) ++ vals us).count u := ⟨_, rfl⟩
      have hd60 : d ≤ 60 := by
        have h1 := List.count_le_length (a := u) (l := allMem (sets pre) ++ vals us)
        simp only [List.length_append, vals_length] at h1
        omega
      have hcD := hv.box.cell
      obtain ⟨hcs, hfz⟩ := hv.cell u hu
      rw [degL_at _ _ _ hu, ← hd] at hcs
      have HS := Lib.hid (hv.set (by omega) u ((d : Int) + 1))
      have HV2 := Lib.hid hv
      have HB2 := Lib.hid hBW
      have HK2 := Lib.hid hKF
      have HD := Lib.hid hd
      clear hv hBW hKF hd
      gi_wp2
      refine ⟨(KeepsOthers.setCell _ _ _).from _, (Below.refl _ W').setCell (p := ⟨w1.heap.size, u, none⟩) (by show w.heap.size ≤ w1.heap.size; omega) _, ?_, HB2.out.setCell (p := ⟨w1.heap.size, u, none⟩) (by show w.heap.size ≤ w1.heap.size; omega) _, HK2.out.trans ((KeepsOthers.setCell _ _ _).from _)⟩
      rw [vals_snoc, ← List.append_assoc, degL_snoc, ← HD.out]
      exact HS.out
    case done2 =>
      rintro us W' hus ⟨hv, hBW, hKF⟩
      gi_wp2
      refine ⟨hKF, hBW, ?_, HBW.out.trans hBW⟩
      rw [sets_snoc, allMem_snoc, hs, Int.toNat_natCast, ← hus]
      exact hv
    case stop2 =>
      rintro c us W' _ h
      exact h.elim
  case done =>
    rintro D ys W hD hys ⟨hv, hB⟩ hK
    rw [sets_all hys] at hv
    have hc := hv.box.cell
    have HR := Lib.hid hv.row
    have HBW := Lib.hid hB
    clear hv hB
    gi_wp2
    refine ⟨by simp, .inl ⟨_, _, rfl, run_takeDeferred hK, ?_⟩⟩
    refine ⟨_, results_tmp2 rfl _ _ _, some ⟨w1.heap.size, 0, none⟩, m, by rw [degL_length]; rfl, ?_, HBW.out.trans (belowK_b (w := w) (Nat.le_refl _) W D _ _ (by have := HSO.out; omega) hK rfl rfl)⟩
    unfold OwnI
    rw [degL_length]
    exact ownsRow_base (ownsRow_putObj HR.out _ hK rfl) (Nat.le_refl _)
  case stop =>
    rintro D c pre W _ _ h _
    exact h.elim

end Go.Proofs.YtkmaebkfmljiiaaDoor

/- It is proved what FamilyDegrees of the model returns; conditions: those of each statement. -/
namespace Go.Proofs.YtkmaebkfmljiiaaDoor
open Go.RowKit

set_option maxRecDepth 100000 in
theorem bit_fin : ∀ s : Fin 64, ∀ v : Fin 6, bits BinOp.and IntKind.i64 ((s.val : Int) / 2 ^ v.val) 1 = (((s.val >>> v.val) &&& 1 : Nat) : Int) := by decide +kernel

theorem bit_at (s v : Nat) (hs : s < 64) (hv : v < 6) : bits BinOp.and IntKind.i64 ((s : Int) / 2 ^ v) 1 = (((s >>> v) &&& 1 : Nat) : Int) := bit_fin ⟨s, hs⟩ ⟨v, hv⟩
theorem implDegrees_any (m : Int) (a : Option Addr) (c : Nat) (zs : List Int) (w : World) (ha : Ints w w.heap.size a zs) (hT : Tab w) (hx : zs.length ≤ 1048576) :
    Calls Tryd.prog 15 #[.agg #[.int .i64 m, .slice a zs.length c]] w (RetSB w (famDeg m zs) (famIn m zs)) := by
  cases hf : famIn m zs
  · rw [show famDeg m zs = [] from by simp [famDeg, hf]]
    exact implDegrees_no m a c zs w ha hx hf
  · obtain ⟨hm1, hm6, -, -⟩ := famIn_out hf
    obtain ⟨k, rfl⟩ : ∃ k : Nat, m = (k : Int) := ⟨m.toNat, by omega⟩
    rw [show famDeg (k : Int) zs = degL k (allMem zs) from by simp [famDeg, hf]]
    exact implDegrees_yes k a c zs w ha hT hx hf

end Go.Proofs.YtkmaebkfmljiiaaDoor

/- It is proved how sums of degrees, sizes, unions and meetings of clubs count their members; conditions: those of each statement. -/
namespace Go.Proofs.YtkmaebkfmljiiaaDoor
open Go.RowKit

theorem allMem_cons (z : Int) (zs : List Int) : allMem (z :: zs) = mem z.toNat ++ allMem zs := by simp [allMem]
theorem small63 {m : Int} {zs : List Int} (h : famIn m zs = true) : ∀ z ∈ zs, 0 ≤ z ∧ z ≤ 63 := fun z hz => by
  obtain ⟨h1, h2, h3, h4⟩ := famIn_out h
  have := h4 z hz
  have h5 : fullI m ≤ 63 := by rcases m16 h1 h2 with rfl | rfl | rfl | rfl | rfl | rfl <;> decide
  omega

set_option maxRecDepth 100000 in
theorem mem_one_fin : ∀ s : Fin 64, ∀ v : Fin 6, (mem s.val).count v.val = if s.val.testBit v.val then 1 else 0 := by decide +kernel

theorem mem_one {s v : Nat} (hs : s < 64) (hv : v < 6) : (mem s).count v = if s.testBit v then 1 else 0 := mem_one_fin ⟨s, hs⟩ ⟨v, hv⟩
/-- A club has a member. -/
def hasM (v : Nat) (z : Int) : Bool := z.toNat.testBit v

theorem count_all {v : Nat} (hv : v < 6) : ∀ zs : List Int, (∀ z ∈ zs, 0 ≤ z ∧ z ≤ 63) → (allMem zs).count v = zs.countP (hasM v)
  | [], _ => by simp [allMem]
  | z :: zs, h => by
    have ih := count_all hv zs (fun x hx => h x (by simp [hx]))
    have hz := h z (by simp)
    rw [allMem_cons, List.count_append, ih, mem_one (by omega) hv, List.countP_cons]
    unfold hasM
    omega

theorem orN_is : ∀ (zs : List Int) (s : Nat), s < 64 → (∀ z ∈ zs, 0 ≤ z ∧ z ≤ 63) → ∃ S : Nat, zs.foldl (fun s z => bits .or .i64 s z) (s : Int) = (S : Int) ∧ S < 64 ∧ ∀ v, S.testBit v = (s.testBit v || zs.any (hasM v))
  | [], s, hs, _ => ⟨s, rfl, hs, by simp⟩
  | z :: zs, s, hs, h => by
    have hz := h z (by simp)
    have e := or_fin2 s z.toNat hs (by omega)
    rw [Int.toNat_of_nonneg hz.1] at e
    obtain ⟨S, h1, h2, h3⟩ := orN_is zs (s ||| z.toNat) (Nat.or_lt_two_pow (n := 6) hs (by omega)) (fun x hx => h x (by simp [hx]))
    refine ⟨S, by rw [List.foldl_cons, e]; exact h1, h2, fun v => ?_⟩
    rw [h3, Nat.testBit_or, List.any_cons, hasM, Bool.or_assoc]

theorem bit_val {S v : Nat} (hS : S < 64) (hv : v < 6) : bits BinOp.and IntKind.i64 ((S : Int) / 2 ^ v) 1 = if S.testBit v then 1 else 0 := by
  rw [bit_at S v hS hv]
  have h1 : (S >>> v) &&& 1 = if S.testBit v then 1 else 0 := by
    rw [Nat.testBit, Nat.and_comm]
    have : 1 &&& (S >>> v) ≤ 1 := Nat.and_le_left
    by_cases h0 : 1 &&& (S >>> v) = 0
    · rw [h0]; rfl
    · rw [show 1 &&& (S >>> v) = 1 by omega]; rfl
  rw [h1]
  cases S.testBit v <;> rfl

/-- Unions tell which degrees are not 0. -/
theorem all_facts {k : Nat} {zs : List Int} (h : famIn (k : Int) zs = true) : ∃ S : Nat, famAll (k : Int) zs = (S : Int) ∧ S < 64 ∧ ∀ v, v < k → ((0 < (degL k (allMem zs))[v]?.getD 0) ↔ S.testBit v = true) := by
  obtain ⟨h1, h2, h3, h4⟩ := famIn_out h
  obtain ⟨S, e, hS, ht⟩ := orN_is zs 0 (by decide) (small63 h)
  refine ⟨S, by rw [famAll, if_pos h]; exact e, hS, fun v hv => ?_⟩
  rw [degL_at k _ v hv, Option.getD_some, count_all (by omega) zs (small63 h), ht]
  simp only [Nat.zero_testBit, Bool.false_or, List.any_eq_true]
  rw [← List.countP_pos_iff]
  omega

end Go.Proofs.YtkmaebkfmljiiaaDoor
