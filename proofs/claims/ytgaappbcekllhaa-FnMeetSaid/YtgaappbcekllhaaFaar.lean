/- It is proved that a drawn family and a drawn set are the call's own; conditions: those of each statement. -/
import Derived.Deep.RegionWith
import Derived.Test.YtgaappbcekllhaaRows
import Derived.WalkKit
import Derived.WalkSpells
import Derived.ProofKit
import Derived.OpenShut
import Derived.ShutString
import Derived.ChangeOld
import Derived.Below
import Derived.Deep.RegionHeld3
import Derived.Deep.QuietTactic
import Derived.BigQuiet
import Derived.Lib.Hide
import Derived.Lib.SmallJoins
import Derived.Outline
import Derived.Laws.MakeOwn
import Derived.Laws.OwnMore
import Derived.IntWalk
import Derived.Deep.RegionLaw
import Derived.Deep.AppendLies
import Derived.RangeFuncNested
import Derived.RangeFuncBound
import Derived.RangeFuncCalls
import Derived.RangeFuncLeaves
import Derived.RangeFuncBox
import Derived.Shelf.Abstract
import Derived.Shelf.RegionOpen
import Derived.OwnWalkIn
import Derived.TacticsInMore
import Derived.LoopNIn
import Derived.LoopIn
import Derived.Maps.AppendAt
import Derived.Shelf.Spec.TrailingZeros
import Derived.OwnWalk
import Derived.Test.YtgaappbcekllhaaFaaa
import Derived.Test.YtgaappbcekllhaaFaac
import Derived.Test.YtgaappbcekllhaaFaao
import Derived.Test.YtgaappbcekllhaaFaap
import Derived.Test.YtgaappbcekllhaaFaab
import Derived.Test.YtgaappbcekllhaaFaae
namespace Go.Proofs.Ytgaappbcekllhaa
open Go.RowKit

/-- A family of the call's own, and a number. -/
def DrawnTwo (w : World) (e : Ending) (W : World) : Prop :=
  ∃ (m : Int) (a : Option Addr) (zs : List Int) (c : Nat) (x : Int), e = .returned (.tuple #[.agg #[.int .i64 m, .slice a zs.length c], .int .i64 x]) ∧ zs.length ≤ 10 ∧ OwnI W w.heap.size (.slice a zs.length c) zs ∧ Below w.heap.size w W

theorem DS.belowR {w W : World} {R : Nat} {b : Option Addr} {n cap P B : Nat} (h : DS w R b n cap P W) (hB : B ≤ R) (hs : B ≤ w.heap.size) : Below B w W :=
  (Below.refl B w).grown h.gr hs (fun g e => by injection e with e; omega)

set_option maxRecDepth 100000 in
set_option maxHeartbeats 4000000 in
theorem setD_any (a : Option Addr) (n cap : Nat) (w : World) (hb : Bys w w.heap.size a n) (hn : n ≤ 1048576) (hc : n ≤ cap) (hc2 : cap ≤ 9223372036854775807) :
    Calls Try.prog 24 #[.slice a n cap] w (DrawnTwo w) := by
  have ha : n ≠ 0 → ∃ g off, a = some ⟨g, off, none⟩ := fun h => by obtain ⟨g, off, e, _⟩ := hb.resolve_left h; exact ⟨g, off, e⟩
  have HB := Lib.hid hb
  clear hb
  go_enter Try.func24, Try.ntmps24
  go_wp2_with fail
  refine (openD_any a n cap _ hn hc hc2 ha).mono ?_
  rintro e w1 ⟨k, hk, rfl, rfl⟩
  have b1 := below2 w (.cells #[.int .i64 0, .slice none 0 0] 25) (.cells #[.slice a k cap, .int .i64 0] 72)
  have HD1 : Hid (DS ((w.alloc (.cells #[.int .i64 0, .slice none 0 0] 25)).alloc (.cells #[.slice a k cap, .int .i64 0] 72)) (w.heap.size + 1) a k cap 0 ((w.alloc (.cells #[.int .i64 0, .slice none 0 0] 25)).alloc (.cells #[.slice a k cap, .int .i64 0] 72))) := Lib.hid ⟨⟨0, Nat.le_refl _, alloc2_1 w _ _⟩, World.grownBy.refl _ _⟩
  have HB1 := Lib.hid ((HB.out.below b1).fewer (B' := w.heap.size + 1) (by omega) hk)
  have HX : Hid (HasBlk ((w.alloc (.cells #[.int .i64 0, .slice none 0 0] 25)).alloc (.cells #[.slice a k cap, .int .i64 0] 72)) w.heap.size #[.int .i64 0, .slice none 0 0] 25) := Lib.hid (alloc2_0 w _ _)
  have HBL := Lib.hid b1
  clear b1
  go_wp2_with fail
  refine (someD_any 6 7 6 7 rfl rfl (by decide) (by decide) (by decide) (w.heap.size + 1) a k cap 0 _ HD1.out HB1.out (by simp) (by omega) (by omega)).mono ?_
  rintro e w2 ⟨m, a2, zs, c2, rfl, ⟨hl, hm1, hm6⟩, ho, D2⟩
  have q0 : HasBlk w2 w.heap.size #[.int .i64 0, .slice none 0 0] 25 := HX.out.kept D2.gr (by simp)
  have hs2 : w.heap.size + 1 < w2.heap.size := by have := D2.gr.size; simp at this; omega
  have HRd : Hid (∃ p, p ≤ 200 ∧ Rd w2 (w.heap.size + 1) a k cap p) := Lib.hid (by obtain ⟨p, hp, h⟩ := D2.rd; exact ⟨p, by omega, h⟩)
  have HBy2 : Hid (Bys w2 (w.heap.size + 1) a k) := Lib.hid (HB1.out.kept (by simp) D2.gr)
  have HO : Hid (OwnI w2 (w.heap.size + 2) (.slice a2 zs.length c2) zs) := Lib.hid (own_mono ho (by simp))
  have HBW := Lib.hid (HBL.out.trans ((Below.refl w.heap.size _).grown D2.gr (by simp; omega) (fun g e => by injection e; omega)))
  have HQ0 := Lib.hid q0
  clear ho D2 q0 HX HD1 HB1 HBL
  have HD3 : Hid (DS (w2.alloc (.cells #[.int .i64 m, .slice a2 zs.length c2] 25)) (w.heap.size + 1) a k cap 200 (w2.alloc (.cells #[.int .i64 m, .slice a2 zs.length c2] 25))) := Lib.hid (by obtain ⟨p, hp, h⟩ := HRd.out; exact ⟨⟨p, hp, HasBlk.alloc h _⟩, World.grownBy.refl _ _⟩)
  have HBy3 : Hid (Bys (w2.alloc (.cells #[.int .i64 m, .slice a2 zs.length c2] 25)) (w.heap.size + 1) a k) := Lib.hid (HBy2.out.below ((below1 w2 _).mono (by omega)))
  have HX3 : Hid (HasBlk (w2.alloc (.cells #[.int .i64 m, .slice a2 zs.length c2] 25)) w2.heap.size #[.int .i64 m, .slice a2 zs.length c2] 25) := Lib.hid (alloc_new w2 _)
  have HQ3 : Hid (HasBlk (w2.alloc (.cells #[.int .i64 m, .slice a2 zs.length c2] 25)) w.heap.size #[.int .i64 0, .slice none 0 0] 25) := Lib.hid (HQ0.out.alloc _)
  have HO3 : Hid (OwnI (w2.alloc (.cells #[.int .i64 m, .slice a2 zs.length c2] 25)) (w.heap.size + 2) (.slice a2 zs.length c2) zs) := Lib.hid (World.ownsRow.alloc HO.out _)
  have HB3 := Lib.hid (HBW.out.trans ((below1 w2 (.cells #[.int .i64 m, .slice a2 zs.length c2] 25)).mono HBW.out.size))
  have hR3 : w.heap.size + 1 < (w2.alloc (.cells #[.int .i64 m, .slice a2 zs.length c2] 25)).heap.size := by simp; omega
  have hkn : k ≤ 1048576 := by omega
  obtain ⟨W3, hW3⟩ : ∃ W3, W3 = w2.alloc (.cells #[.int .i64 m, .slice a2 zs.length c2] 25) := ⟨_, rfl⟩
  go_wp2_with fail
  rw [← hW3]
  rw [← hW3] at HD3 HBy3 HX3 HQ3 HO3 HB3 hR3
  have x0 := (blk_cell HX3.out 0).trans (cell2_0 _ _)
  have x1 := (blk_cell HX3.out 1).trans (cell2_1 _ _)
  clear hW3 HRd HBy2 HQ0 HO HBW
  go_region_with (first
    | (go_at_call 47; refine (pickX D5 HBy3.out hR3 hkn (by omega) _).mono ?_; rintro e w6 ⟨r6, rfl, h6, D6, g6⟩; have q6 := blk_grown q5 g6 (by omega); have x0 := (blk_cell q6 0).trans (cell2_0 _ _); have x1 := (blk_cell q6 1).trans (cell2_1 _ _); have p6 := HasBlk.kept (p5) g6 (fun e => by injection e; omega); have d0 := (blk_cell p6 0).trans (cell2_0 _ _); have d1 := (blk_cell p6 1).trans (cell2_1 _ _); have f0 := blk_frozen p6 0; have f1 := blk_frozen p6 1)
    | (go_at_call 47; refine (pickX D4 HBy3.out hR3 hkn (by omega) _).mono ?_; rintro e w5 ⟨r5, rfl, h5, D5, g5⟩; have q5 := blk_grown q4 g5 (by omega); have x0 := (blk_cell q5 0).trans (cell2_0 _ _); have x1 := (blk_cell q5 1).trans (cell2_1 _ _); have p5 := HasBlk.kept (p4) g5 (fun e => by injection e; omega); have d0 := (blk_cell p5 0).trans (cell2_0 _ _); have d1 := (blk_cell p5 1).trans (cell2_1 _ _); have f0 := blk_frozen p5 0; have f1 := blk_frozen p5 1)
    | (go_at_call 47; refine (pickX HD3.out.drew HBy3.out hR3 hkn (by omega) _).mono ?_; rintro e w4 ⟨r4, rfl, h4, D4, g4⟩; have q4 := blk_grown (W := W3.drew) HX3.out g4 (by omega); have x0 := (blk_cell q4 0).trans (cell2_0 _ _); have x1 := (blk_cell q4 1).trans (cell2_1 _ _); have p4 := HasBlk.kept (W := W3.drew) (HQ3.out) g4 (fun e => by injection e; omega); have d0 := (blk_cell p4 0).trans (cell2_0 _ _); have d1 := (blk_cell p4 1).trans (cell2_1 _ _); have f0 := blk_frozen p4 0; have f1 := blk_frozen p4 1))
  all_goals
    have HOF : Hid (OwnI w6 (w.heap.size + 2) (.slice a2 zs.length c2) zs) := Lib.hid (own_grown (own_grown (own_grown (W := W3.drew) HO3.out g4 (by omega)) g5 (by omega)) g6 (by omega))
    have HBF := Lib.hid (HB3.out.trans (D6.belowR (B := w.heap.size) (by omega) (by omega)))
    clear HO3 HB3 D4 D5 D6 g4 g5 g6 p4 p5 q4 q5 q6 p6 HD3 HBy3 HX3 HQ3 x0 x1
    go_wp2
    refine bodyPost_ret (v := .tuple #[.agg #[.int .i64 m, .slice a2 zs.length c2], .int .i64 _]) (by simp [results, Try.results24, go_sem, d0, d1]; rfl) rfl ?_
    refine ⟨m, a2, zs, c2, _, rfl, by omega, ?_, ?_⟩
    · exact own_mono (ownsRow_setCell_below (ownsRow_setCell_below HOF.out (a := ⟨w.heap.size, 0, none⟩) (show w.heap.size < w.heap.size + 2 by omega) _) (a := ⟨w.heap.size, 1, none⟩) (show w.heap.size < w.heap.size + 2 by omega) _) (by omega)
    · exact (HBF.out.setCell (p := ⟨w.heap.size, 0, none⟩) (Nat.le_refl _) _).setCell (p := ⟨w.heap.size, 1, none⟩) (Nat.le_refl _) _

set_option maxRecDepth 100000 in
set_option maxHeartbeats 2000000 in
theorem drawMeet_any (a : Option Addr) (n cap : Nat) (w : World) (hb : Bys w w.heap.size a n) (hn : n ≤ 1048576) (hc : n ≤ cap) (hc2 : cap ≤ 9223372036854775807) :
    Calls Try.prog 7 #[.slice a n cap] w (DrawnTwo w) := by
  have b1 := below1 w (.cells #[.int .i64 0, .slice none 0 0] 25)
  have HB := Lib.hid ((hb.below b1).fewer (B' := (w.alloc (.cells #[.int .i64 0, .slice none 0 0] 25)).heap.size) (by simp) (Nat.le_refl n))
  have HX : Hid (HasBlk (w.alloc (.cells #[.int .i64 0, .slice none 0 0] 25)) w.heap.size #[.int .i64 0, .slice none 0 0] 25) := Lib.hid (alloc_new w _)
  have HBL := Lib.hid b1
  clear hb b1
  go_enter Try.func7, Try.ntmps7
  go_wp2_with fail
  refine (setD_any a n cap _ HB.out hn hc hc2).mono ?_
  rintro e w2 ⟨m, a2, zs, c2, x, rfl, hl, ho, D2⟩
  have q0 : HasBlk w2 w.heap.size #[.int .i64 0, .slice none 0 0] 25 := (D2.block _ (by simp)).trans HX.out
  have d0 := (blk_cell q0 0).trans (cell2_0 _ _)
  have d1 := (blk_cell q0 1).trans (cell2_1 _ _)
  have f0 := blk_frozen q0 0
  have f1 := blk_frozen q0 1
  have HO : Hid (OwnI w2 (w.heap.size + 1) (.slice a2 zs.length c2) zs) := Lib.hid (own_mono ho (by simp))
  have HBW := Lib.hid (HBL.out.trans (D2.mono (by simp)))
  clear ho D2 q0
  go_wp2
  refine bodyPost_ret (v := .tuple #[.agg #[.int .i64 m, .slice a2 zs.length c2], .int .i64 x]) (by simp [results, Try.results7, go_sem, d0, d1]) rfl ?_
  refine ⟨m, a2, zs, c2, x, rfl, hl, ?_, ?_⟩
  · exact own_mono (ownsRow_setCell_below (ownsRow_setCell_below HO.out (a := ⟨w.heap.size, 0, none⟩) (show w.heap.size < w.heap.size + 1 by omega) _) (a := ⟨w.heap.size, 1, none⟩) (show w.heap.size < w.heap.size + 1 by omega) _) (by omega)
  · exact (HBW.out.setCell (p := ⟨w.heap.size, 0, none⟩) (Nat.le_refl _) _).setCell (p := ⟨w.heap.size, 1, none⟩) (Nat.le_refl _) _

end Go.Proofs.Ytgaappbcekllhaa

/- It is proved how boxed families and lists are kept while the laws go on; conditions: those of each statement. -/
namespace Go.Proofs.Ytgaappbcekllhaa
open Go.RowKit

/-- A family in a box. -/
structure FB (X : Nat) (m : Int) (a : Option Addr) (zs : List Int) (c : Nat) (W : World) : Prop where
  blk : HasBlk W X #[.int .i64 m, .slice a zs.length c] 25
  ints : Ints W W.heap.size a zs

theorem FB.step {X : Nat} {m : Int} {a : Option Addr} {zs : List Int} {c : Nat} {W W' : World} (h : FB X m a zs c W) (hb : Below W.heap.size W W') : FB X m a zs c W' :=
  ⟨(hb.block X (lt_of_some h.blk)).trans h.blk, (h.ints.below hb).mono hb.size⟩

theorem FB.start {w : World} {m : Int} {a : Option Addr} {zs : List Int} {c : Nat} (h : Ints w w.heap.size a zs) : FB w.heap.size m a zs c (w.alloc (.cells #[.int .i64 m, .slice a zs.length c] 25)) :=
  ⟨alloc_new w _, (h.below (below1 w _)).mono (by simp)⟩

theorem FB.x0 {X : Nat} {m : Int} {a : Option Addr} {zs : List Int} {c : Nat} {W : World} (h : FB X m a zs c W) : W.cell? ⟨X, 0, none⟩ = some (.int .i64 m) := (blk_cell h.blk 0).trans (cell2_0 _ _)
theorem FB.x1 {X : Nat} {m : Int} {a : Option Addr} {zs : List Int} {c : Nat} {W : World} (h : FB X m a zs c W) : W.cell? ⟨X, 1, none⟩ = some (.slice a zs.length c) := (blk_cell h.blk 1).trans (cell2_1 _ _)
theorem Ints.step {W W' : World} {a : Option Addr} {zs : List Int} (h : Ints W W.heap.size a zs) (hb : Below W.heap.size W W') : Ints W' W'.heap.size a zs := (h.below hb).mono hb.size
theorem sameB_refl (zs : List Int) : sameB zs zs = true := by simp [sameB]
end Go.Proofs.Ytgaappbcekllhaa

/- It is proved that both sides count the members of a set alike; conditions: those of each statement. -/
namespace Go.Proofs.Ytgaappbcekllhaa
open Go.RowKit
/-- How many members a set has. -/
def popN : Nat → Int → Int
  | 0, _ => 0
  | f + 1, z => if 0 < z then bits .and .i64 z 1 + popN f (z / 2) else 0

def pop (z : Int) : Int := popN 7 z
theorem ret_int {a b : Int} (h : a = b) : Ending.returned (.int .i64 a) = .returned (.int .i64 b) := by rw [h]
set_option maxRecDepth 100000 in
theorem size_any (z : Int) (w : World) (h0 : 0 ≤ z) (h : z ≤ 63) : Calls Try.prog 34 #[.int .i64 z] w fun e w' => e = .returned (.int .i64 (pop z)) ∧ w = w' := by
  go_enter Try.func34, Try.ntmps34
  go_wp2
  go_ret
  refine ⟨ret_int ?_, rfl⟩
  obtain ⟨i, rfl⟩ : ∃ i : Fin 64, z = (i.val : Int) := ⟨⟨z.toNat, by omega⟩, by simp; omega⟩
  clear h0 h
  revert i
  decide +kernel

set_option maxRecDepth 100000 in
theorem size_some (z : Int) : ∃ r : Int, ∀ W : World, Calls Try.prog 34 #[.int .i64 z] W fun e W' => e = .returned (.int .i64 r) ∧ W = W' := by
  apply Exists.intro
  intro W
  go_enter Try.func34, Try.ntmps34
  go_wp2
  go_ret
  exact ⟨rfl, rfl⟩

/-- What club.size returns at each number. -/
theorem size_fn : ∃ g : Int → Int, (∀ z W, Calls Try.prog 34 #[.int .i64 z] W fun e W' => e = .returned (.int .i64 (g z)) ∧ Below W.heap.size W W') ∧ ∀ z, 0 ≤ z → z ≤ 63 → g z = pop z := by
  have h : ∀ z : Int, ∃ r : Int, (∀ W : World, Calls Try.prog 34 #[.int .i64 z] W fun e W' => e = .returned (.int .i64 r) ∧ W = W') ∧ (0 ≤ z → z ≤ 63 → r = pop z) := fun z => by
    by_cases hz : 0 ≤ z ∧ z ≤ 63
    · exact ⟨pop z, fun W => size_any z W hz.1 hz.2, fun _ _ => rfl⟩
    · obtain ⟨r, hr⟩ := size_some z
      exact ⟨r, hr, fun a b => absurd ⟨a, b⟩ hz⟩
  refine ⟨fun z => Classical.choose (h z), fun z W => ((Classical.choose_spec (h z)).1 W).mono fun e W' ⟨he, hw⟩ => ⟨he, by rw [← hw]; exact Below.refl _ _⟩, fun z => (Classical.choose_spec (h z)).2⟩

end Go.Proofs.Ytgaappbcekllhaa

/- It is proved what the FamilySizes of the model returns; conditions: those of each statement. -/
namespace Go.Proofs.Ytgaappbcekllhaa
open Go.RowKit

/-- What a function of a list of ints and a bool returns: both, in new memory; nothing that lay has turned. -/
def RetSB (w : World) (zs : List Int) (ok : Bool) (e : Ending) (w' : World) : Prop :=
  ∃ a cap, e = .returned (.tuple #[.slice a zs.length cap, .bool ok]) ∧ OwnI w' w.heap.size (.slice a zs.length cap) zs ∧ Below w.heap.size w w'

theorem fullI_63 {m : Int} (h1 : 1 ≤ m) (h2 : m ≤ 6) : fullI m ≤ 63 := by
  rcases m16 h1 h2 with rfl | rfl | rfl | rfl | rfl | rfl <;> decide

def sizesZ (m : Int) (zs : List Int) : List Int := if famIn m zs then zs.map pop else []
end Go.Proofs.Ytgaappbcekllhaa
