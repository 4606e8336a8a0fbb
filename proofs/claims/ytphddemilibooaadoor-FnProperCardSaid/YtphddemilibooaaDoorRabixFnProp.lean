/- It is proved that a drawn family and a drawn set are the call's own; conditions: those of each statement. -/
import Derived.Deep.RegionWith
import Derived.Test.YtphddemilibooaaDoorRows
import Derived.WalkKit
import Derived.WalkSpells
import Derived.ProofKit
import Derived.OpenShut
import Derived.ShutString
import Derived.ChangeOld
import Derived.Below
import Derived.Deep.RegionHeld3
import Derived.Deep.QuietTactic
import Derived.BigQuiet
import Derived.Lib.Hide
import Derived.Lib.SmallJoins
import Derived.Outline
import Derived.Laws.MakeOwn
import Derived.Laws.OwnMore
import Derived.IntWalk
import Derived.Deep.RegionLaw
import Derived.Deep.AppendLies
import Derived.RangeFuncNested
import Derived.RangeFuncBound
import Derived.RangeFuncCalls
import Derived.RangeFuncLeaves
import Derived.RangeFuncBox
import Derived.Shelf.Abstract
import Derived.Shelf.RegionOpen
import Derived.OwnWalkIn
import Derived.TacticsInMore
import Derived.LoopNIn
import Derived.LoopIn
import Derived.Maps.AppendAt
import Derived.OwnWalk
import Derived.Shelf.Spec.TrailingZeros
import Derived.Test.YtphddemilibooaaDoorRaaa
import Derived.Test.YtphddemilibooaaDoorDb
import Derived.Test.YtphddemilibooaaDoorRaar
import Derived.Test.YtphddemilibooaaDoorRaab
import Derived.Test.YtphddemilibooaaDoorRaad
import Derived.RowKit
import Derived.Laws.CopyRow
import Derived.Lib.SlBuf
import Derived.RangeFuncWrites
import Derived.StillTailTactics
import Derived.Maps.OwnIn
import Derived.Maps.Ext
import Derived.DeepKeys4
import Derived.MapKept
import Derived.Lib.AppendZeros
import Derived.Lib.SlicesCompact
import Derived.Lib.OwnBridge
import Derived.OrdersIn
import Derived.TacticsIn
import Derived.Shelf.Sort.Plain
import Derived.Shelf.Slices.In.SortNone
import Derived.Shelf.Slices.CompactI
import Derived.Ground.Names2Prog
import Derived.StillTail
import Derived.StillTactics
import Derived.Lib.SliceRun
import Derived.Test.YtphddemilibooaaDoorRaal
import Derived.Test.YtphddemilibooaaDoorKc
import Derived.Test.YtphddemilibooaaDoorRaam
import Derived.Test.YtphddemilibooaaDoorRaac
import Derived.Deep.LoopGhost
namespace Go.Proofs.YtphddemilibooaaDoor
open Go.RowKit

/-- A family of the call's own, and a number. -/
def DrawnTwo (w : World) (e : Ending) (W : World) : Prop :=
  ∃ (m : Int) (a : Option Addr) (zs : List Int) (c : Nat) (x : Int), e = .returned (.tuple #[.agg #[.int .i64 m, .slice a zs.length c], .int .i64 x]) ∧ zs.length ≤ 10 ∧ OwnI W w.heap.size (.slice a zs.length c) zs ∧ Below w.heap.size w W

theorem DS.belowR {w W : World} {R : Nat} {b : Option Addr} {n cap P B : Nat} (h : DS w R b n cap P W) (hB : B ≤ R) (hs : B ≤ w.heap.size) : Below B w W :=
  (Below.refl B w).grown h.gr hs (fun g e => by injection e with e; omega)

end Go.Proofs.YtphddemilibooaaDoor

/- It is proved that the family and the number of colours drawn from bytes are the call's own; conditions: those of each statement. -/
namespace Go.Proofs.YtphddemilibooaaDoor
open Go.RowKit

set_option maxRecDepth 100000 in
set_option maxHeartbeats 4000000 in
theorem colD_any (a : Option Addr) (n cap : Nat) (w : World) (hb : Bys w w.heap.size a n) (hn : n ≤ 1048576) (hc : n ≤ cap) (hc2 : cap ≤ 9223372036854775807) :
    Calls Tryd.prog 43 #[.slice a n cap] w (DrawnTwo w) := by
  have ha : n ≠ 0 → ∃ g off, a = some ⟨g, off, none⟩ := fun h => by obtain ⟨g, off, e, _⟩ := hb.resolve_left h; exact ⟨g, off, e⟩
  have HB := Lib.hid hb
  clear hb
  go_enter Tryd.func43, Tryd.ntmps43
  go_wp2_with fail
  refine (openD_any a n cap _ hn hc hc2 ha).mono ?_
  rintro e w1 ⟨k, hk, rfl, rfl⟩
  have b1 := below2 w (.cells #[.int .i64 0, .slice none 0 0] 25) (.cells #[.slice a k cap, .int .i64 0] 77)
  have HD1 : Hid (DS ((w.alloc (.cells #[.int .i64 0, .slice none 0 0] 25)).alloc (.cells #[.slice a k cap, .int .i64 0] 77)) (w.heap.size + 1) a k cap 0 ((w.alloc (.cells #[.int .i64 0, .slice none 0 0] 25)).alloc (.cells #[.slice a k cap, .int .i64 0] 77))) := Lib.hid ⟨⟨0, Nat.le_refl _, alloc2_1 w _ _⟩, World.grownBy.refl _ _⟩
  have HB1 := Lib.hid ((HB.out.below b1).fewer (B' := w.heap.size + 1) (by omega) hk)
  have HX : Hid (HasBlk ((w.alloc (.cells #[.int .i64 0, .slice none 0 0] 25)).alloc (.cells #[.slice a k cap, .int .i64 0] 77)) w.heap.size #[.int .i64 0, .slice none 0 0] 25) := Lib.hid (alloc2_0 w _ _)
  have HBL := Lib.hid b1
  clear b1
  go_wp2_with fail
  refine (someD_any 5 6 5 6 rfl rfl (by decide) (by decide) (by decide) (w.heap.size + 1) a k cap 0 _ HD1.out HB1.out (by simp) (by omega) (by omega)).mono ?_
  rintro e w2 ⟨m, a2, zs, c2, rfl, ⟨hl, hm1, hm6⟩, ho, D2⟩
  have q0 : HasBlk w2 w.heap.size #[.int .i64 0, .slice none 0 0] 25 := HX.out.kept D2.gr (by simp)
  have hs2 : w.heap.size + 1 < w2.heap.size := by have := D2.gr.size; simp at this; omega
  have HRd : Hid (∃ p, p ≤ 200 ∧ Rd w2 (w.heap.size + 1) a k cap p) := Lib.hid (by obtain ⟨p, hp, h⟩ := D2.rd; exact ⟨p, by omega, h⟩)
  have HBy2 : Hid (Bys w2 (w.heap.size + 1) a k) := Lib.hid (HB1.out.kept (by simp) D2.gr)
  have HO : Hid (OwnI w2 (w.heap.size + 2) (.slice a2 zs.length c2) zs) := Lib.hid (own_mono ho (by simp))
  have HBW := Lib.hid (HBL.out.trans ((Below.refl w.heap.size _).grown D2.gr (by simp; omega) (fun g e => by injection e; omega)))
  have HQ0 := Lib.hid q0
  clear ho D2 q0 HX HD1 HB1 HBL
  have HD3 : Hid (DS (w2.alloc (.cells #[.int .i64 m, .slice a2 zs.length c2] 25)) (w.heap.size + 1) a k cap 200 (w2.alloc (.cells #[.int .i64 m, .slice a2 zs.length c2] 25))) := Lib.hid (by obtain ⟨p, hp, h⟩ := HRd.out; exact ⟨⟨p, hp, HasBlk.alloc h _⟩, World.grownBy.refl _ _⟩)
  have HBy3 : Hid (Bys (w2.alloc (.cells #[.int .i64 m, .slice a2 zs.length c2] 25)) (w.heap.size + 1) a k) := Lib.hid (HBy2.out.below ((below1 w2 _).mono (by omega)))
  have HX3 : Hid (HasBlk (w2.alloc (.cells #[.int .i64 m, .slice a2 zs.length c2] 25)) w2.heap.size #[.int .i64 m, .slice a2 zs.length c2] 25) := Lib.hid (alloc_new w2 _)
  have HQ3 : Hid (HasBlk (w2.alloc (.cells #[.int .i64 m, .slice a2 zs.length c2] 25)) w.heap.size #[.int .i64 0, .slice none 0 0] 25) := Lib.hid (HQ0.out.alloc _)
  have HO3 : Hid (OwnI (w2.alloc (.cells #[.int .i64 m, .slice a2 zs.length c2] 25)) (w.heap.size + 2) (.slice a2 zs.length c2) zs) := Lib.hid (World.ownsRow.alloc HO.out _)
  have HB3 := Lib.hid (HBW.out.trans ((below1 w2 (.cells #[.int .i64 m, .slice a2 zs.length c2] 25)).mono HBW.out.size))
  have hR3 : w.heap.size + 1 < (w2.alloc (.cells #[.int .i64 m, .slice a2 zs.length c2] 25)).heap.size := by simp; omega
  have hkn : k ≤ 1048576 := by omega
  obtain ⟨W3, hW3⟩ : ∃ W3, W3 = w2.alloc (.cells #[.int .i64 m, .slice a2 zs.length c2] 25) := ⟨_, rfl⟩
  go_wp2_with fail
  rw [← hW3]
  rw [← hW3] at HD3 HBy3 HX3 HQ3 HO3 HB3 hR3
  have x0 := (blk_cell HX3.out 0).trans (cell2_0 _ _)
  have x1 := (blk_cell HX3.out 1).trans (cell2_1 _ _)
  clear hW3 HRd HBy2 HQ0 HO HBW
  go_region_with (first
    | (go_at_call 62; refine (pickX D5 HBy3.out hR3 hkn (by omega) _).mono ?_; rintro e w6 ⟨r6, rfl, h6, D6, g6⟩; have q6 := blk_grown q5 g6 (by omega); have x0 := (blk_cell q6 0).trans (cell2_0 _ _); have x1 := (blk_cell q6 1).trans (cell2_1 _ _); have p6 := HasBlk.kept (p5) g6 (fun e => by injection e; omega); have d0 := (blk_cell p6 0).trans (cell2_0 _ _); have d1 := (blk_cell p6 1).trans (cell2_1 _ _); have f0 := blk_frozen p6 0; have f1 := blk_frozen p6 1)
    | (go_at_call 62; refine (pickX D4 HBy3.out hR3 hkn (by omega) _).mono ?_; rintro e w5 ⟨r5, rfl, h5, D5, g5⟩; have q5 := blk_grown q4 g5 (by omega); have x0 := (blk_cell q5 0).trans (cell2_0 _ _); have x1 := (blk_cell q5 1).trans (cell2_1 _ _); have p5 := HasBlk.kept (p4) g5 (fun e => by injection e; omega); have d0 := (blk_cell p5 0).trans (cell2_0 _ _); have d1 := (blk_cell p5 1).trans (cell2_1 _ _); have f0 := blk_frozen p5 0; have f1 := blk_frozen p5 1)
    | (go_at_call 62; refine (pickX HD3.out.drew HBy3.out hR3 hkn (by omega) _).mono ?_; rintro e w4 ⟨r4, rfl, h4, D4, g4⟩; have q4 := blk_grown (W := W3.drew) HX3.out g4 (by omega); have x0 := (blk_cell q4 0).trans (cell2_0 _ _); have x1 := (blk_cell q4 1).trans (cell2_1 _ _); have p4 := HasBlk.kept (W := W3.drew) (HQ3.out) g4 (fun e => by injection e; omega); have d0 := (blk_cell p4 0).trans (cell2_0 _ _); have d1 := (blk_cell p4 1).trans (cell2_1 _ _); have f0 := blk_frozen p4 0; have f1 := blk_frozen p4 1))
  all_goals
    have HOF : Hid (OwnI w6 (w.heap.size + 2) (.slice a2 zs.length c2) zs) := Lib.hid (own_grown (own_grown (own_grown (W := W3.drew) HO3.out g4 (by omega)) g5 (by omega)) g6 (by omega))
    have HBF := Lib.hid (HB3.out.trans (D6.belowR (B := w.heap.size) (by omega) (by omega)))
    clear HO3 HB3 D4 D5 D6 g4 g5 g6 p4 p5 q4 q5 q6 p6 HD3 HBy3 HX3 HQ3 x0 x1
    go_wp2
    refine bodyPost_ret (v := .tuple #[.agg #[.int .i64 m, .slice a2 zs.length c2], .int .i64 _]) (by simp [results, Tryd.results43, go_sem, d0, d1]; rfl) rfl ?_
    refine ⟨m, a2, zs, c2, _, rfl, by omega, ?_, ?_⟩
    · exact own_mono (ownsRow_setCell_below (ownsRow_setCell_below HOF.out (a := ⟨w.heap.size, 0, none⟩) (show w.heap.size < w.heap.size + 2 by omega) _) (a := ⟨w.heap.size, 1, none⟩) (show w.heap.size < w.heap.size + 2 by omega) _) (by omega)
    · exact (HBF.out.setCell (p := ⟨w.heap.size, 0, none⟩) (Nat.le_refl _) _).setCell (p := ⟨w.heap.size, 1, none⟩) (Nat.le_refl _) _

set_option maxRecDepth 100000 in
set_option maxHeartbeats 2000000 in
theorem drawColourMany_any (a : Option Addr) (n cap : Nat) (w : World) (hb : Bys w w.heap.size a n) (hn : n ≤ 1048576) (hc : n ≤ cap) (hc2 : cap ≤ 9223372036854775807) :
    Calls Tryd.prog 17 #[.slice a n cap] w (DrawnTwo w) := by
  have b1 := below1 w (.cells #[.int .i64 0, .slice none 0 0] 25)
  have HB := Lib.hid ((hb.below b1).fewer (B' := (w.alloc (.cells #[.int .i64 0, .slice none 0 0] 25)).heap.size) (by simp) (Nat.le_refl n))
  have HX : Hid (HasBlk (w.alloc (.cells #[.int .i64 0, .slice none 0 0] 25)) w.heap.size #[.int .i64 0, .slice none 0 0] 25) := Lib.hid (alloc_new w _)
  have HBL := Lib.hid b1
  clear hb b1
  go_enter Tryd.func17, Tryd.ntmps17
  go_wp2_with fail
  refine (colD_any a n cap _ HB.out hn hc hc2).mono ?_
  rintro e w2 ⟨m, a2, zs, c2, x, rfl, hl, ho, D2⟩
  have q0 : HasBlk w2 w.heap.size #[.int .i64 0, .slice none 0 0] 25 := (D2.block _ (by simp)).trans HX.out
  have d0 := (blk_cell q0 0).trans (cell2_0 _ _)
  have d1 := (blk_cell q0 1).trans (cell2_1 _ _)
  have f0 := blk_frozen q0 0
  have f1 := blk_frozen q0 1
  have HO : Hid (OwnI w2 (w.heap.size + 1) (.slice a2 zs.length c2) zs) := Lib.hid (own_mono ho (by simp))
  have HBW := Lib.hid (HBL.out.trans (D2.mono (by simp)))
  clear ho D2 q0
  go_wp2
  refine bodyPost_ret (v := .tuple #[.agg #[.int .i64 m, .slice a2 zs.length c2], .int .i64 x]) (by simp [results, Tryd.results17, go_sem, d0, d1]) rfl ?_
  refine ⟨m, a2, zs, c2, x, rfl, hl, ?_, ?_⟩
  · exact own_mono (ownsRow_setCell_below (ownsRow_setCell_below HO.out (a := ⟨w.heap.size, 0, none⟩) (show w.heap.size < w.heap.size + 1 by omega) _) (a := ⟨w.heap.size, 1, none⟩) (show w.heap.size < w.heap.size + 1 by omega) _) (by omega)
  · exact (HBW.out.setCell (p := ⟨w.heap.size, 0, none⟩) (Nat.le_refl _) _).setCell (p := ⟨w.heap.size, 1, none⟩) (Nat.le_refl _) _

set_option maxRecDepth 100000 in
set_option maxHeartbeats 2000000 in
theorem drawColourProper_any (a : Option Addr) (n cap : Nat) (w : World) (hb : Bys w w.heap.size a n) (hn : n ≤ 1048576) (hc : n ≤ cap) (hc2 : cap ≤ 9223372036854775807) :
    Calls Tryd.prog 21 #[.slice a n cap] w (DrawnTwo w) := by
  have b1 := below1 w (.cells #[.int .i64 0, .slice none 0 0] 25)
  have HB := Lib.hid ((hb.below b1).fewer (B' := (w.alloc (.cells #[.int .i64 0, .slice none 0 0] 25)).heap.size) (by simp) (Nat.le_refl n))
  have HX : Hid (HasBlk (w.alloc (.cells #[.int .i64 0, .slice none 0 0] 25)) w.heap.size #[.int .i64 0, .slice none 0 0] 25) := Lib.hid (alloc_new w _)
  have HBL := Lib.hid b1
  clear hb b1
  go_enter Tryd.func21, Tryd.ntmps21
  go_wp2_with fail
  refine (colD_any a n cap _ HB.out hn hc hc2).mono ?_
  rintro e w2 ⟨m, a2, zs, c2, x, rfl, hl, ho, D2⟩
  have q0 : HasBlk w2 w.heap.size #[.int .i64 0, .slice none 0 0] 25 := (D2.block _ (by simp)).trans HX.out
  have d0 := (blk_cell q0 0).trans (cell2_0 _ _)
  have d1 := (blk_cell q0 1).trans (cell2_1 _ _)
  have f0 := blk_frozen q0 0
  have f1 := blk_frozen q0 1
  have HO : Hid (OwnI w2 (w.heap.size + 1) (.slice a2 zs.length c2) zs) := Lib.hid (own_mono ho (by simp))
  have HBW := Lib.hid (HBL.out.trans (D2.mono (by simp)))
  clear ho D2 q0
  go_wp2
  refine bodyPost_ret (v := .tuple #[.agg #[.int .i64 m, .slice a2 zs.length c2], .int .i64 x]) (by simp [results, Tryd.results21, go_sem, d0, d1]) rfl ?_
  refine ⟨m, a2, zs, c2, x, rfl, hl, ?_, ?_⟩
  · exact own_mono (ownsRow_setCell_below (ownsRow_setCell_below HO.out (a := ⟨w.heap.size, 0, none⟩) (show w.heap.size < w.heap.size + 1 by omega) _) (a := ⟨w.heap.size, 1, none⟩) (show w.heap.size < w.heap.size + 1 by omega) _) (by omega)
  · exact (HBW.out.setCell (p := ⟨w.heap.size, 0, none⟩) (Nat.le_refl _) _).setCell (p := ⟨w.heap.size, 1, none⟩) (Nat.le_refl _) _

end Go.Proofs.YtphddemilibooaaDoor

/- It is proved what the method ask leaves in its map; conditions: those of each statement. -/
namespace Go.Proofs.YtphddemilibooaaDoor
open Go.RowKit Go.Shelf Go.Maps

attribute [local go_sem] Oper.semAt_some

theorem arr8 (x : Array Bool) (h : x.size = 8) : ∃ l0 l1 l2 l3 l4 l5 l6 l7 : Bool, x = #[l0, l1, l2, l3, l4, l5, l6, l7] := by
  obtain ⟨l⟩ := x
  match l, h with
  | [l0, l1, l2, l3, l4, l5, l6, l7], _ => exact ⟨_, _, _, _, _, _, _, _, rfl⟩

theorem ints_putObj {A : World} {B l : Nat} {o : Obj} {a : Option Addr} {zs : List Int} (h : Ints A B a zs) (hl : ∃ o', A.heap[l]? = some o' ∧ o'.isCells = false) : Ints (A.putObj l o) B a zs := by
  rcases h with h | ⟨g, off, e, hg, hc⟩
  · exact .inl h
  · by_cases hz : zs = []
    · exact .inl hz
    · refine .inr ⟨g, off, e, hg, fun j hj => ?_⟩
      have hne : g ≠ l := by
        rintro rfl
        obtain ⟨o', ho, hn⟩ := hl
        have := hc 0 (List.length_pos_iff.2 hz)
        cases o' <;> simp [World.cell?, ho] at this
        cases hn
      exact (World.cell?_of_block (a := ⟨g, off + j, none⟩) (World.putObj_heap_other hne)).trans (hc j hj)

end Go.Proofs.YtphddemilibooaaDoor

/- It is proved that a region that draws its order may be walked one operation at a time where what each operation gives does not hang on the order; conditions: those of each statement. -/
namespace Go
section
variable {F : Fence} {n : Nat} {P : Program} {ops : Array Oper} {Q : Exit → Act → World → Prop} {md : Region.Mode}

/-- Q, but K where nothing jumps. -/
def UponK (K : Act → World → Prop) (Q : Exit → Act → World → Prop) : Exit → Act → World → Prop
  | .normal, a, w => K a w
  | .ret, a, w => Q .ret a w
  | .exit i, a, w => Q (.exit i) a w
  | .goto t, a, w => Q (.goto t) a w
  | .panic c, a, w => Q (.panic c) a w
  | .outgrown, a, w => Q .outgrown a w

theorem Oper.wpIn_uponK {o : Oper} {a : Act} {w : World} {K K' : Act → World → Prop} (hh : o.wpIn F n P a w K (UponK K' Q)) : o.wpIn F n P a w K Q := by
  unfold Oper.wpIn at *
  refine ⟨hh.1, ?_⟩
  have hh := hh.2
  generalize (o.semAt F.round a.eval).run P w = r at *
  cases r with
  | ok x w' =>
    cases x <;> simp only [Oper.uponIn] at hh ⊢ <;>
      first
        | exact hh
        | exact ⟨hh.1, CallsIn.mono hh.2 (fun e w'' he => by cases e <;> exact he)⟩
        | exact ⟨hh.1, RoundIn.mono hh.2 (fun e w'' he => by cases e <;> exact he)⟩
  | halt x w' => cases x <;> simp only [Oper.uponIn] at hh ⊢ <;> exact hh

theorem wpOpIn_of_list {i : Nat} {o : Oper} {a : Act} {w : World} {K : Act → World → Prop} (ho : ops[i]? = some o) (h : wpListIn F n P ops (UponK K Q) [o] a w) : wpOpIn F n P ops Q i K a w := by
  unfold wpOpIn
  simp only [ho]
  unfold wpListIn at h
  split
  · rename_i hw; simp only [hw, if_true] at h; exact Oper.wpIn_uponK h
  · rename_i hw; simp only [hw] at h; exact h

def masks : Nat → List (List Bool)
  | 0 => [[]]
  | k + 1 => (masks k).flatMap fun m => [false :: m, true :: m]

theorem mem_masks : ∀ l : List Bool, l ∈ masks l.length
  | [] => by simp [masks]
  | b :: l => by
    simp only [List.length_cons, masks, List.mem_flatMap]
    exact ⟨l, mem_masks l, by cases b <;> simp⟩

/-- Where no operation may come next, all have come. -/
def Region.endsB (md : Region.Mode) (ops : Array Oper) : Bool := (masks ops.size).all fun l => !(Region.ready md ops l.toArray).isEmpty || l.all id

theorem count_set : ∀ (l : List Bool) (i : Nat), l[i]? = some false → (l.set i true).count false + 1 = l.count false
  | [], i, h => by simp at h
  | b :: l, 0, h => by simp at h; subst h; simp
  | b :: l, i + 1, h => by
    have := count_set l i (by simpa using h)
    cases b <;> simp [List.count_cons] <;> omega

theorem wpAnyIn_held {A : Array Bool → Act} {S : Array Bool → World → Prop} (hends : Region.endsB md ops = true)
    (hstep : ∀ listed w i, listed.size = ops.size → i ∈ Region.ready md ops listed → S listed w → wpOpIn F n P ops Q i (fun a' w' => a' = A (listed.setIfInBounds i true) ∧ S (listed.setIfInBounds i true) w') (A listed) w)
    (hend : ∀ listed w, listed.size = ops.size → (listed.toList.all id) = true → S listed w → Q .normal (A listed) w) :
    ∀ fuel listed w, listed.size = ops.size → listed.toList.count false ≤ fuel → S listed w → wpAnyIn F n P md ops Q fuel listed (A listed) w
  | 0, listed, w, hs, hc, hS => by
    have hall : listed.toList.all id = true := by
      rw [List.all_eq_true]
      intro x hx
      cases x
      · have := List.count_pos_iff.2 hx; omega
      · rfl
    refine ⟨?_, hend listed w hs hall hS⟩
    unfold Region.ready
    rw [List.filter_eq_nil_iff]
    intro i hi
    rw [List.mem_range] at hi
    have hi' : i < listed.size := by omega
    have : listed.getD i true = true := by
      have h1 := List.all_eq_true.1 hall listed[i] (by simp)
      simp only [id] at h1
      simp [Array.getD, hi', h1]
    simp [this]
  | fuel + 1, listed, w, hs, hc, hS => by
    refine ⟨fun h0 => hend listed w hs ?_ hS, fun i hi => ?_⟩
    · have h1 := List.all_eq_true.1 hends listed.toList (by have := mem_masks listed.toList; rwa [Array.length_toList, hs] at this)
      simpa [h0] using h1
    · refine wpOpIn_mono ?_ (hstep listed w i hs hi hS)
      rintro a' w' ⟨rfl, hS'⟩
      refine wpAnyIn_held hends hstep hend fuel _ w' (by simpa using hs) ?_ hS'
      have hu : listed.toList[i]? = some false := by
        unfold Region.ready at hi
        rw [List.mem_filter, Bool.and_eq_true, List.mem_range] at hi
        have hi' : i < listed.size := by omega
        have := hi.2.1
        simp [Array.getD, hi'] at this
        simp [hi', this]
      have := count_set listed.toList i hu
      simp only [Array.toList_setIfInBounds]
      omega

theorem wpIn_region_held {A : Array Bool → Act} {S : Array Bool → World → Prop} {id' : Nat} {a : Act} {w : World} (hm : P.follows .mixedOrders = true) (hends : Region.endsB .any ops = true)
    (ha : A (Array.replicate ops.size false) = a) (hS : S (Array.replicate ops.size false) { w with drawn := w.drawn + 1 })
    (hstep : ∀ listed w i, listed.size = ops.size → i ∈ Region.ready .any ops listed → S listed w → wpOpIn F n P ops Q i (fun a' w' => a' = A (listed.setIfInBounds i true) ∧ S (listed.setIfInBounds i true) w') (A listed) w)
    (hend : ∀ listed w, listed.size = ops.size → (listed.toList.all id) = true → S listed w → Q .normal (A listed) w) : (Code.region id' ops true).wpIn F n P Q a w := by
  subst ha
  exact wpIn_region_any hm (wpAnyIn_held hends hstep hend ops.size _ _ (by simp) (by simp) hS)

end
end Go

/- It is proved how a list of ints in a captured variable grows; conditions: those of each statement. -/
namespace Go.Proofs.YtphddemilibooaaDoor
open Go.RowKit Go.Shelf

/-- A list of ints in a captured variable, in memory of the call's own. -/
def IntBox (D lo : Nat) (zs : List Int) (W : World) : Prop := ∃ v, HasBlk W D #[v] 23 ∧ W.ownsRow lo 3 1 v zs.length (zs.map (Value.int .i64))

theorem ints_ne : (23 : TypeId) ≠ 3 := by decide
theorem IntBox.own {β : Type} (D lo : Nat) (f : β → List Int) : Own (fun s W => IntBox D lo (f s) W) := by
  rintro s X Y row ⟨v, hv, hr⟩ hg hrow
  refine ⟨v, hv.kept hg (fun e' => ?_), hr.kept hg ?_⟩
  · obtain ⟨o, ho, hc⟩ := hrow D e'
    rw [show X.heap[D]? = _ from hv] at ho; cases ho; cases hc
  · rcases hr.2 with ⟨rfl, _⟩ | ⟨g, cap, cur, rfl, _, hgb, _⟩
    · exact .inl rfl
    · refine .inr fun e' => ?_
      obtain ⟨o, ho, hc⟩ := hrow g (by simpa [Value.ownBlock] using e'.symm)
      rw [hgb] at ho; cases ho; cases hc

theorem IntBox.ownF {β : Type} {B D lo : Nat} (hD : D < B) (f : β → List Int) : OwnF B (fun s W => IntBox D lo (f s) W) := by
  rintro s X Y row ⟨v, hv, hr⟩ hg hrow
  refine ⟨v, hv.kept hg (fun e' => ?_), hr.kept hg ?_⟩
  · have := (hrow D e').1; omega
  · rcases hr.2 with ⟨rfl, _⟩ | ⟨g, cap, cur, rfl, _, hgb, _⟩
    · exact .inl rfl
    · exact .inr fun e' => (hrow g (by simpa [Value.ownBlock] using e'.symm)).2 _ _ hgb

theorem IntBox.set {W : World} {D lo : Nat} {zs : List Int} {v v' : Value} (h : HasBlk W D #[v] 23) (hr : W.ownsRow lo 3 1 v' zs.length (zs.map (Value.int .i64))) : IntBox D lo zs (W.setCell ⟨D, 0, none⟩ v') := by
  refine ⟨v', ?_, ?_⟩
  · exact heap_setCell_same W D 0 #[v] 23 v' h
  · exact ownsRow_setCell_ne hr (by exact (hasBlk_not_row h ints_ne hr).symm) v'

/-- What a store back of a longer list leaves. -/
theorem IntBox.appended {W w1 : World} {D lo : Nat} {zs : List Int} {x : Int} {v v' : Value} {tmp : Obj} (hv : HasBlk W D #[v] 23) (hr : W.ownsRow lo 3 1 v zs.length (zs.map (Value.int .i64))) (hlo : lo ≤ W.heap.size) (hD : lo ≤ D)
    (hown : w1.ownsRow lo 3 1 v' (zs.length + 1) (zs.map (Value.int .i64) ++ [.int .i64 x])) (hgrow : (W.alloc tmp).grownBy w1 v.ownBlock) :
    HasBlk w1 D #[v] 23 ∧ IntBox D lo (zs ++ [x]) (w1.setCell ⟨D, 0, none⟩ v') ∧ KeepsOthers W (w1.setCell ⟨D, 0, none⟩ v') ∧ Below lo W (w1.setCell ⟨D, 0, none⟩ v') := by
  have hv1 : HasBlk w1 D #[v] 23 := (hv.alloc tmp).kept hgrow (hasBlk_not_row hv ints_ne hr).symm
  refine ⟨hv1, IntBox.set hv1 (by rw [List.length_append, List.map_append]; exact hown), ?_, ?_⟩
  · refine ((KeepsOthers.alloc W tmp).trans (KeepsOthers.of_grownBy hgrow fun j o ej hj => ?_)).trans (KeepsOthers.setCell _ _ _)
    rcases (hr.alloc tmp).2 with ⟨rfl, _⟩ | ⟨g, cap, cur, rfl, _, hgb, _⟩
    · simp [Value.ownBlock] at ej
    · obtain rfl : g = j := by simpa [Value.ownBlock] using ej
      rw [hgb] at hj; cases hj; rfl
  · refine (((Below.refl lo W).alloc hlo tmp).grown hgrow (by simp; omega) fun j ej => ?_).setCell (p := ⟨D, 0, none⟩) hD v'
    rcases hr.2 with ⟨rfl, _⟩ | ⟨g, cap, cur, rfl, hb, _, _⟩
    · simp [Value.ownBlock] at ej
    · obtain rfl : g = j := by simpa [Value.ownBlock] using ej
      exact hb

theorem IntBox.alloc {W : World} {D lo : Nat} {zs : List Int} (h : IntBox D lo zs W) (o : Obj) : IntBox D lo zs (W.alloc o) := by
  obtain ⟨v, h1, h2⟩ := h
  exact ⟨v, h1.alloc o, h2.alloc o⟩

theorem IntBox.below {W W' : World} {D lo : Nat} {zs : List Int} (h : IntBox D lo zs W) (hb : Below W.heap.size W W') : IntBox D lo zs W' := by
  obtain ⟨v, h1, h2⟩ := h
  exact ⟨v, (hb.block _ (lt_of_some h1)).trans h1, ownsRow_below h2 hb⟩

theorem IntBox.start (W : World) (lo : Nat) : IntBox W.heap.size lo [] (W.alloc (.cells #[.slice none 0 0] 23)) :=
  ⟨_, alloc_new W _, World.ownsRow_nil _ _ _ _⟩

theorem IntBox.ints {W : World} {D lo : Nat} {zs : List Int} (h : IntBox D lo zs W) : ∃ a c, HasBlk W D #[.slice a zs.length c] 23 ∧ OwnN W lo a zs.length c zs := by
  obtain ⟨v, h1, h2⟩ := h
  obtain ⟨a, c, rfl⟩ := slice_form h2
  exact ⟨a, c, h1, h2⟩

end Go.Proofs.YtphddemilibooaaDoor

/- It is proved what grownBy of the program returns; conditions: those of each statement. -/
namespace Go.Proofs.YtphddemilibooaaDoor
open Go.RowKit Go.Shelf

attribute [local go_sem] Oper.semAt_some

theorem wpListIn_append_run {F : Fence} {n : Nat} {P : Program} {w : World} {ops : Array Oper} {rest : List Oper} {o : Oper} {a : Act} {Q : Exit → Act → World → Prop}
    (hg : o.guard = none) (s x : Operand) (t tn : TypeId) (hop : o.op = Op.call { callee := Callee.builtin Builtin.append, args := #[s, x], argTypes := #[t, tn] }) (vs vx : Value) (hs : a.eval s = vs) (hx : a.eval x = vx)
    {v' : Value} {w' : World} (hrun : (Builtin.append_ #[t, tn] o.type #[vs, vx]).run P w = .ok v' w') (hK : wpListIn F n P ops Q rest (a.put o.dst v') w') : wpListIn F n P ops Q (o :: rest) a w := by
  refine wpListIn_plain hg fun K hK' => ?_
  unfold Oper.wpIn
  refine ⟨?_, ?_⟩
  · simp [Oper.about, hop, resolve, Target.leads, Sem.run_pure]
  · rw [Oper.semAt_plain F _ _ (by rw [hop]; intro c hc'; cases hc')]
    simp [execOp, hop, resolve, invoke, builtin, hs, hx, hrun, Result.andThen]
    exact hK' _ _ hK

theorem appW_run {W : World} {lo n : Nat} {v : Value} {xs : List Int} (h : W.ownsRow lo 3 1 v n (xs.map (Value.int .i64))) (hlo : lo ≤ W.heap.size) (hn : n ≤ 100000) (x : Int) :
    ∃ v' w1, (Builtin.append_ #[23, 23] 23 #[v, .slice (some ⟨W.heap.size, 0, none⟩) 1 1]).run Tryd.prog (W.alloc (.cells #[.int .i64 x] 3)) = .ok v' w1 ∧ w1.ownsRow lo 3 1 v' (n + 1) (xs.map (Value.int .i64) ++ [.int .i64 x]) ∧ (W.alloc (.cells #[.int .i64 x] 3)).grownBy w1 v.ownBlock := by
  obtain ⟨i0, hi0, hz0, hz1, hz2⟩ := info_parts Tryd.info3
  have hnb := alloc_new W (.cells #[.int .i64 x] 3)
  have hsz : (W.alloc (.cells #[.int .i64 x] 3)).heap.size = W.heap.size + 1 := by simp
  obtain ⟨v', w1, hr, h2, h3, _⟩ := run_append_own (P := Tryd.prog) (W.alloc (.cells #[.int .i64 x] 3)) lo 23 23 3 i0 (.int .i64 0) 1 8 Tryd.underlying23 hi0 hz0 hz1 hz2 rfl (by decide) v n _ (World.ownsRow.alloc h _) ⟨W.heap.size, 0, none⟩ 1 1 [.int .i64 x] (by simp)
    (fun j u hu => by
      have hj : j = 0 := by have := (List.getElem?_eq_some_iff.1 hu).1; simpa using this
      subst hj
      simp at hu
      subst hu
      exact blk_cell hnb 0) (by simp [Value.oneCell']) (by simp only [maxLen]; omega) (by omega) (by omega)
  exact ⟨v', w1, hr, h2, h3⟩

end Go.Proofs.YtphddemilibooaaDoor

/- It is proved what slices.Index, slices.Contains and slices.Max of ints return; conditions: those of each statement. -/
namespace Go.Proofs.YtphddemilibooaaDoor
open Go.RowKit

/-- Where a number first stands in a list, or -1. -/
def IdxR (x : Int) (zs : List Int) (r : Int) : Prop := (r = -1 ∧ ∀ j, j < zs.length → zs[j]?.getD 0 ≠ x) ∨ ∃ k : Nat, r = (k : Int) ∧ k < zs.length ∧ zs[k]?.getD 0 = x ∧ ∀ j, j < k → zs[j]?.getD 0 ≠ x

set_option maxRecDepth 100000 in
set_option maxHeartbeats 1600000 in
theorem indexI_any (a : Option Addr) (c : Nat) (zs : List Int) (x : Int) (w : World) (ha : Ints w w.heap.size a zs) (hx : zs.length ≤ 1048576) :
    Calls Tryd.prog 95 #[.slice a zs.length c, .int .i64 x] w fun e w' => (∃ r, e = .returned (.int .i64 r) ∧ IdxR x zs r) ∧ w = w' := by
  obtain ⟨n, hn⟩ : ∃ n, n = zs.length := ⟨_, rfl⟩
  have HN := Lib.hid hn
  have HA := Lib.hid ha
  rw [← hn] at hx ⊢
  clear ha hn
  go_enter Tryd.func95, Tryd.ntmps95
  go_wp2
  go_loop [5, 8] (fun _ i => ∃ k : Nat, k ≤ n ∧ i = .int .i64 k ∧ ∀ j, j < k → zs[j]?.getD 0 ≠ x) (fun _ i => n - (intOf i).toNat)
  case atStart => exact ⟨0, Nat.zero_le _, rfl, fun j hj => by omega⟩
  case round =>
    obtain ⟨k, hk, rfl, he⟩ := hrel
    have HE := Lib.hid he
    clear he
    by_cases hlt : k < n
    · obtain ⟨b1, o1, rfl, hb1, hc1⟩ := HA.out.at_ (k := k) (by rw [← HN.out]; exact hlt)
      obtain ⟨z, hz⟩ : ∃ z, z = zs[k]?.getD 0 := ⟨_, rfl⟩
      rw [← hz] at hc1
      have HZ := Lib.hid hz
      have hki : (k : Int) < (n : Int) := by omega
      clear hz
      cases h0 : (x == z)
      · have HP : Hid (∀ j, j < k + 1 → zs[j]?.getD 0 ≠ x) := Lib.hid (fun j hj e => by
          by_cases e2 : j = k
          · subst e2; rw [← HZ.out] at e; rw [e] at h0; simp at h0
          · exact HE.out j (by omega) e)
        go_wp2
        go_round
        case rel => exact ⟨k + 1, by omega, by go_num, HP.out⟩
        case measure => simp [intOf]; omega
      · have HX : Hid (x = z) := Lib.hid (by simpa using h0)
        go_wp2
        go_ret
        exact ⟨⟨_, rfl, .inr ⟨k, rfl, by rw [← HN.out]; exact hlt, by rw [HX.out, ← HZ.out], HE.out⟩⟩, rfl⟩
    · obtain rfl : k = n := by omega
      go_wp2
      go_ret
      exact ⟨⟨_, rfl, .inl ⟨rfl, by rw [← HN.out]; exact HE.out⟩⟩, rfl⟩

end Go.Proofs.YtphddemilibooaaDoor

/- It is proved what mayLeave returns; conditions: those of each statement. -/
namespace Go.Proofs.YtphddemilibooaaDoor
open Go.RowKit

theorem idxX_any {zs : List Int} {x r : Int} (h : IdxR x zs r) : decide (0 ≤ r) = zs.any fun z => decide (z = x) := by
  rcases h with ⟨rfl, h⟩ | ⟨k, rfl, hk, hz, -⟩
  · have : (zs.any fun z => decide (z = x)) = false := List.any_eq_false.2 fun z hz => by
      obtain ⟨j, hj, rfl⟩ := List.getElem_of_mem hz
      have := h j hj
      rw [List.getElem?_eq_getElem hj] at this
      simpa using this
    rw [this]; rfl
  · have : (zs.any fun z => decide (z = x)) = true := List.any_eq_true.2 ⟨zs[k], List.getElem_mem _, by
      rw [List.getElem?_eq_getElem hk] at hz
      simpa using hz⟩
    rw [this, decide_eq_true (by omega)]

set_option maxRecDepth 100000 in
theorem containsX_any (a : Option Addr) (c : Nat) (zs : List Int) (x : Int) (w : World) (ha : Ints w w.heap.size a zs) (hx : zs.length ≤ 1048576) :
    Calls Tryd.prog 86 #[.slice a zs.length c, .int .i64 x] w fun e w' => e = .returned (.bool (zs.any fun z => decide (z = x))) ∧ w = w' := by
  go_enter Tryd.func86, Tryd.ntmps86
  go_wp2_with fail
  refine (indexI_any a c zs x w ha hx).mono ?_
  rintro e w1 ⟨⟨r, rfl, hr⟩, rfl⟩
  have HR := Lib.hid (idxX_any hr)
  clear hr
  go_wp2
  go_ret
  exact ⟨by rw [← HR.out]; rfl, rfl⟩

end Go.Proofs.YtphddemilibooaaDoor
