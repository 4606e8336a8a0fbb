/- It is proved what CoverIn of the program and of the reference model returns; conditions: those of each statement. -/
import Derived.RowKit
import Derived.Laws.CopyRow
import Derived.Lib.SlBuf
import Derived.Deep.QuietTactic
import Derived.RangeFuncNested
import Derived.RangeFuncBound
import Derived.RangeFuncCalls
import Derived.RangeFuncLeaves
import Derived.RangeFuncBox
import Derived.RangeFuncWrites
import Derived.StillTailTactics
import Derived.Maps.OwnIn
import Derived.Maps.Ext
import Derived.DeepKeys4
import Derived.MapKept
import Derived.Test.YtmojkeokkebbfaaDoorRows
import Derived.WalkKit
import Derived.WalkSpells
import Derived.ProofKit
import Derived.OpenShut
import Derived.ShutString
import Derived.ChangeOld
import Derived.Below
import Derived.Deep.RegionHeld3
import Derived.BigQuiet
import Derived.Lib.Hide
import Derived.Lib.SmallJoins
import Derived.Outline
import Derived.Laws.MakeOwn
import Derived.Laws.OwnMore
import Derived.IntWalk
import Derived.Lib.AppendZeros
import Derived.Maps.AppendAt
import Derived.Deep.AppendLies
import Derived.OwnWalk
import Derived.Lib.SlicesCompact
import Derived.Lib.OwnBridge
import Derived.OrdersIn
import Derived.TacticsIn
import Derived.Shelf.Sort.Plain
import Derived.Shelf.Slices.In.SortNone
import Derived.Shelf.Slices.CompactI
import Derived.Ground.Names2Prog
import Derived.Lib.SliceRun
import Derived.Shelf.Abstract
import Derived.Shelf.RegionOpen
import Derived.OwnWalkIn
import Derived.TacticsInMore
import Derived.LoopNIn
import Derived.LoopIn
import Derived.StillTail
import Derived.StillTactics
import Derived.Shelf.Spec.TrailingZeros
import Derived.Test.YtmojkeokkebbfaaDoorMzaa
import Derived.Test.YtmojkeokkebbfaaDoorMzad
import Derived.Test.YtmojkeokkebbfaaDoorMzae
import Derived.Test.YtmojkeokkebbfaaDoorMzav
import Derived.Test.YtmojkeokkebbfaaDoorMzaf
import Derived.Test.YtmojkeokkebbfaaDoorMzao
import Derived.Test.YtmojkeokkebbfaaDoorKc
import Derived.Test.YtmojkeokkebbfaaDoorMzas
import Derived.Deep.RegionWith
import Derived.Deep.RegionLaw
import Derived.Test.YtmojkeokkebbfaaDoorMzab
import Derived.Test.YtmojkeokkebbfaaDoorDb
namespace Go.Proofs.YtmojkeokkebbfaaDoor
open Go.RowKit

/-- A set is a cover, or something is not as told. -/
def inCov (m : Int) (zs : List Int) (x : Int) : Bool := famIn m zs && (inB x 0 (fullI m) && covB zs x.toNat)

theorem set_nat {k : Nat} {x : Int} (h : inB x 0 (fullI (k : Int)) = true) : ∃ s : Nat, x = (s : Int) ∧ s < 2 ^ k := by
  obtain ⟨h1, h2⟩ := inB_out h
  unfold fullI at h2
  rw [Int.toNat_natCast] at h2
  have e : (2 : Int) ^ k = ((2 ^ k : Nat) : Int) := by norm_cast
  exact ⟨x.toNat, by omega, by omega⟩

theorem fam_nat2 {m : Int} {zs : List Int} (h : famIn m zs = true) : ∃ k : Nat, m = (k : Int) ∧ 1 ≤ k ∧ k ≤ 6 ∧ Sets k zs ∧ zs.length ≤ 8 := by
  obtain ⟨h1, h2, h3, -⟩ := famIn_out h
  obtain ⟨k, rfl⟩ : ∃ k : Nat, m = (k : Int) := ⟨m.toNat, by omega⟩
  exact ⟨k, rfl, by omega, by omega, sets_of_fam h, h3⟩

set_option maxRecDepth 100000 in
set_option maxHeartbeats 2000000 in
theorem implCoverIn_any (m : Int) (a : Option Addr) (c : Nat) (zs : List Int) (x : Int) (w : World) (ha : Ints w w.heap.size a zs) (hx : zs.length ≤ 1048576) :
    Calls Tryd.prog 13 #[.agg #[.int .i64 m, .slice a zs.length c], .int .i64 x] w fun e w' => e = .returned (.bool (inCov m zs x)) ∧ Below w.heap.size w w' := by
  unfold inCov
  have HB0 := Lib.hid (below1 w (.cells #[.int .i64 m, .slice a zs.length c] 25))
  have HA := Lib.hid (ha.below HB0.out)
  clear ha
  cases hf : famIn m zs
  · have HF := Lib.hid hf
    clear hf
    go_enter Tryd.func13, Tryd.ntmps13
    go_wp2_with fail
    refine (implFamilyIn_any _ _ _ zs _ (HA.out.mono (by simp)) hx).mono ?_
    rintro e w1 ⟨rfl, hb⟩
    rw [HF.out]
    have HB := Lib.hid (HB0.out.trans (hb.mono (by simp)))
    clear hb
    go_wp2
    go_ret
    exact ⟨rfl, HB.out⟩
  · have HF := Lib.hid hf
    obtain ⟨k, rfl, hk1, hk6, hset, hl8⟩ := fam_nat2 hf
    have hk1I : (1 : Int) ≤ (k : Int) := by omega
    have hk6I : (k : Int) ≤ 6 := by omega
    clear hf
    cases hs : inB x 0 (fullI (k : Int))
    · have HS := Lib.hid hs
      clear hs
      go_enter Tryd.func13, Tryd.ntmps13
      go_wp2_with fail
      refine (implFamilyIn_any _ _ _ zs _ (HA.out.mono (by simp)) hx).mono ?_
      rintro e w1 ⟨rfl, hb⟩
      rw [HF.out]
      have b0 : w1.heap[w.heap.size]? = some (.cells #[.int .i64 (k : Int), .slice a zs.length c] 25 (0, 0)) := (hb.block _ (by simp)).trans (alloc_new w _)
      have x0 := (blk_cell b0 0).trans (cell2_0 _ _)
      have HB := Lib.hid (HB0.out.trans (hb.mono (by simp)))
      clear hb b0
      go_wp2_with (go_at_call 48; refine (setIn_any _ _ _ hk1I hk6I).mono ?_; rintro e w' ⟨rfl, rfl⟩; rw [HS.out])
      go_ret
      exact ⟨rfl, HB.out⟩
    · have HS := Lib.hid hs
      obtain ⟨s, rfl, hs2⟩ := set_nat hs
      have hs64 := p64 hk6 hs2
      clear hs
      go_enter Tryd.func13, Tryd.ntmps13
      go_wp2_with fail
      refine (implFamilyIn_any _ _ _ zs _ (HA.out.mono (by simp)) hx).mono ?_
      rintro e w1 ⟨rfl, hb⟩
      rw [HF.out]
      have b0 : w1.heap[w.heap.size]? = some (.cells #[.int .i64 (k : Int), .slice a zs.length c] 25 (0, 0)) := (hb.block _ (by simp)).trans (alloc_new w _)
      have x0 := (blk_cell b0 0).trans (cell2_0 _ _)
      have x1 := (blk_cell b0 1).trans (cell2_1 _ _)
      have z1 : w.heap.size < w1.heap.size := lt_of_some b0
      have HC := Lib.hid (coveredBy_any k hk6 a c zs s hs64 w1 ((HA.out.below (hb.mono (by simp))).mono (by omega)) (by omega) hset)
      have HB := Lib.hid (HB0.out.trans (hb.mono (by simp)))
      have Z1 := Lib.hid z1
      clear hb b0 z1
      go_wp2_with (first
        | (go_at_call 48; refine (setIn_any _ _ _ hk1I hk6I).mono ?_; rintro e w' ⟨rfl, rfl⟩; rw [HS.out])
        | (go_at_call 49; refine HC.out.mono ?_; rintro e w2 ⟨rfl, hb2⟩))
      go_ret
      exact ⟨by simp, HB.out.trans (hb2.mono (by have := Z1.out; omega))⟩

set_option maxRecDepth 100000 in
set_option maxHeartbeats 2000000 in
theorem specCoverIn_any (m : Int) (a : Option Addr) (c : Nat) (zs : List Int) (x : Int) (w : World) (ha : Ints w w.heap.size a zs) (hx : zs.length ≤ 1048576) :
    Calls Tryd.prog 14 #[.agg #[.int .i64 m, .slice a zs.length c], .int .i64 x] w fun e w' => e = .returned (.bool (inCov m zs x)) ∧ Below w.heap.size w w' := by
  unfold inCov
  have HB0 := Lib.hid (below1 w (.cells #[.int .i64 m, .slice a zs.length c] 25))
  have HA := Lib.hid (ha.below HB0.out)
  clear ha
  cases hf : famIn m zs
  · have HF := Lib.hid hf
    clear hf
    go_enter Tryd.func14, Tryd.ntmps14
    go_wp2_with fail
    refine (specFamilyIn_any _ _ _ zs _ (HA.out.mono (by simp)) hx).mono ?_
    rintro e w1 ⟨rfl, hb⟩
    rw [HF.out]
    have HB := Lib.hid (HB0.out.trans (hb.mono (by simp)))
    clear hb
    go_wp2
    go_ret
    exact ⟨rfl, HB.out⟩
  · have HF := Lib.hid hf
    obtain ⟨k, rfl, hk1, hk6, hset, hl8⟩ := fam_nat2 hf
    have hk1I : (1 : Int) ≤ (k : Int) := by omega
    have hk6I : (k : Int) ≤ 6 := by omega
    clear hf
    cases hs : inB x 0 (fullI (k : Int))
    · have HS := Lib.hid hs
      clear hs
      go_enter Tryd.func14, Tryd.ntmps14
      go_wp2_with fail
      refine (specFamilyIn_any _ _ _ zs _ (HA.out.mono (by simp)) hx).mono ?_
      rintro e w1 ⟨rfl, hb⟩
      rw [HF.out]
      have b0 : w1.heap[w.heap.size]? = some (.cells #[.int .i64 (k : Int), .slice a zs.length c] 25 (0, 0)) := (hb.block _ (by simp)).trans (alloc_new w _)
      have x0 := (blk_cell b0 0).trans (cell2_0 _ _)
      have x1 := (blk_cell b0 1).trans (cell2_1 _ _)
      have z1 : w.heap.size < w1.heap.size := lt_of_some b0
      have Z1 := Lib.hid z1
      have HB := Lib.hid (HB0.out.trans (hb.mono (by simp)))
      clear hb b0 z1
      go_wp2_with (first
        | (go_at_call 52; refine (l1All_b _ _ _ _ _ hk1I hk6I).mono ?_; rintro e w2 ⟨rfl, hb2⟩)
        | (go_at_call 51; refine (l6In_any _ _ _ _).mono ?_; rintro e w' ⟨rfl, rfl⟩; rw [HS.out]))
      go_ret
      exact ⟨rfl, HB.out.trans (hb2.mono (by have := Z1.out; omega))⟩
    · have HS := Lib.hid hs
      obtain ⟨s, rfl, hs2⟩ := set_nat hs
      have hs64 := p64 hk6 hs2
      clear hs
      go_enter Tryd.func14, Tryd.ntmps14
      go_wp2_with fail
      refine (specFamilyIn_any _ _ _ zs _ (HA.out.mono (by simp)) hx).mono ?_
      rintro e w1 ⟨rfl, hb⟩
      rw [HF.out]
      have b0 : w1.heap[w.heap.size]? = some (.cells #[.int .i64 (k : Int), .slice a zs.length c] 25 (0, 0)) := (hb.block _ (by simp)).trans (alloc_new w _)
      have x0 := (blk_cell b0 0).trans (cell2_0 _ _)
      have x1 := (blk_cell b0 1).trans (cell2_1 _ _)
      have z1 : w.heap.size < w1.heap.size := lt_of_some b0
      have HI := Lib.hid ((HA.out.below (hb.mono (by simp))).mono (B' := w1.heap.size) (by omega))
      have HB := Lib.hid (HB0.out.trans (hb.mono (by simp)))
      have Z1 := Lib.hid z1
      have HZ : Hid (∀ z ∈ zs, 0 ≤ z ∧ z.toNat < 64) := Lib.hid (fun z h => ⟨(hset z h).1, p64 hk6 (hset z h).2⟩)
      clear hb b0 z1
      go_wp2_with (first
        | (go_at_call 52; refine (l1All_b _ _ _ _ _ hk1I hk6I).mono ?_; rintro e w2 ⟨rfl, hb2⟩; have y1 := (hb2.cell (p := ⟨w.heap.size, 1, none⟩) Z1.out).trans x1)
        | (go_at_call 51; refine (l6In_any _ _ _ _).mono ?_; rintro e w' ⟨rfl, rfl⟩; rw [HS.out])
        | (go_at_call 53; refine (l4In_any a c zs s _ ((HI.out.below hb2).mono hb2.size) hx HZ.out hs64).mono ?_; rintro e w' ⟨rfl, rfl⟩))
      go_ret
      exact ⟨by simp, HB.out.trans (hb2.mono (by have := Z1.out; omega))⟩

end Go.Proofs.YtmojkeokkebbfaaDoor

/- It is proved that a drawn family and a drawn set are the call's own; conditions: those of each statement. -/
namespace Go.Proofs.YtmojkeokkebbfaaDoor
open Go.RowKit

/-- A family of the call's own, and a number. -/
def DrawnTwo (w : World) (e : Ending) (W : World) : Prop :=
  ∃ (m : Int) (a : Option Addr) (zs : List Int) (c : Nat) (x : Int), e = .returned (.tuple #[.agg #[.int .i64 m, .slice a zs.length c], .int .i64 x]) ∧ zs.length ≤ 10 ∧ OwnI W w.heap.size (.slice a zs.length c) zs ∧ Below w.heap.size w W

theorem DS.belowR {w W : World} {R : Nat} {b : Option Addr} {n cap P B : Nat} (h : DS w R b n cap P W) (hB : B ≤ R) (hs : B ≤ w.heap.size) : Below B w W :=
  (Below.refl B w).grown h.gr hs (fun g e => by injection e with e; omega)

set_option maxRecDepth 100000 in
set_option maxHeartbeats 4000000 in
theorem setD_any (a : Option Addr) (n cap : Nat) (w : World) (hb : Bys w w.heap.size a n) (hn : n ≤ 1048576) (hc : n ≤ cap) (hc2 : cap ≤ 9223372036854775807) :
    Calls Tryd.prog 46 #[.slice a n cap] w (DrawnTwo w) := by
  have ha : n ≠ 0 → ∃ g off, a = some ⟨g, off, none⟩ := fun h => by obtain ⟨g, off, e, _⟩ := hb.resolve_left h; exact ⟨g, off, e⟩
  have HB := Lib.hid hb
  clear hb
  go_enter Tryd.func46, Tryd.ntmps46
  go_wp2_with fail
  refine (openD_any a n cap _ hn hc hc2 ha).mono ?_
  rintro e w1 ⟨k, hk, rfl, rfl⟩
  have b1 := below2 w (.cells #[.int .i64 0, .slice none 0 0] 25) (.cells #[.slice a k cap, .int .i64 0] 86)
  have HD1 : Hid (DS ((w.alloc (.cells #[.int .i64 0, .slice none 0 0] 25)).alloc (.cells #[.slice a k cap, .int .i64 0] 86)) (w.heap.size + 1) a k cap 0 ((w.alloc (.cells #[.int .i64 0, .slice none 0 0] 25)).alloc (.cells #[.slice a k cap, .int .i64 0] 86))) := Lib.hid ⟨⟨0, Nat.le_refl _, alloc2_1 w _ _⟩, World.grownBy.refl _ _⟩
  have HB1 := Lib.hid ((HB.out.below b1).fewer (B' := w.heap.size + 1) (by omega) hk)
  have HX : Hid (HasBlk ((w.alloc (.cells #[.int .i64 0, .slice none 0 0] 25)).alloc (.cells #[.slice a k cap, .int .i64 0] 86)) w.heap.size #[.int .i64 0, .slice none 0 0] 25) := Lib.hid (alloc2_0 w _ _)
  have HBL := Lib.hid b1
  clear b1
  go_wp2_with fail
  refine (someD_any 6 7 6 7 rfl rfl (by decide) (by decide) (by decide) (w.heap.size + 1) a k cap 0 _ HD1.out HB1.out (by simp) (by omega) (by omega)).mono ?_
  rintro e w2 ⟨m, a2, zs, c2, rfl, ⟨hl, hm1, hm6⟩, ho, D2⟩
  have q0 : HasBlk w2 w.heap.size #[.int .i64 0, .slice none 0 0] 25 := HX.out.kept D2.gr (by simp)
  have hs2 : w.heap.size + 1 < w2.heap.size := by have := D2.gr.size; simp at this; omega
  have HRd : Hid (∃ p, p ≤ 200 ∧ Rd w2 (w.heap.size + 1) a k cap p) := Lib.hid (by obtain ⟨p, hp, h⟩ := D2.rd; exact ⟨p, by omega, h⟩)
  have HBy2 : Hid (Bys w2 (w.heap.size + 1) a k) := Lib.hid (HB1.out.kept (by simp) D2.gr)
  have HO : Hid (OwnI w2 (w.heap.size + 2) (.slice a2 zs.length c2) zs) := Lib.hid (own_mono ho (by simp))
  have HBW := Lib.hid (HBL.out.trans ((Below.refl w.heap.size _).grown D2.gr (by simp; omega) (fun g e => by injection e; omega)))
  have HQ0 := Lib.hid q0
  clear ho D2 q0 HX HD1 HB1 HBL
  have HD3 : Hid (DS (w2.alloc (.cells #[.int .i64 m, .slice a2 zs.length c2] 25)) (w.heap.size + 1) a k cap 200 (w2.alloc (.cells #[.int .i64 m, .slice a2 zs.length c2] 25))) := Lib.hid (by obtain ⟨p, hp, h⟩ := HRd.out; exact ⟨⟨p, hp, HasBlk.alloc h _⟩, World.grownBy.refl _ _⟩)
  have HBy3 : Hid (Bys (w2.alloc (.cells #[.int .i64 m, .slice a2 zs.length c2] 25)) (w.heap.size + 1) a k) := Lib.hid (HBy2.out.below ((below1 w2 _).mono (by omega)))
  have HX3 : Hid (HasBlk (w2.alloc (.cells #[.int .i64 m, .slice a2 zs.length c2] 25)) w2.heap.size #[.int .i64 m, .slice a2 zs.length c2] 25) := Lib.hid (alloc_new w2 _)
  have HQ3 : Hid (HasBlk (w2.alloc (.cells #[.int .i64 m, .slice a2 zs.length c2] 25)) w.heap.size #[.int .i64 0, .slice none 0 0] 25) := Lib.hid (HQ0.out.alloc _)
  have HO3 : Hid (OwnI (w2.alloc (.cells #[.int .i64 m, .slice a2 zs.length c2] 25)) (w.heap.size + 2) (.slice a2 zs.length c2) zs) := Lib.hid (World.ownsRow.alloc HO.out _)
  have HB3 := Lib.hid (HBW.out.trans ((below1 w2 (.cells #[.int .i64 m, .slice a2 zs.length c2] 25)).mono HBW.out.size))
  have hR3 : w.heap.size + 1 < (w2.alloc (.cells #[.int .i64 m, .slice a2 zs.length c2] 25)).heap.size := by simp; omega
  have hkn : k ≤ 1048576 := by omega
  obtain ⟨W3, hW3⟩ : ∃ W3, W3 = w2.alloc (.cells #[.int .i64 m, .slice a2 zs.length c2] 25) := ⟨_, rfl⟩
  go_wp2_with fail
  rw [← hW3]
  rw [← hW3] at HD3 HBy3 HX3 HQ3 HO3 HB3 hR3
  have x0 := (blk_cell HX3.out 0).trans (cell2_0 _ _)
  have x1 := (blk_cell HX3.out 1).trans (cell2_1 _ _)
  clear hW3 HRd HBy2 HQ0 HO HBW
  go_region_with (first
    | (go_at_call 76; refine (pickX D5 HBy3.out hR3 hkn (by omega) _).mono ?_; rintro e w6 ⟨r6, rfl, h6, D6, g6⟩; have q6 := blk_grown q5 g6 (by omega); have x0 := (blk_cell q6 0).trans (cell2_0 _ _); have x1 := (blk_cell q6 1).trans (cell2_1 _ _); have p6 := HasBlk.kept (p5) g6 (fun e => by injection e; omega); have d0 := (blk_cell p6 0).trans (cell2_0 _ _); have d1 := (blk_cell p6 1).trans (cell2_1 _ _); have f0 := blk_frozen p6 0; have f1 := blk_frozen p6 1)
    | (go_at_call 76; refine (pickX D4 HBy3.out hR3 hkn (by omega) _).mono ?_; rintro e w5 ⟨r5, rfl, h5, D5, g5⟩; have q5 := blk_grown q4 g5 (by omega); have x0 := (blk_cell q5 0).trans (cell2_0 _ _); have x1 := (blk_cell q5 1).trans (cell2_1 _ _); have p5 := HasBlk.kept (p4) g5 (fun e => by injection e; omega); have d0 := (blk_cell p5 0).trans (cell2_0 _ _); have d1 := (blk_cell p5 1).trans (cell2_1 _ _); have f0 := blk_frozen p5 0; have f1 := blk_frozen p5 1)
    | (go_at_call 76; refine (pickX HD3.out.drew HBy3.out hR3 hkn (by omega) _).mono ?_; rintro e w4 ⟨r4, rfl, h4, D4, g4⟩; have q4 := blk_grown (W := W3.drew) HX3.out g4 (by omega); have x0 := (blk_cell q4 0).trans (cell2_0 _ _); have x1 := (blk_cell q4 1).trans (cell2_1 _ _); have p4 := HasBlk.kept (W := W3.drew) (HQ3.out) g4 (fun e => by injection e; omega); have d0 := (blk_cell p4 0).trans (cell2_0 _ _); have d1 := (blk_cell p4 1).trans (cell2_1 _ _); have f0 := blk_frozen p4 0; have f1 := blk_frozen p4 1))
  all_goals
    have HOF : Hid (OwnI w6 (w.heap.size + 2) (.slice a2 zs.length c2) zs) := Lib.hid (own_grown (own_grown (own_grown (W := W3.drew) HO3.out g4 (by omega)) g5 (by omega)) g6 (by omega))
    have HBF := Lib.hid (HB3.out.trans (D6.belowR (B := w.heap.size) (by omega) (by omega)))
    clear HO3 HB3 D4 D5 D6 g4 g5 g6 p4 p5 q4 q5 q6 p6 HD3 HBy3 HX3 HQ3 x0 x1
    go_wp2
    refine bodyPost_ret (v := .tuple #[.agg #[.int .i64 m, .slice a2 zs.length c2], .int .i64 _]) (by simp [results, Tryd.results46, go_sem, d0, d1]; rfl) rfl ?_
    refine ⟨m, a2, zs, c2, _, rfl, by omega, ?_, ?_⟩
    · exact own_mono (ownsRow_setCell_below (ownsRow_setCell_below HOF.out (a := ⟨w.heap.size, 0, none⟩) (show w.heap.size < w.heap.size + 2 by omega) _) (a := ⟨w.heap.size, 1, none⟩) (show w.heap.size < w.heap.size + 2 by omega) _) (by omega)
    · exact (HBF.out.setCell (p := ⟨w.heap.size, 0, none⟩) (Nat.le_refl _) _).setCell (p := ⟨w.heap.size, 1, none⟩) (Nat.le_refl _) _

end Go.Proofs.YtmojkeokkebbfaaDoor

/- It is proved what FamilyDegrees of the model returns; conditions: those of each statement. -/
namespace Go.Proofs.YtmojkeokkebbfaaDoor
open Go.RowKit

set_option maxRecDepth 100000 in
theorem bit_fin : ∀ s : Fin 64, ∀ v : Fin 6, bits BinOp.and IntKind.i64 ((s.val : Int) / 2 ^ v.val) 1 = (((s.val >>> v.val) &&& 1 : Nat) : Int) := by decide +kernel

theorem bit_at (s v : Nat) (hs : s < 64) (hv : v < 6) : bits BinOp.and IntKind.i64 ((s : Int) / 2 ^ v) 1 = (((s >>> v) &&& 1 : Nat) : Int) := bit_fin ⟨s, hs⟩ ⟨v, hv⟩
end Go.Proofs.YtmojkeokkebbfaaDoor
