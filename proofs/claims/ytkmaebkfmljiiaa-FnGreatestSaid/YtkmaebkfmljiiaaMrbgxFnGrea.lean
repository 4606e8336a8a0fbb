/- It is proved that a family drawn from bytes is one of the call's own; conditions: those of each statement. -/
import Derived.Test.YtkmaebkfmljiiaaRows
import Derived.WalkKit
import Derived.WalkSpells
import Derived.ProofKit
import Derived.OpenShut
import Derived.ShutString
import Derived.ChangeOld
import Derived.Below
import Derived.Deep.RegionHeld3
import Derived.Deep.QuietTactic
import Derived.BigQuiet
import Derived.Lib.Hide
import Derived.Lib.SmallJoins
import Derived.Outline
import Derived.Laws.MakeOwn
import Derived.Laws.OwnMore
import Derived.IntWalk
import Derived.Deep.RegionLaw
import Derived.Deep.AppendLies
import Derived.RangeFuncNested
import Derived.RangeFuncBound
import Derived.RangeFuncCalls
import Derived.RangeFuncLeaves
import Derived.RangeFuncBox
import Derived.Shelf.Abstract
import Derived.Shelf.RegionOpen
import Derived.OwnWalkIn
import Derived.TacticsInMore
import Derived.LoopNIn
import Derived.LoopIn
import Derived.Maps.AppendAt
import Derived.Shelf.Spec.TrailingZeros
import Derived.OwnWalk
import Derived.Test.YtkmaebkfmljiiaaB
import Derived.Test.YtkmaebkfmljiiaaC
import Derived.Test.YtkmaebkfmljiiaaMrbfxFnGrea
import Derived.Test.YtkmaebkfmljiiaaF
import Derived.Test.YtkmaebkfmljiiaaP
import Derived.Test.YtkmaebkfmljiiaaSa
import Derived.Test.YtkmaebkfmljiiaaE
import Derived.Lib.AppendZeros
import Derived.Lib.SlicesCompact
import Derived.Lib.OwnBridge
import Derived.Shelf.Sort.Plain
import Derived.Shelf.Slices.In.SortNone
import Derived.Shelf.Slices.CompactI
import Derived.Ground.Names2Prog
import Derived.Lib.SliceRun
import Derived.Test.YtkmaebkfmljiiaaHb
import Derived.Test.YtkmaebkfmljiiaaHu
import Derived.Test.YtkmaebkfmljiiaaHw
namespace Go.Proofs.Ytkmaebkfmljiiaa
open Go.RowKit

theorem openD_any (a : Option Addr) (n cap : Nat) (w : World) (hn : n ≤ 1048576) (hc : n ≤ cap) (hc2 : cap ≤ 9223372036854775807) (ha : n ≠ 0 → ∃ g off, a = some ⟨g, off, none⟩) :
    Calls Try.prog 49 #[.slice a n cap] w fun e w' => ∃ k, k ≤ n ∧ e = .returned (.pointer (some ⟨w.heap.size, 0, none⟩)) ∧ w' = w.alloc (.cells #[.slice a k cap, .int .i64 0] 70) := by
  by_cases h : n ≤ 2000
  · go_enter Try.func49, Try.ntmps49
    go_wp2
    go_ret
    exact ⟨n, Nat.le_refl _, rfl, rfl⟩
  · obtain ⟨g, off, rfl⟩ := ha (by omega)
    have hc3 : (2000 : Int) ≤ (cap : Int) := by omega
    go_enter Try.func49, Try.ntmps49
    go_wp2
    go_ret
    exact ⟨2000, by omega, rfl, rfl⟩

/-- A family of the call's own. -/
def DrawnOne (w : World) (e : Ending) (W : World) : Prop :=
  ∃ (m : Int) (a : Option Addr) (zs : List Int) (c : Nat), e = .returned (.agg #[.int .i64 m, .slice a zs.length c]) ∧ zs.length ≤ 9 ∧ OwnI W w.heap.size (.slice a zs.length c) zs ∧ Below w.heap.size w W

theorem Bys.below {w W : World} {B : Nat} {b : Option Addr} {n : Nat} (h : Bys w B b n) (hb : Below B w W) : Bys W B b n := by
  rcases h with h | ⟨g, off, e, hgR, hc⟩
  · exact .inl h
  · refine .inr ⟨g, off, e, hgR, fun j hj => ?_⟩
    obtain ⟨z, hz, hcz⟩ := hc j hj
    exact ⟨z, hz, (hb.cell (p := ⟨g, off + j, none⟩) hgR).trans hcz⟩

theorem Bys.fewer {w : World} {B B' : Nat} {b : Option Addr} {n k : Nat} (h : Bys w B b n) (hB : B ≤ B') (hk : k ≤ n) : Bys w B' b k := by
  rcases h with h | ⟨g, off, e, hgR, hc⟩
  · exact .inl (by omega)
  · exact .inr ⟨g, off, e, by omega, fun j hj => hc j (by omega)⟩

set_option maxRecDepth 100000 in
set_option maxHeartbeats 2000000 in
theorem oneD_any (a : Option Addr) (n cap : Nat) (w : World) (hb : Bys w w.heap.size a n) (hn : n ≤ 1048576) (hc : n ≤ cap) (hc2 : cap ≤ 9223372036854775807) :
    Calls Try.prog 27 #[.slice a n cap] w (DrawnOne w) := by
  have ha : n ≠ 0 → ∃ g off, a = some ⟨g, off, none⟩ := fun h => by obtain ⟨g, off, e, _⟩ := hb.resolve_left h; exact ⟨g, off, e⟩
  have HB := Lib.hid hb
  clear hb
  go_enter Try.func27, Try.ntmps27
  go_wp2_with fail
  refine (openD_any a n cap _ hn hc hc2 ha).mono ?_
  rintro e w1 ⟨k, hk, rfl, rfl⟩
  have b1 := below2 w (.cells #[.int .i64 0, .slice none 0 0] 25) (.cells #[.slice a k cap, .int .i64 0] 70)
  have HD1 : Hid (DS ((w.alloc (.cells #[.int .i64 0, .slice none 0 0] 25)).alloc (.cells #[.slice a k cap, .int .i64 0] 70)) (w.heap.size + 1) a k cap 0 ((w.alloc (.cells #[.int .i64 0, .slice none 0 0] 25)).alloc (.cells #[.slice a k cap, .int .i64 0] 70))) := Lib.hid ⟨⟨0, Nat.le_refl _, alloc2_1 w _ _⟩, World.grownBy.refl _ _⟩
  have HB1 := Lib.hid ((HB.out.below b1).fewer (B' := w.heap.size + 1) (by omega) hk)
  have HX : Hid (HasBlk ((w.alloc (.cells #[.int .i64 0, .slice none 0 0] 25)).alloc (.cells #[.slice a k cap, .int .i64 0] 70)) w.heap.size #[.int .i64 0, .slice none 0 0] 25) := Lib.hid (alloc2_0 w _ _)
  have HBL := Lib.hid b1
  clear b1
  go_wp2_with fail
  refine (someD_any 6 7 6 7 rfl rfl (by decide) (by decide) (by decide) (w.heap.size + 1) a k cap 0 _ HD1.out HB1.out (by simp) (by omega) (by omega)).mono ?_
  rintro e w2 ⟨m, a2, zs, c2, rfl, ⟨hl, -, -⟩, ho, D2⟩
  have q0 := HX.out.kept D2.gr (by simp)
  have d0 := (blk_cell q0 0).trans (cell2_0 _ _)
  have d1 := (blk_cell q0 1).trans (cell2_1 _ _)
  have f0 := blk_frozen q0 0
  have f1 := blk_frozen q0 1
  have HO : Hid (OwnI w2 (w.heap.size + 2) (.slice a2 zs.length c2) zs) := Lib.hid (own_mono ho (by simp))
  have HBW := Lib.hid (HBL.out.trans ((Below.refl w.heap.size _).grown D2.gr (by simp; omega) (fun g e => by injection e; omega)))
  clear ho D2 q0
  go_wp2
  refine bodyPost_ret (v := .agg #[.int .i64 m, .slice a2 zs.length c2]) (by simp [results, Try.results27, go_sem, d0, d1]) rfl ?_
  refine ⟨m, a2, zs, c2, rfl, Nat.le_trans hl (by decide), ?_, ?_⟩
  · exact own_mono (ownsRow_setCell_below (ownsRow_setCell_below HO.out (a := ⟨w.heap.size, 0, none⟩) (show w.heap.size < w.heap.size + 2 by omega) _) (a := ⟨w.heap.size, 1, none⟩) (show w.heap.size < w.heap.size + 2 by omega) _) (by omega)
  · exact (HBW.out.setCell (p := ⟨w.heap.size, 0, none⟩) (Nat.le_refl _) _).setCell (p := ⟨w.heap.size, 1, none⟩) (Nat.le_refl _) _

set_option maxRecDepth 100000 in
set_option maxHeartbeats 2000000 in
theorem drawSizes_any (a : Option Addr) (n cap : Nat) (w : World) (hb : Bys w w.heap.size a n) (hn : n ≤ 1048576) (hc : n ≤ cap) (hc2 : cap ≤ 9223372036854775807) :
    Calls Try.prog 8 #[.slice a n cap] w (DrawnOne w) := by
  have b1 := below1 w (.cells #[.int .i64 0, .slice none 0 0] 25)
  have HB := Lib.hid ((hb.below b1).fewer (B' := (w.alloc (.cells #[.int .i64 0, .slice none 0 0] 25)).heap.size) (by simp) (Nat.le_refl n))
  have HX : Hid (HasBlk (w.alloc (.cells #[.int .i64 0, .slice none 0 0] 25)) w.heap.size #[.int .i64 0, .slice none 0 0] 25) := Lib.hid (alloc_new w _)
  have HBL := Lib.hid b1
  clear hb b1
  go_enter Try.func8, Try.ntmps8
  go_wp2_with fail
  refine (oneD_any a n cap _ HB.out hn hc hc2).mono ?_
  rintro e w2 ⟨m, a2, zs, c2, rfl, hl, ho, D2⟩
  have q0 : HasBlk w2 w.heap.size #[.int .i64 0, .slice none 0 0] 25 := (D2.block _ (by simp)).trans HX.out
  have d0 := (blk_cell q0 0).trans (cell2_0 _ _)
  have d1 := (blk_cell q0 1).trans (cell2_1 _ _)
  have f0 := blk_frozen q0 0
  have f1 := blk_frozen q0 1
  have HO : Hid (OwnI w2 (w.heap.size + 1) (.slice a2 zs.length c2) zs) := Lib.hid (own_mono ho (by simp))
  have HBW := Lib.hid (HBL.out.trans (D2.mono (by simp)))
  clear ho D2 q0
  go_wp2
  refine bodyPost_ret (v := .agg #[.int .i64 m, .slice a2 zs.length c2]) (by simp [results, Try.results8, go_sem, d0, d1]) rfl ?_
  refine ⟨m, a2, zs, c2, rfl, hl, ?_, ?_⟩
  · exact own_mono (ownsRow_setCell_below (ownsRow_setCell_below HO.out (a := ⟨w.heap.size, 0, none⟩) (show w.heap.size < w.heap.size + 1 by omega) _) (a := ⟨w.heap.size, 1, none⟩) (show w.heap.size < w.heap.size + 1 by omega) _) (by omega)
  · exact (HBW.out.setCell (p := ⟨w.heap.size, 0, none⟩) (Nat.le_refl _) _).setCell (p := ⟨w.heap.size, 1, none⟩) (Nat.le_refl _) _

set_option maxRecDepth 100000 in
set_option maxHeartbeats 2000000 in
theorem drawLeast_any (a : Option Addr) (n cap : Nat) (w : World) (hb : Bys w w.heap.size a n) (hn : n ≤ 1048576) (hc : n ≤ cap) (hc2 : cap ≤ 9223372036854775807) :
    Calls Try.prog 13 #[.slice a n cap] w (DrawnOne w) := by
  have b1 := below1 w (.cells #[.int .i64 0, .slice none 0 0] 25)
  have HB := Lib.hid ((hb.below b1).fewer (B' := (w.alloc (.cells #[.int .i64 0, .slice none 0 0] 25)).heap.size) (by simp) (Nat.le_refl n))
  have HX : Hid (HasBlk (w.alloc (.cells #[.int .i64 0, .slice none 0 0] 25)) w.heap.size #[.int .i64 0, .slice none 0 0] 25) := Lib.hid (alloc_new w _)
  have HBL := Lib.hid b1
  clear hb b1
  go_enter Try.func13, Try.ntmps13
  go_wp2_with fail
  refine (oneD_any a n cap _ HB.out hn hc hc2).mono ?_
  rintro e w2 ⟨m, a2, zs, c2, rfl, hl, ho, D2⟩
  have q0 : HasBlk w2 w.heap.size #[.int .i64 0, .slice none 0 0] 25 := (D2.block _ (by simp)).trans HX.out
  have d0 := (blk_cell q0 0).trans (cell2_0 _ _)
  have d1 := (blk_cell q0 1).trans (cell2_1 _ _)
  have f0 := blk_frozen q0 0
  have f1 := blk_frozen q0 1
  have HO : Hid (OwnI w2 (w.heap.size + 1) (.slice a2 zs.length c2) zs) := Lib.hid (own_mono ho (by simp))
  have HBW := Lib.hid (HBL.out.trans (D2.mono (by simp)))
  clear ho D2 q0
  go_wp2
  refine bodyPost_ret (v := .agg #[.int .i64 m, .slice a2 zs.length c2]) (by simp [results, Try.results13, go_sem, d0, d1]) rfl ?_
  refine ⟨m, a2, zs, c2, rfl, hl, ?_, ?_⟩
  · exact own_mono (ownsRow_setCell_below (ownsRow_setCell_below HO.out (a := ⟨w.heap.size, 0, none⟩) (show w.heap.size < w.heap.size + 1 by omega) _) (a := ⟨w.heap.size, 1, none⟩) (show w.heap.size < w.heap.size + 1 by omega) _) (by omega)
  · exact (HBW.out.setCell (p := ⟨w.heap.size, 0, none⟩) (Nat.le_refl _) _).setCell (p := ⟨w.heap.size, 1, none⟩) (Nat.le_refl _) _

set_option maxRecDepth 100000 in
set_option maxHeartbeats 2000000 in
theorem drawGreatest_any (a : Option Addr) (n cap : Nat) (w : World) (hb : Bys w w.heap.size a n) (hn : n ≤ 1048576) (hc : n ≤ cap) (hc2 : cap ≤ 9223372036854775807) :
    Calls Try.prog 17 #[.slice a n cap] w (DrawnOne w) := by
  have b1 := below1 w (.cells #[.int .i64 0, .slice none 0 0] 25)
  have HB := Lib.hid ((hb.below b1).fewer (B' := (w.alloc (.cells #[.int .i64 0, .slice none 0 0] 25)).heap.size) (by simp) (Nat.le_refl n))
  have HX : Hid (HasBlk (w.alloc (.cells #[.int .i64 0, .slice none 0 0] 25)) w.heap.size #[.int .i64 0, .slice none 0 0] 25) := Lib.hid (alloc_new w _)
  have HBL := Lib.hid b1
  clear hb b1
  go_enter Try.func17, Try.ntmps17
  go_wp2_with fail
  refine (oneD_any a n cap _ HB.out hn hc hc2).mono ?_
  rintro e w2 ⟨m, a2, zs, c2, rfl, hl, ho, D2⟩
  have q0 : HasBlk w2 w.heap.size #[.int .i64 0, .slice none 0 0] 25 := (D2.block _ (by simp)).trans HX.out
  have d0 := (blk_cell q0 0).trans (cell2_0 _ _)
  have d1 := (blk_cell q0 1).trans (cell2_1 _ _)
  have f0 := blk_frozen q0 0
  have f1 := blk_frozen q0 1
  have HO : Hid (OwnI w2 (w.heap.size + 1) (.slice a2 zs.length c2) zs) := Lib.hid (own_mono ho (by simp))
  have HBW := Lib.hid (HBL.out.trans (D2.mono (by simp)))
  clear ho D2 q0
  go_wp2
  refine bodyPost_ret (v := .agg #[.int .i64 m, .slice a2 zs.length c2]) (by simp [results, Try.results17, go_sem, d0, d1]) rfl ?_
  refine ⟨m, a2, zs, c2, rfl, hl, ?_, ?_⟩
  · exact own_mono (ownsRow_setCell_below (ownsRow_setCell_below HO.out (a := ⟨w.heap.size, 0, none⟩) (show w.heap.size < w.heap.size + 1 by omega) _) (a := ⟨w.heap.size, 1, none⟩) (show w.heap.size < w.heap.size + 1 by omega) _) (by omega)
  · exact (HBW.out.setCell (p := ⟨w.heap.size, 0, none⟩) (Nat.le_refl _) _).setCell (p := ⟨w.heap.size, 1, none⟩) (Nat.le_refl _) _

end Go.Proofs.Ytkmaebkfmljiiaa

/- It is proved how a slice of bytes among a law's arguments reads; conditions: none but that the argument can be read. -/
namespace Go.Proofs.Ytkmaebkfmljiiaa
open Go.ChangeShapes Go.WideShapes Go.ChangeAt Go.RowKit Go.Joins
open Go.ChangeMaps (open_string shut_string)

theorem u8_min : IntKind.u8.min = 0 := by decide
theorem u8_max : IntKind.u8.max = 255 := by decide
theorem byte_in {z : Int} (h : (Lit.int .u8 z).wf = true) : 0 ≤ z ∧ z ≤ 255 := by
  simp [Lit.wf, u8_min, u8_max] at h; exact h

theorem byte_small {z : Int} (h : (Lit.int .u8 z).wf = true) : z.toNat < 256 := by have := byte_in h; omega
theorem byte_nat {z : Int} (h : (Lit.int .u8 z).wf = true) : Value.int .u8 z = .int .u8 ((z.toNat : Nat) : Int) := by
  rw [Int.toNat_of_nonneg (byte_in h).1]

theorem Try.cells5 : Try.prog.cellsOf 5 = 1 := by kernel_rfl
set_option maxRecDepth 100000 in
theorem open_code {H : Type} {enc : TypeId × Value → H} {W : World} {base : Nat} {v : Value} {d : DataW H} {p : List MemPlace}
    (hv : Value.okWide Try.prog W .any base 22 v) (h : DataW.Trod enc Try.prog W 0 (fun _ => true) true 22 v d p) :
    ∃ a n cap, v = .slice a n cap ∧ n ≤ cap ∧ cap ≤ maxLen ∧ Bys W W.heap.size a n := by
  obtain ⟨a, n, cap, rfl⟩ := okWide_slice Try.underlying22 hv
  obtain ⟨fuel, hf⟩ := h
  rcases open_ints Try.underlying22 Try.underlying5 Try.cells5 hf with ⟨hcs, _⟩ | ⟨x, l, c, zs, hcs, _, hl, hm, hz, hx, hcell, hwz⟩
  · simp [Value.cells] at hcs
    obtain ⟨rfl, rfl, rfl⟩ := hcs
    exact ⟨none, 0, 0, rfl, by omega, by simp [maxLen], .inl rfl⟩
  · simp [Value.cells] at hcs
    obtain ⟨rfl, rfl, rfl⟩ := hcs
    refine ⟨some x, n, cap, rfl, hl, hm, ?_⟩
    by_cases h0 : n = 0
    · exact .inl h0
    · obtain ⟨b, off, spot⟩ := x
      simp at hz
      have hc := hcell 0 (by omega)
      have hspot : spot = none := by simpa [Addr.add] using World.cell?_spot hc
      subst hspot
      refine .inr ⟨b, off, rfl, by simpa [Addr.add] using World.block_lt_of_cell? W _ hc, fun j hj => ?_⟩
      have h1 := hcell j (by omega)
      rw [show (⟨b, off, none⟩ : Addr).add j = ⟨b, off + j, none⟩ from by unfold Addr.add; split <;> simp_all] at h1
      have h2 := hwz (zs.getD j 0) (by
        have : j < zs.length := by omega
        simp [List.getD, this])
      refine ⟨(zs.getD j 0).toNat, ?_, ?_⟩
      · exact byte_small h2
      · rw [h1, byte_nat h2]

end Go.Proofs.Ytkmaebkfmljiiaa

/- It is proved what sameInts and sameFamily return; conditions: those of each statement. -/
namespace Go.Proofs.Ytkmaebkfmljiiaa
open Go.RowKit

set_option maxRecDepth 100000 in
set_option maxHeartbeats 400000 in
theorem sameInts_any (a b : Option Addr) (ca cb : Nat) (xs ys : List Int) (w : World) (ha : Ints w w.heap.size a xs) (hb : Ints w w.heap.size b ys) (hx : xs.length ≤ 1048576) (hy : ys.length ≤ 1048576) :
    Calls Try.prog 11 #[.slice a xs.length ca, .slice b ys.length cb] w fun e w' => e = .returned (.bool (sameB xs ys)) ∧ Below w.heap.size w w' := by
  by_cases hl : xs.length = ys.length
  · obtain ⟨n, hn⟩ : ∃ n, n = xs.length := ⟨_, rfl⟩
    have HN : Hid (n = xs.length) := Lib.hid hn
    have HM : Hid (n = ys.length) := Lib.hid (hn.trans hl)
    rw [← hl, ← hn]
    rw [← hn] at hx
    clear hl hn hy
    go_enter Try.func11, Try.ntmps11
    go_wp2
    go_loopw [5] (fun i wr => ∃ k : Nat, k ≤ n ∧ i = .int .i64 k ∧ (∀ j, j < k → xs[j]?.getD 0 = ys[j]?.getD 0) ∧ Below w.heap.size w wr) (fun i _ => n - (intOf i).toNat)
    case atStart => exact ⟨0, Nat.zero_le _, rfl, fun j hj => by omega, Below.refl _ _⟩
    case round =>
      obtain ⟨k, hk, rfl, he, hB⟩ := hrel
      by_cases hlt : k < n
      · obtain ⟨b1, o1, rfl, hb1, hc1⟩ := ha.at_ (k := k) (by rw [← HN.out]; exact hlt)
        obtain ⟨b2, o2, rfl, hb2, hc2⟩ := hb.at_ (k := k) (by rw [← HM.out]; exact hlt)
        have hk0 : (0 : Int) ≤ (k : Int) := by omega
        have hk1 : (k : Int) < (n : Int) := by omega
        have c1 := (hB.cell (p := ⟨b1, o1 + k, none⟩) hb1).trans hc1
        have c2 := (hB.cell (p := ⟨b2, o2 + k, none⟩) hb2).trans hc2
        have HB := Lib.hid hB
        have HE := Lib.hid he
        clear hc1 hc2 hB he
        by_cases hq : xs[k]?.getD 0 = ys[k]?.getD 0
        · have hbn : (xs[k]?.getD 0 != ys[k]?.getD 0) = false := by rw [hq]; simp
          have HQ := Lib.hid hq
          clear hq
          go_wp2
          go_quiet (fail)
          go_wp2
          go_roundw
          case rel => exact ⟨k + 1, by omega, by go_num, fun j hj => by
            rcases Nat.lt_succ_iff_lt_or_eq.1 hj with h | rfl
            · exact HE.out j h
            · exact HQ.out, below_drewN HB.out _⟩
          case measure => simp [intOf]; omega
        · have hbn : (xs[k]?.getD 0 != ys[k]?.getD 0) = true := by rw [bne_iff_ne]; exact hq
          have HQ : Hid (sameB xs ys = false) := Lib.hid (by unfold sameB; exact eqs_false (by rw [← HN.out]; exact hlt) (by rw [← HM.out]; exact hlt) hq)
          clear hq
          go_wp2
          go_quiet (fail)
          go_wp2
          go_ret
          exact ⟨by rw [HQ.out]; rfl, below_drewN HB.out _⟩
      · obtain rfl : k = n := by omega
        have HQ : Hid (sameB xs ys = true) := Lib.hid (by unfold sameB; exact eqs_true (by rw [← HN.out, ← HM.out]) (by rw [← HN.out]; exact he))
        have HB := Lib.hid hB
        clear he hB
        go_wp2
        go_ret
        exact ⟨by rw [HQ.out]; rfl, HB.out⟩
  · have hd : sameB xs ys = false := by unfold sameB; simp only [decide_eq_false_iff_not]; rintro rfl; exact hl rfl
    have hne : ((xs.length : Int) == (ys.length : Int)) = false := by simp; omega
    have hne' : ((xs.length : Int) != (ys.length : Int)) = true := by simp; omega
    rw [hd]
    go_enter Try.func11, Try.ntmps11
    go_wp2
    go_ret
    exact ⟨rfl, Below.refl _ _⟩

set_option maxRecDepth 100000 in
set_option maxHeartbeats 400000 in
theorem sameFamily_any (m k : Int) (a b : Option Addr) (ca cb : Nat) (xs ys : List Int) (w : World) (ha : Ints w w.heap.size a xs) (hb : Ints w w.heap.size b ys) (hx : xs.length ≤ 1048576) (hy : ys.length ≤ 1048576) :
    Calls Try.prog 16 #[.agg #[.int .i64 m, .slice a xs.length ca], .agg #[.int .i64 k, .slice b ys.length cb]] w fun e w' => e = .returned (.bool (sameF m xs k ys)) ∧ Below w.heap.size w w' := by
  have HB := Lib.hid (below2 w (.cells #[.int .i64 m, .slice a xs.length ca] 25) (.cells #[.int .i64 k, .slice b ys.length cb] 25))
  by_cases h : m = k
  · subst h
    have H1 : Hid (sameF m xs m ys = sameB xs ys) := Lib.hid (by simp [sameF])
    cases hs : sameB xs ys
    all_goals
      have HS := Lib.hid hs
      clear hs
      go_enter Try.func16, Try.ntmps16
      go_wp2_with (go_at_call 11; refine (sameInts_any _ _ _ _ xs ys _ ((ha.below HB.out).mono (by simp; omega)) ((hb.below HB.out).mono (by simp; omega)) hx hy).mono ?_; rintro e w1 ⟨rfl, hb1⟩; rw [HS.out])
      go_ret
      exact ⟨by rw [H1.out, HS.out]; rfl, HB.out.trans (hb1.mono (by simp; omega))⟩
  · have H1 : Hid (sameF m xs k ys = false) := Lib.hid (by simp [sameF, h])
    have hn : (m == k) = false := by rw [beq_eq_false_iff_ne]; exact h
    clear h
    go_enter Try.func16, Try.ntmps16
    go_wp2
    go_ret
    exact ⟨by rw [H1.out]; rfl, HB.out⟩

end Go.Proofs.Ytkmaebkfmljiiaa

/- It is proved that least clubs are parts of no other one, and that each club has one of them as a part; conditions: those of each statement. -/
namespace Go.Proofs.Ytkmaebkfmljiiaa
open Go.RowKit

theorem unbeaten_mem (g : Int → Int → Bool) (zs : List Int) (z : Int) : z ∈ unbeaten g zs ↔ z ∈ zs ∧ beaten g zs z = false := by
  simp [unbeaten, List.mem_filter, simpZ_mem]

theorem unbeaten_asc (g : Int → Int → Bool) (zs : List Int) : Asc (unbeaten g zs) := List.Pairwise.filter _ (simpZ_asc zs)
theorem asc_ne {xs : List Int} (h : Asc xs) {i k : Nat} (hi : i < xs.length) (hk : k < xs.length) (hne : i ≠ k) : xs[i] ≠ xs[k] := by
  have h1 := List.pairwise_iff_getElem.1 h
  rcases Nat.lt_or_gt_of_ne hne with h2 | h2
  · have := h1 i k hi hk h2; omega
  · have := h1 k i hk hi h2; omega

theorem least_apart (zs : List Int) {i k : Nat} (hi : i < (unbeaten leG zs).length) (hk : k < (unbeaten leG zs).length) (hne : i ≠ k) : leG (unbeaten leG zs)[i] (unbeaten leG zs)[k] = false := by
  have h1 := (unbeaten_mem leG zs _).1 (List.getElem_mem hi)
  have h2 := (unbeaten_mem leG zs _).1 (List.getElem_mem hk)
  have h3 := asc_ne (unbeaten_asc leG zs) hi hk hne
  have h4 := List.any_eq_false.1 h2.2 _ h1.1
  simp only [beatBy, Bool.and_eq_true, bne_iff_ne, ne_eq, not_and, Bool.not_eq_true] at h4
  exact h4 h3

set_option maxRecDepth 100000 in
theorem leG_fin : ∀ o : Fin 64, ∀ z : Fin 64, leG (o.val : Int) (z.val : Int) = decide (o.val &&& z.val = o.val) := by decide +kernel

theorem leG_nat (o z : Nat) (ho : o < 64) (hz : z < 64) : leG (o : Int) (z : Int) = decide (o &&& z = o) := leG_fin ⟨o, ho⟩ ⟨z, hz⟩
theorem least_below (zs : List Int) (hz : ∀ z ∈ zs, 0 ≤ z ∧ z < 64) : ∀ (n : Nat) (z : Int), z.toNat = n → z ∈ zs → ∃ o ∈ unbeaten leG zs, leG o z = true := by
  intro n
  induction n using Nat.strongRecOn with
  | _ n ih =>
    intro z hn hm
    have hz1 := hz z hm
    obtain ⟨a, rfl⟩ : ∃ a : Nat, z = (a : Int) := ⟨z.toNat, by omega⟩
    cases hb : beaten leG zs (a : Int)
    · exact ⟨(a : Int), (unbeaten_mem leG zs _).2 ⟨hm, hb⟩, by rw [leG_nat a a (by omega) (by omega)]; simp⟩
    · obtain ⟨o, ho, hbo⟩ := List.any_eq_true.1 hb
      simp only [beatBy, Bool.and_eq_true, bne_iff_ne, ne_eq] at hbo
      have ho1 := hz o ho
      obtain ⟨b, rfl⟩ : ∃ b : Nat, o = (b : Int) := ⟨o.toNat, by omega⟩
      have hab := hbo.2
      rw [leG_nat b a (by omega) (by omega), decide_eq_true_eq] at hab
      have hle : b ≤ a := by rw [← hab]; exact Nat.and_le_right
      have hlt : b < a := by
        have : ¬ b = a := fun e => hbo.1 (by rw [e])
        omega
      obtain ⟨q, hq, hqb⟩ := ih b (by simp at hn; omega) (b : Int) (by simp) ho
      have hq1 := hz q ((unbeaten_mem leG zs _).1 hq).1
      obtain ⟨c, rfl⟩ : ∃ c : Nat, q = (c : Int) := ⟨q.toNat, by omega⟩
      refine ⟨(c : Int), hq, ?_⟩
      rw [leG_nat c b (by omega) (by omega), decide_eq_true_eq] at hqb
      rw [leG_nat c a (by omega) (by omega), decide_eq_true_eq, ← hqb, Nat.and_assoc, hab]

theorem least_under (zs : List Int) (hz : ∀ z ∈ zs, 0 ≤ z ∧ z < 64) (i : Nat) (hi : i < zs.length) : ∃ k, ∃ hk : k < (unbeaten leG zs).length, leG (unbeaten leG zs)[k] zs[i] = true := by
  obtain ⟨o, ho, h⟩ := least_below zs hz _ zs[i] rfl (List.getElem_mem hi)
  obtain ⟨k, hk, rfl⟩ := List.getElem_of_mem ho
  exact ⟨k, hk, h⟩

end Go.Proofs.Ytkmaebkfmljiiaa

/- It is proved how boxed families and lists are kept while the laws go on; conditions: those of each statement. -/
namespace Go.Proofs.Ytkmaebkfmljiiaa
open Go.RowKit

/-- A family in a box. -/
structure FB (X : Nat) (m : Int) (a : Option Addr) (zs : List Int) (c : Nat) (W : World) : Prop where
  blk : HasBlk W X #[.int .i64 m, .slice a zs.length c] 25
  ints : Ints W W.heap.size a zs

theorem FB.step {X : Nat} {m : Int} {a : Option Addr} {zs : List Int} {c : Nat} {W W' : World} (h : FB X m a zs c W) (hb : Below W.heap.size W W') : FB X m a zs c W' :=
  ⟨(hb.block X (lt_of_some h.blk)).trans h.blk, (h.ints.below hb).mono hb.size⟩

theorem FB.start {w : World} {m : Int} {a : Option Addr} {zs : List Int} {c : Nat} (h : Ints w w.heap.size a zs) : FB w.heap.size m a zs c (w.alloc (.cells #[.int .i64 m, .slice a zs.length c] 25)) :=
  ⟨alloc_new w _, (h.below (below1 w _)).mono (by simp)⟩

theorem FB.x0 {X : Nat} {m : Int} {a : Option Addr} {zs : List Int} {c : Nat} {W : World} (h : FB X m a zs c W) : W.cell? ⟨X, 0, none⟩ = some (.int .i64 m) := (blk_cell h.blk 0).trans (cell2_0 _ _)
theorem FB.x1 {X : Nat} {m : Int} {a : Option Addr} {zs : List Int} {c : Nat} {W : World} (h : FB X m a zs c W) : W.cell? ⟨X, 1, none⟩ = some (.slice a zs.length c) := (blk_cell h.blk 1).trans (cell2_1 _ _)
theorem Ints.step {W W' : World} {a : Option Addr} {zs : List Int} (h : Ints W W.heap.size a zs) (hb : Below W.heap.size W W') : Ints W' W'.heap.size a zs := (h.below hb).mono hb.size
theorem sameB_refl (zs : List Int) : sameB zs zs = true := by simp [sameB]
/-- A sum of small numbers. -/
theorem wrap_add {x y z : Int} (h : x + y = z) (h1 : -1000000000 ≤ z) (h2 : z ≤ 1000000000) : IntKind.i64.wrap (x + y) = z := by
  rw [h, IntKind.wrap_i64]; omega

end Go.Proofs.Ytkmaebkfmljiiaa
