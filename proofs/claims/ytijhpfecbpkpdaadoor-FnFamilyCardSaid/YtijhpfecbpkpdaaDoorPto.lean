/- It is proved what the laws' total returns, and what is drawn for FamilyIn; conditions: those of each statement. -/
import Derived.Test.YtijhpfecbpkpdaaDoorRows
import Derived.WalkKit
import Derived.WalkSpells
import Derived.ProofKit
import Derived.OpenShut
import Derived.ShutString
import Derived.ChangeOld
import Derived.Below
import Derived.Deep.RegionHeld3
import Derived.Deep.QuietTactic
import Derived.BigQuiet
import Derived.Lib.Hide
import Derived.Lib.SmallJoins
import Derived.Outline
import Derived.Laws.MakeOwn
import Derived.Laws.OwnMore
import Derived.IntWalk
import Derived.Deep.RegionLaw
import Derived.Deep.AppendLies
import Derived.Deep.RegionWith
import Derived.RangeFuncNested
import Derived.RangeFuncBound
import Derived.RangeFuncCalls
import Derived.RangeFuncLeaves
import Derived.RangeFuncBox
import Derived.Shelf.Abstract
import Derived.Shelf.RegionOpen
import Derived.OwnWalkIn
import Derived.TacticsInMore
import Derived.LoopNIn
import Derived.LoopIn
import Derived.Maps.AppendAt
import Derived.OwnWalk
import Derived.Shelf.Spec.TrailingZeros
import Derived.Test.YtijhpfecbpkpdaaDoorB
import Derived.Test.YtijhpfecbpkpdaaDoorC
import Derived.Test.YtijhpfecbpkpdaaDoorDa
import Derived.Test.YtijhpfecbpkpdaaDoorDb
import Derived.Test.YtijhpfecbpkpdaaDoorDc
import Derived.Test.YtijhpfecbpkpdaaDoorDd
import Derived.Test.YtijhpfecbpkpdaaDoorDk
import Derived.Test.YtijhpfecbpkpdaaDoorE
import Derived.Test.YtijhpfecbpkpdaaDoorF
import Derived.Test.YtijhpfecbpkpdaaDoorFb
import Derived.Test.YtijhpfecbpkpdaaDoorP
import Derived.Test.YtijhpfecbpkpdaaDoorSa
import Derived.Test.YtijhpfecbpkpdaaDoorZa
namespace Go.Proofs.YtijhpfecbpkpdaaDoor
open Go.RowKit

set_option maxRecDepth 100000 in
set_option maxHeartbeats 400000 in
theorem total_any (a : Option Addr) (c : Nat) (zs : List Int) (w : World) (ha : Ints w w.heap.size a zs) (hx : zs.length ≤ 1000) (hz : ∀ z ∈ zs, 0 ≤ z ∧ z ≤ 1000) :
    Calls Tryd.prog 19 #[.slice a zs.length c] w fun e w' => e = .returned (.int .i64 zs.sum) ∧ Below w.heap.size w w' := by
  obtain ⟨n, hn⟩ : ∃ n, n = zs.length := ⟨_, rfl⟩
  have HN := Lib.hid hn
  rw [← hn] at hx ⊢
  have HZ := Lib.hid hz
  clear hn hz
  go_enter Tryd.func19, Tryd.ntmps19
  go_wp2
  go_loop [3, 4] (fun s i => ∃ (k : Nat) (t : Int), k ≤ n ∧ i = .int .i64 (k : Int) ∧ s = .int .i64 t ∧ t = (zs.take k).sum ∧ 0 ≤ t ∧ t ≤ 1000 * (k : Int)) (fun _ i => n - (intOf i).toNat)
  case atStart => exact ⟨0, 0, Nat.zero_le _, rfl, rfl, by simp, by omega, by omega⟩
  case round =>
    obtain ⟨k, t, hk, rfl, rfl, ht, h0, h1⟩ := hrel
    have HT := Lib.hid ht
    clear ht
    by_cases hlt : k < n
    · obtain ⟨b, off, rfl, hb, hc⟩ := ha.at_ (k := k) (by rw [← HN.out]; exact hlt)
      have hkz : k < zs.length := by rw [← HN.out]; exact hlt
      have hzz := HZ.out zs[k] (List.getElem_mem hkz)
      obtain ⟨z, hz⟩ : ∃ z, z = zs[k]?.getD 0 := ⟨_, rfl⟩
      have ez : zs[k] = z := by rw [hz]; simp [hkz]
      rw [← hz] at hc
      rw [ez] at hzz
      obtain ⟨z0, z1⟩ := hzz
      have HS : Hid ((zs.take (k + 1)).sum = t + z) := Lib.hid (by rw [List.take_succ_eq_append_getElem hkz, List.sum_append, ← HT.out, ez]; simp)
      clear hz ez
      go_wp2
      go_round
      case rel => exact ⟨k + 1, t + z, by omega, by go_num, rfl, HS.out.symm, by omega, by omega⟩
      case measure => simp [intOf]; omega
    · have HS : Hid (t = zs.sum) := Lib.hid (by rw [HT.out, List.take_of_length_le (by have := HN.out; omega)])
      go_wp2
      go_ret
      exact ⟨ret_int HS.out, Below.refl _ _⟩

/-- A family of the call's own, ten clubs at most. -/
def DrawnTen (w : World) (e : Ending) (W : World) : Prop :=
  ∃ (m : Int) (a : Option Addr) (zs : List Int) (c : Nat), e = .returned (.agg #[.int .i64 m, .slice a zs.length c]) ∧ zs.length ≤ 10 ∧ OwnI W w.heap.size (.slice a zs.length c) zs ∧ Below w.heap.size w W

set_option maxRecDepth 100000 in
set_option maxHeartbeats 4000000 in
theorem drawIn_any (a : Option Addr) (n cap : Nat) (w : World) (hb : Bys w w.heap.size a n) (hn : n ≤ 1048576) (hc : n ≤ cap) (hc2 : cap ≤ 9223372036854775807) :
    Calls Tryd.prog 14 #[.slice a n cap] w (DrawnTen w) := by
  have ha : n ≠ 0 → ∃ g off, a = some ⟨g, off, none⟩ := fun h => by obtain ⟨g, off, e, _⟩ := hb.resolve_left h; exact ⟨g, off, e⟩
  have HB := Lib.hid hb
  clear hb
  go_enter Tryd.func14, Tryd.ntmps14
  go_wp2_with fail
  refine (openD_any a n cap _ hn hc hc2 ha).mono ?_
  rintro e w1 ⟨k, hk, rfl, rfl⟩
  have b1 := below2 w (.cells #[.int .i64 0, .slice none 0 0] 25) (.cells #[.slice a k cap, .int .i64 0] 93)
  have HD1 : Hid (DS ((w.alloc (.cells #[.int .i64 0, .slice none 0 0] 25)).alloc (.cells #[.slice a k cap, .int .i64 0] 93)) (w.heap.size + 1) a k cap 0 ((w.alloc (.cells #[.int .i64 0, .slice none 0 0] 25)).alloc (.cells #[.slice a k cap, .int .i64 0] 93))) := Lib.hid ⟨⟨0, Nat.le_refl _, alloc2_1 w _ _⟩, World.grownBy.refl _ _⟩
  have HB1 := Lib.hid ((HB.out.below b1).fewer (B' := w.heap.size + 1) (by omega) hk)
  have HX : Hid (HasBlk ((w.alloc (.cells #[.int .i64 0, .slice none 0 0] 25)).alloc (.cells #[.slice a k cap, .int .i64 0] 93)) w.heap.size #[.int .i64 0, .slice none 0 0] 25) := Lib.hid (alloc2_0 w _ _)
  have HBL := Lib.hid b1
  clear b1
  go_wp2_with fail
  refine (someD_any 6 9 6 9 rfl rfl (by decide) (by decide) (by decide) (w.heap.size + 1) a k cap 0 _ HD1.out HB1.out (by simp) (by omega) (by omega)).mono ?_
  rintro e w2 ⟨m, a2, zs, c2, rfl, ⟨hl, -, -⟩, ho, D2⟩
  have q0 : HasBlk w2 w.heap.size #[.int .i64 0, .slice none 0 0] 25 := HX.out.kept D2.gr (by simp)
  have hs2 : w.heap.size + 1 < w2.heap.size := by have := D2.gr.size; simp at this; omega
  have HRd : Hid (∃ p, p ≤ 200 ∧ Rd w2 (w.heap.size + 1) a k cap p) := Lib.hid (by obtain ⟨p, hp, h⟩ := D2.rd; exact ⟨p, by omega, h⟩)
  have HBy2 : Hid (Bys w2 (w.heap.size + 1) a k) := Lib.hid (HB1.out.kept (by simp) D2.gr)
  have HO : Hid (OwnI w2 (w.heap.size + 2) (.slice a2 zs.length c2) zs) := Lib.hid (own_mono ho (by simp))
  have hgb : ∀ g, (Value.slice a2 zs.length c2).ownBlock = some g → g < w2.heap.size := fun g e => (World.ownsRow.lt ho g e).2
  have HBW := Lib.hid (HBL.out.trans ((Below.refl w.heap.size _).grown D2.gr (by simp; omega) (fun g e => by injection e; omega)))
  have HD3 : Hid (DS (w2.alloc (.cells #[.int .i64 m, .slice a2 zs.length c2] 25)) (w.heap.size + 1) a k cap 200 (w2.alloc (.cells #[.int .i64 m, .slice a2 zs.length c2] 25))) := Lib.hid (by obtain ⟨p, hp, h⟩ := HRd.out; exact ⟨⟨p, hp, HasBlk.alloc h _⟩, World.grownBy.refl _ _⟩)
  have HBy3 : Hid (Bys (w2.alloc (.cells #[.int .i64 m, .slice a2 zs.length c2] 25)) (w.heap.size + 1) a k) := Lib.hid (HBy2.out.below ((below1 w2 _).mono (by omega)))
  have HX3 : Hid (HasBlk (w2.alloc (.cells #[.int .i64 m, .slice a2 zs.length c2] 25)) w2.heap.size #[.int .i64 m, .slice a2 zs.length c2] 25) := Lib.hid (alloc_new w2 _)
  have HQ3 : Hid (HasBlk (w2.alloc (.cells #[.int .i64 m, .slice a2 zs.length c2] 25)) w.heap.size #[.int .i64 0, .slice none 0 0] 25) := Lib.hid (HasBlk.alloc q0 _)
  have HO3 : Hid (OwnI (w2.alloc (.cells #[.int .i64 m, .slice a2 zs.length c2] 25)) (w.heap.size + 2) (.slice a2 zs.length c2) zs) := Lib.hid (World.ownsRow.alloc HO.out _)
  have HB3 := Lib.hid (HBW.out.trans ((below1 w2 (.cells #[.int .i64 m, .slice a2 zs.length c2] 25)).mono HBW.out.size))
  have hR3 : w.heap.size + 1 < (w2.alloc (.cells #[.int .i64 m, .slice a2 zs.length c2] 25)).heap.size := by simp; omega
  clear ho D2 q0 HX HD1 HB1 HBL HRd HBy2 HO HBW
  go_wp2_with fail
  refine (pickX HD3.out HBy3.out hR3 (by omega) (by omega) _).mono ?_
  rintro e w4 ⟨r4, rfl, h4, D4, g4⟩
  have q4 := blk_grown HX3.out g4 (by omega)
  have p4 := HasBlk.kept HQ3.out g4 (fun e => by injection e; omega)
  have hs4 : w2.heap.size < w4.heap.size := lt_of_some q4
  have x0 := (blk_cell q4 0).trans (cell2_0 _ _)
  have x1 := (blk_cell q4 1).trans (cell2_1 _ _)
  have xf := blk_frozen q4 0
  have d0 := (blk_cell p4 0).trans (cell2_0 _ _)
  have d1 := (blk_cell p4 1).trans (cell2_1 _ _)
  have e0 := blk_frozen p4 0
  have e1 := blk_frozen p4 1
  have HO4 : Hid (OwnI w4 (w.heap.size + 2) (.slice a2 zs.length c2) zs) := Lib.hid (own_grown HO3.out g4 (by omega))
  have HB4 := Lib.hid (HB3.out.trans ((Below.refl w.heap.size _).grown g4 (by have := HB3.out.size; omega) (fun g e => by injection e; omega)))
  have hne : (Value.slice a2 zs.length c2).ownBlock ≠ some w2.heap.size := by
    intro e
    have := hgb _ e
    omega
  have HNE := Lib.hid hne
  clear hne hgb D4 g4 q4 p4 HD3 HBy3 HX3 HQ3 HO3 HB3 h4
  by_cases hr : r4 = 0
  · subst hr
    go_wp2
    refine bodyPost_ret (v := .agg #[.int .i64 7, .slice a2 zs.length c2]) (by simp [results, Tryd.results14, go_sem, d0, d1]) rfl ?_
    refine ⟨7, a2, zs, c2, rfl, by omega, ?_, ?_⟩
    · exact own_mono (ownsRow_setCell_below (ownsRow_setCell_below (ownsRow_setCell_ne (p := ⟨w2.heap.size, 0, none⟩) HO4.out HNE.out _) (a := ⟨w.heap.size, 0, none⟩) (show w.heap.size < w.heap.size + 2 by omega) _) (a := ⟨w.heap.size, 1, none⟩) (show w.heap.size < w.heap.size + 2 by omega) _) (by omega)
    · exact ((HB4.out.setCell (p := ⟨w2.heap.size, 0, none⟩) (by show w.heap.size ≤ w2.heap.size; omega) _).setCell (p := ⟨w.heap.size, 0, none⟩) (Nat.le_refl _) _).setCell (p := ⟨w.heap.size, 1, none⟩) (Nat.le_refl _) _
  · have hr2 : ((r4 : Int) == 0) = false := by simp; omega
    go_wp2
    refine bodyPost_ret (v := .agg #[.int .i64 m, .slice a2 zs.length c2]) (by simp [results, Tryd.results14, go_sem, d0, d1]) rfl ?_
    refine ⟨m, a2, zs, c2, rfl, by omega, ?_, ?_⟩
    · exact own_mono (ownsRow_setCell_below (ownsRow_setCell_below HO4.out (a := ⟨w.heap.size, 0, none⟩) (show w.heap.size < w.heap.size + 2 by omega) _) (a := ⟨w.heap.size, 1, none⟩) (show w.heap.size < w.heap.size + 2 by omega) _) (by omega)
    · exact (HB4.out.setCell (p := ⟨w.heap.size, 0, none⟩) (Nat.le_refl _) _).setCell (p := ⟨w.heap.size, 1, none⟩) (Nat.le_refl _) _

end Go.Proofs.YtijhpfecbpkpdaaDoor
