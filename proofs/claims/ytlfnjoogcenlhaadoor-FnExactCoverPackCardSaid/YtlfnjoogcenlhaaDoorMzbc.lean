/- It is proved what CoverPack of the reference model returns; conditions: those of each statement. -/
import Derived.RowKit
import Derived.Laws.CopyRow
import Derived.Lib.SlBuf
import Derived.Deep.QuietTactic
import Derived.RangeFuncNested
import Derived.RangeFuncBound
import Derived.RangeFuncCalls
import Derived.RangeFuncLeaves
import Derived.RangeFuncBox
import Derived.RangeFuncWrites
import Derived.StillTailTactics
import Derived.Maps.OwnIn
import Derived.Maps.Ext
import Derived.DeepKeys4
import Derived.MapKept
import Derived.Test.YtlfnjoogcenlhaaDoorRows
import Derived.WalkKit
import Derived.WalkSpells
import Derived.ProofKit
import Derived.OpenShut
import Derived.ShutString
import Derived.ChangeOld
import Derived.Below
import Derived.Deep.RegionHeld3
import Derived.BigQuiet
import Derived.Lib.Hide
import Derived.Lib.SmallJoins
import Derived.Outline
import Derived.Laws.MakeOwn
import Derived.Laws.OwnMore
import Derived.IntWalk
import Derived.Lib.AppendZeros
import Derived.Maps.AppendAt
import Derived.Deep.AppendLies
import Derived.OwnWalk
import Derived.Lib.SlicesCompact
import Derived.Lib.OwnBridge
import Derived.OrdersIn
import Derived.TacticsIn
import Derived.Shelf.Sort.Plain
import Derived.Shelf.Slices.In.SortNone
import Derived.Shelf.Slices.CompactI
import Derived.Ground.Names2Prog
import Derived.Lib.SliceRun
import Derived.Shelf.Abstract
import Derived.Shelf.RegionOpen
import Derived.OwnWalkIn
import Derived.TacticsInMore
import Derived.LoopNIn
import Derived.LoopIn
import Derived.StillTail
import Derived.StillTactics
import Derived.Shelf.Spec.TrailingZeros
import Derived.Test.YtlfnjoogcenlhaaDoorMzaa
import Derived.Test.YtlfnjoogcenlhaaDoorMzab
import Derived.Test.YtlfnjoogcenlhaaDoorMzat
import Derived.Test.YtlfnjoogcenlhaaDoorMzad
import Derived.Test.YtlfnjoogcenlhaaDoorMzan
import Derived.Test.YtlfnjoogcenlhaaDoorMzae
import Derived.Test.YtlfnjoogcenlhaaDoorMzas
import Derived.Test.YtlfnjoogcenlhaaDoorKs
import Derived.Test.YtlfnjoogcenlhaaDoorMzac
import Derived.Test.YtlfnjoogcenlhaaDoorMzao
import Derived.Test.YtlfnjoogcenlhaaDoorMzaf
import Derived.Lib.LaidTab
import Derived.LaidMore
import Derived.Stop.Joined
namespace Go.Proofs.YtlfnjoogcenlhaaDoor
open Go.RowKit

set_option maxRecDepth 100000 in
set_option maxHeartbeats 4000000 in
theorem l4Pack_any (a : Option Addr) (c : Nat) (zs : List Int) (w : World) (ha : Ints w w.heap.size a zs) (hx : zs.length ≤ 8) (hz : ∀ z ∈ zs, 0 ≤ z ∧ z.toNat < 64) :
    ∀ (rs : List Int) (p : Nat), rs = zs.drop p → p ≤ zs.length → ∀ (u : Nat), u < 64 →
    Calls Tryd.prog 43 #[.slice a zs.length c, .int .i64 (p : Int), .int .i64 (u : Int)] w fun e w' => e = .returned (.int .i64 ((packM rs u : Nat) : Int)) ∧ w = w'
  | [], p, hrs, hp, u, hu => by
    have hpn : p = zs.length := by
      have := congrArg List.length hrs
      rw [List.length_drop] at this
      simp at this; omega
    obtain ⟨n, hn⟩ : ∃ n, n = zs.length := ⟨_, rfl⟩
    rw [← hn] at hpn ⊢
    have hpI : ((p : Int) == (n : Int)) = true := by rw [beq_iff_eq]; omega
    clear hpn hn hrs
    go_enter Tryd.func43, Tryd.ntmps43
    go_wp2
    go_ret
    exact ⟨rfl, rfl⟩
  | z :: rs, p, hrs, hp, u, hu => by
    have hlt : p < zs.length := by
      have := congrArg List.length hrs
      rw [List.length_drop, List.length_cons] at this
      omega
    have hzp : zs[p]?.getD 0 = z := by
      have := congrArg (fun l : List Int => l[0]?.getD 0) hrs
      simp at this
      simp [this]
    have hrs2 : rs = zs.drop (p + 1) := by
      have := congrArg List.tail hrs
      simpa using this
    have hin : z ∈ zs := by rw [← hzp, List.getElem?_eq_getElem hlt]; exact List.getElem_mem _
    obtain ⟨hz0, hz6⟩ := hz z hin
    obtain ⟨y, rfl⟩ : ∃ y : Nat, z = (y : Int) := ⟨z.toNat, by omega⟩
    rw [Int.toNat_natCast] at hz6
    have I1 := Lib.hid (l4Pack_any a c zs w ha hx hz rs (p + 1) hrs2 (by omega) u hu)
    have hor : u ||| y < 64 := Nat.or_lt_two_pow (n := 6) hu hz6
    have HOR := or6_at u y hu hz6
    have hpm : packM ((y : Int) :: rs) u = if y &&& u = 0 then max (packM rs u) (1 + packM rs (u ||| y)) else packM rs u := by rw [packM, Int.toNat_natCast]
    obtain ⟨v, hv⟩ : ∃ v, v = u ||| y := ⟨_, rfl⟩
    rw [← hv] at hor HOR hpm
    have I2 := Lib.hid (l4Pack_any a c zs w ha hx hz rs (p + 1) hrs2 (by omega) v hor)
    have HAND := and6_at y u hz6 hu
    obtain ⟨t, ht⟩ : ∃ t, t = y &&& u := ⟨_, rfl⟩
    rw [← ht] at HAND hpm
    obtain ⟨b1, o1, rfl, hb1, hc1⟩ := ha.at_ hlt
    rw [hzp] at hc1
    have HPM := Lib.hid hpm
    have HL1 : Hid (packM rs u ≤ 8 ∧ packM rs v ≤ 8) := Lib.hid (by
      have h1 := packM_le rs u
      have h2 := packM_le rs v
      have := congrArg List.length hrs2
      rw [List.length_drop] at this
      omega)
    obtain ⟨P1, hP1⟩ : ∃ P1, P1 = packM rs u := ⟨_, rfl⟩
    obtain ⟨P2, hP2⟩ : ∃ P2, P2 = packM rs v := ⟨_, rfl⟩
    rw [← hP1] at I1 HPM HL1
    rw [← hP2] at I2 HPM HL1
    obtain ⟨hP18, hP28⟩ := HL1.out
    obtain ⟨n, hn⟩ : ∃ n, n = zs.length := ⟨_, rfl⟩
    rw [← hn] at I1 I2 ⊢
    have hpI : ((p : Int) == (n : Int)) = false := by rw [beq_eq_false_iff_ne]; omega
    have hpI2 : (p : Int) < (n : Int) := by omega
    have hn8 : (n : Int) ≤ 8 := by omega
    rw [show ((p + 1 : Nat) : Int) = (p : Int) + 1 by omega] at I1 I2
    clear hrs hrs2 hin hzp hz hP1 hP2 hn ha hz0 hv ht hpm
    by_cases h0 : t = 0
    · have HE : Hid (packM ((y : Int) :: rs) u = max P1 (1 + P2)) := Lib.hid (by rw [HPM.out, if_pos h0])
      rw [h0] at HAND
      clear h0
      go_enter Tryd.func43, Tryd.ntmps43
      go_wp2_with fail
      refine I1.out.mono ?_
      rintro e w' ⟨rfl, rfl⟩
      go_wp2_with fail
      refine I2.out.mono ?_
      rintro e w' ⟨rfl, rfl⟩
      have hP2I : (1 : Int) + (P2 : Int) ≤ 100 := by omega
      have HMX : Hid ((max (P1 : Int) (1 + (P2 : Int))) = ((max P1 (1 + P2) : Nat) : Int)) := Lib.hid (by omega)
      go_wp2
      go_ret
      exact ⟨by rw [HE.out, ← HMX.out]; rfl, rfl⟩
    · have HE : Hid (packM ((y : Int) :: rs) u = P1) := Lib.hid (by rw [HPM.out, if_neg h0])
      have h0I : ((t : Int) == 0) = false := by rw [beq_eq_false_iff_ne]; omega
      clear h0
      go_enter Tryd.func43, Tryd.ntmps43
      go_wp2_with fail
      refine I1.out.mono ?_
      rintro e w' ⟨rfl, rfl⟩
      go_wp2
      go_ret
      exact ⟨by rw [HE.out]; rfl, rfl⟩

set_option maxRecDepth 100000 in
theorem specCoverPack_any (m : Int) (a : Option Addr) (c : Nat) (zs : List Int) (w : World) (ha : Ints w w.heap.size a zs) (hx : zs.length ≤ 1048576) :
    Calls Tryd.prog 26 #[.agg #[.int .i64 m, .slice a zs.length c]] w (RetIB w (packZ m zs) (famIn m zs)) := by
  have HB0 := Lib.hid (below1 w (.cells #[.int .i64 m, .slice a zs.length c] 28))
  have HA := Lib.hid (ha.below HB0.out)
  clear ha
  cases hf : famIn m zs
  · have HF := Lib.hid hf
    have HZ : Hid (packZ m zs = 0) := Lib.hid (by unfold packZ; rw [hf]; rfl)
    clear hf
    go_enter Tryd.func26, Tryd.ntmps26
    go_wp2_with fail
    refine (specFamilyIn_any _ _ _ zs _ (HA.out.mono (by simp)) hx).mono ?_
    rintro e w1 ⟨rfl, hb⟩
    rw [HF.out]
    have HB := Lib.hid (HB0.out.trans (hb.mono (by simp)))
    clear hb
    go_wp2
    go_ret2
    exact ⟨by rw [HZ.out]; rfl, HB.out⟩
  · have HF := Lib.hid hf
    obtain ⟨k, rfl, hk1, hk6, hset, hl8⟩ := fam_nat2 hf
    have HZ : Hid (packZ (k : Int) zs = ((packM zs 0 : Nat) : Int)) := Lib.hid (by unfold packZ; rw [hf]; rfl)
    clear hf
    go_enter Tryd.func26, Tryd.ntmps26
    go_wp2_with fail
    refine (specFamilyIn_any _ _ _ zs _ (HA.out.mono (by simp)) hx).mono ?_
    rintro e w1 ⟨rfl, hb⟩
    rw [HF.out]
    have b0 : w1.heap[w.heap.size]? = some (.cells #[.int .i64 (k : Int), .slice a zs.length c] 28 (0, 0)) := (hb.block _ (by simp)).trans (alloc_new w _)
    have x0 := (blk_cell b0 0).trans (cell2_0 _ _)
    have x1 := (blk_cell b0 1).trans (cell2_1 _ _)
    have z1 : w.heap.size < w1.heap.size := lt_of_some b0
    have HC := Lib.hid (l4Pack_any a c zs w1 ((HA.out.below (hb.mono (by simp))).mono (by omega)) hl8 (fun z h => ⟨(hset z h).1, p64 hk6 (hset z h).2⟩) zs 0 rfl (Nat.zero_le _) 0 (by decide))
    have HB := Lib.hid (HB0.out.trans (hb.mono (by simp)))
    clear hb b0
    go_wp2_with fail
    refine HC.out.mono ?_
    rintro e w2 ⟨rfl, rfl⟩
    go_wp2
    go_ret2
    exact ⟨by rw [HZ.out]; rfl, HB.out⟩

end Go.Proofs.YtlfnjoogcenlhaaDoor

/- It is proved how a Family among a law's arguments reads as a number and a list of ints; conditions: none but that the argument can be read. -/
namespace Go.Proofs.YtlfnjoogcenlhaaDoor
open Go.ChangeShapes Go.WideShapes Go.ChangeAt Go.RowKit Go.Joins
open Go.ChangeMaps (open_string shut_string)

theorem Tryd.own : ownKnob Tryd.prog.godebug = none := by kernel_rfl
theorem Tryd.laidOut : laidOutB Tryd.prog = true := by kernel_rfl
theorem Tryd.cells24 : Tryd.prog.cellsOf 24 = 2 := by kernel_rfl
theorem Tryd.cells3 : Tryd.prog.cellsOf 3 = 1 := by kernel_rfl
theorem Tryd.cells22 : Tryd.prog.cellsOf 22 = 1 := by kernel_rfl
theorem ints_of_row {W : World} {x : Addr} {l c : Nat} {zs : List Int} (hl : l ≤ c) (hz : zs.length = c)
    (hcell : ∀ i, i < zs.length → W.cell? (x.add i) = some (.int .i64 (zs.getD i 0))) : Ints W W.heap.size (some x) (zs.take l) := by
  by_cases h0 : l = 0
  · subst h0; exact .inl (by simp)
  · obtain ⟨b, off, spot⟩ := x
    have hc := hcell 0 (by omega)
    have hspot : spot = none := by simpa [Addr.add] using World.cell?_spot hc
    subst hspot
    refine .inr ⟨b, off, rfl, by simpa [Addr.add] using World.block_lt_of_cell? W _ hc, fun j hj => ?_⟩
    have hj' : j < l := by simp at hj; omega
    have := hcell j (by omega)
    rw [show (⟨b, off, none⟩ : Addr).add j = ⟨b, off + j, none⟩ from by unfold Addr.add; split <;> simp_all] at this
    rw [this]
    simp [List.getD, hj']

set_option maxRecDepth 100000 in
theorem open_family {H : Type} {enc : TypeId × Value → H} {W : World} {base : Nat} {v : Value} {d : DataW H} {p : List MemPlace}
    (hv : Value.okWide Tryd.prog W .any base 24 v) (h : DataW.Trod enc Tryd.prog W 0 (fun _ => true) true 24 v d p) :
    ∃ m a cap, ∃ zs : List Int, v = .agg #[.int .i64 m, .slice a zs.length cap] ∧ zs.length ≤ maxLen ∧ Ints W W.heap.size a zs := by
  obtain ⟨c0, c1, y0, y1, n, rfl, rfl, rfl, hy0, hy1⟩ := open_agg2 Tryd.underlying24 (by kernel_rfl) Tryd.cells24 hv h
  obtain ⟨m, e0, rfl, wm⟩ := DataW.trod_int Tryd.underlying3 hy0
  simp at e0
  subst e0
  rcases open_ints Tryd.underlying22 Tryd.underlying3 Tryd.cells3 hy1 with ⟨hcs, _⟩ | ⟨x, l, c, zs, hcs, _, hl, hm, hz, hx, hcell, hwz⟩
  · simp at hcs
    subst hcs
    exact ⟨m, none, 0, [], rfl, by simp [maxLen], .inl rfl⟩
  · simp at hcs
    subst hcs
    have hlen : (zs.take l).length = l := by rw [List.length_take]; simp at hz; omega
    refine ⟨m, some x, c, zs.take l, by rw [hlen], by rw [hlen]; omega, ints_of_row hl (by simpa using hz) hcell⟩

end Go.Proofs.YtlfnjoogcenlhaaDoor

/- It is proved that what a row lists of the library's tables is what the walks ask of them; conditions: none but the row's. -/
namespace Go.Proofs.YtlfnjoogcenlhaaDoor
open Go.ChangeShapes Go.WideShapes Go.ChangeAt Go.RowKit Go.Joins

def laidL : List (String × DataW Unit) := [("math/bits.deBruijn32tab", Rows.laid_math_bits_deBruijn32tab), ("math/bits.deBruijn64tab", Rows.laid_math_bits_deBruijn64tab)]
theorem Tryd.g0 : Tryd.prog.globalNamed "math/bits.deBruijn32tab" = some 0 := by kernel_rfl
theorem Tryd.g1 : Tryd.prog.globalNamed "math/bits.deBruijn64tab" = some 1 := by kernel_rfl
theorem Tryd.tg0 : (Tryd.prog.globals[0]?).map (·.type) = some 85 := by kernel_rfl
theorem Tryd.tg1 : (Tryd.prog.globals[1]?).map (·.type) = some 86 := by kernel_rfl
theorem tab_is : (Rows.laid_math_bits_deBruijn64tab : DataW Unit) = Lib.tabData .u8 (Lib.deBruijn64tab.map fun (n : Nat) => (n : Int)) := rfl
/-- The door's own heap meets the condition: closed facts. -/
theorem door_met (os : Os) (args : Array Value) : laidMetH Tryd.prog laidL ((World.doorLaid Tryd.prog 40 os).forCall (fun _ _ => 0) ⟨#[], args, []⟩).memory :=
  laidMetH_of_parts3 (fuel := 8) (laidMet_of_run' 8 (by kernel_rfl) (by kernel_rfl)) (by kernel_rfl) (by kernel_rfl)

set_option maxRecDepth 100000 in
theorem tab_of_laid {W : World} (h : laidMetH Tryd.prog laidL W) : Tab W := by
  rw [MakeChecks.laidMetH_plain _ _ _ (by kernel_rfl)] at h
  obtain ⟨ps, ⟨g0, t0, cs0, f0, p0, q0, hg0, ht0, hv0, hd0, ⟨g1, t1, cs1, f1, p1, q1, hg1, ht1, hv1, hd1, _, _⟩, _⟩, _, _⟩ := h
  obtain rfl := Option.some.inj (Tryd.g1.symm.trans hg1)
  obtain rfl := Option.some.inj (Tryd.tg1.symm.trans ht1)
  rw [tab_is] at hd1
  have hcs := Lib.cells_of_tab (n := 64) (e := 5) Tryd.underlying86 Tryd.underlying5 (by kernel_rfl) (by kernel_rfl) hd1
  intro j hj
  have h1 := World.var?_cell hg1 hv1 j
  rw [h1, ← Array.getElem?_toList, hcs]
  simp [List.getD, hj]

end Go.Proofs.YtlfnjoogcenlhaaDoor
