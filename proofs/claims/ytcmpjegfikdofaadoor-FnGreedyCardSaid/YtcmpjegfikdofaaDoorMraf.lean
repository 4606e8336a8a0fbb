/- It is proved what eqFamily and the FamilyIn of the program return; conditions: the bounds in each statement. -/
import Derived.Test.YtcmpjegfikdofaaDoorRows
import Derived.WalkKit
import Derived.WalkSpells
import Derived.ProofKit
import Derived.OpenShut
import Derived.ShutString
import Derived.ChangeOld
import Derived.Below
import Derived.Deep.RegionHeld3
import Derived.Deep.QuietTactic
import Derived.BigQuiet
import Derived.Lib.Hide
import Derived.Lib.SmallJoins
import Derived.Outline
import Derived.Laws.MakeOwn
import Derived.Laws.OwnMore
import Derived.IntWalk
import Derived.Test.YtcmpjegfikdofaaDoorMraa
import Derived.Test.YtcmpjegfikdofaaDoorMrae
import Derived.Deep.RegionLaw
import Derived.Deep.AppendLies
import Derived.RangeFuncNested
import Derived.RangeFuncBound
import Derived.RangeFuncCalls
import Derived.RangeFuncLeaves
import Derived.RangeFuncBox
import Derived.Shelf.Abstract
import Derived.Shelf.RegionOpen
import Derived.OwnWalkIn
import Derived.TacticsInMore
import Derived.LoopNIn
import Derived.LoopIn
import Derived.Maps.AppendAt
import Derived.OwnWalk
import Derived.Shelf.Spec.TrailingZeros
import Derived.Test.YtcmpjegfikdofaaDoorMrac
import Derived.Test.YtcmpjegfikdofaaDoorDb
import Derived.Test.YtcmpjegfikdofaaDoorMrab
namespace Go.Proofs.YtcmpjegfikdofaaDoor
open Go.RowKit

def sameF (m : Int) (xs : List Int) (k : Int) (ys : List Int) : Bool := decide (m = k) && sameB xs ys
theorem sameF_self (m : Int) (xs : List Int) : sameF m xs m xs = true := by simp [sameF, sameB]
theorem below2 (w : World) (o o' : Obj) : Below w.heap.size w ((w.alloc o).alloc o') := ((Below.refl _ _).alloc (Nat.le_refl _) o).alloc (by simp) o'
theorem below1 (w : World) (o : Obj) : Below w.heap.size w (w.alloc o) := (Below.refl _ _).alloc (Nat.le_refl _) o
set_option maxRecDepth 100000 in
set_option maxHeartbeats 400000 in
theorem eqFamily_any (m k : Int) (a b : Option Addr) (ca cb : Nat) (xs ys : List Int) (w : World) (ha : Ints w w.heap.size a xs) (hb : Ints w w.heap.size b ys) (hx : xs.length ≤ 1048576) (hy : ys.length ≤ 1048576) :
    Calls Tryd.prog 40 #[.agg #[.int .i64 m, .slice a xs.length ca], .agg #[.int .i64 k, .slice b ys.length cb]] w fun e w' => e = .returned (.bool (sameF m xs k ys)) ∧ Below w.heap.size w w' := by
  have HB := Lib.hid (below2 w (.cells #[.int .i64 m, .slice a xs.length ca] 25) (.cells #[.int .i64 k, .slice b ys.length cb] 25))
  by_cases h : m = k
  · subst h
    have H1 : Hid (sameF m xs m ys = sameB xs ys) := Lib.hid (by simp [sameF])
    cases hs : sameB xs ys
    all_goals
      have HS := Lib.hid hs
      clear hs
      go_enter Tryd.func40, Tryd.ntmps40
      go_wp2_with (go_at_call 39; refine (eqIntS_any _ _ _ _ xs ys _ ((ha.below HB.out).mono (by simp; omega)) ((hb.below HB.out).mono (by simp; omega)) hx hy).mono ?_; rintro e w1 ⟨rfl, hb1⟩; rw [HS.out])
      go_ret
      exact ⟨by rw [H1.out, HS.out]; rfl, HB.out.trans (hb1.mono (by simp; omega))⟩
  · have H1 : Hid (sameF m xs k ys = false) := Lib.hid (by simp [sameF, h])
    have hn : (m != k) = true := by rw [bne_iff_ne]; exact h
    clear h
    go_enter Tryd.func40, Tryd.ntmps40
    go_wp2
    go_ret
    exact ⟨by rw [H1.out]; rfl, HB.out⟩

set_option maxRecDepth 100000 in
set_option maxHeartbeats 400000 in
theorem implFamilyIn_any (m : Int) (a : Option Addr) (c : Nat) (zs : List Int) (w : World) (ha : Ints w w.heap.size a zs) (hx : zs.length ≤ 1048576) :
    Calls Tryd.prog 50 #[.agg #[.int .i64 m, .slice a zs.length c]] w fun e w' => e = .returned (.bool (famIn m zs)) ∧ Below w.heap.size w w' := by
  obtain ⟨n, hn⟩ : ∃ n, n = zs.length := ⟨_, rfl⟩
  have HN : Hid (n = zs.length) := Lib.hid hn
  rw [← hn]
  rw [← hn] at hx
  have HB := Lib.hid (below1 w (.cells #[.int .i64 m, .slice a n c] 25))
  by_cases h1 : 1 ≤ m
  · by_cases h2 : m ≤ 6
    · by_cases h3 : n ≤ 8
      · clear hn
        go_enter Tryd.func50, Tryd.ntmps50
        go_wp2
        go_loop [4, 22] (fun s i => ∃ k : Nat, k ≤ n ∧ i = .int .i64 k ∧ (∀ j, j < k → inB (zs[j]?.getD 0) 0 (fullI m) = true)) (fun _ i => n - (intOf i).toNat)
        case atStart => exact ⟨0, Nat.zero_le _, rfl, fun j hj => by omega⟩
        case round =>
          obtain ⟨k, hk, rfl, he⟩ := hrel
          by_cases hlt : k < n
          · obtain ⟨b1, o1, rfl, hb1, hc1⟩ := ha.at_ (k := k) (by rw [← HN.out]; exact hlt)
            have c1 := (HB.out.cell (p := ⟨b1, o1 + k, none⟩) hb1).trans hc1
            have HE := Lib.hid he
            clear he hc1
            cases hs : inB (zs[k]?.getD 0) 0 (fullI m)
            · have HS := Lib.hid hs
              have HF : Hid (famIn m zs = false) := Lib.hid (famIn_z (by rw [← HN.out]; exact hlt) hs)
              clear hs
              go_wp2_with (go_at_call 65; refine (setIn_any _ _ _ h1 h2).mono ?_; rintro e w' ⟨rfl, rfl⟩; rw [HS.out])
              go_ret
              exact ⟨by rw [HF.out]; rfl, HB.out⟩
            · have HS := Lib.hid hs
              clear hs
              go_wp2_with (go_at_call 65; refine (setIn_any _ _ _ h1 h2).mono ?_; rintro e w' ⟨rfl, rfl⟩; rw [HS.out])
              go_round
              case rel => exact ⟨k + 1, by omega, by go_num, fun j hj => by
                rcases Nat.lt_succ_iff_lt_or_eq.1 hj with h | rfl
                · exact HE.out j h
                · exact HS.out⟩
              case measure => simp [intOf]; omega
          · obtain rfl : k = n := by omega
            have HF : Hid (famIn m zs = true) := Lib.hid (famIn_y (inB_true h1 h2) (by rw [← HN.out]; exact h3) (by rw [← HN.out]; exact he))
            clear he
            go_wp2
            go_ret
            exact ⟨by rw [HF.out]; rfl, HB.out⟩
      · have HF : Hid (famIn m zs = false) := Lib.hid (famIn_l (by omega))
        clear hn
        go_enter Tryd.func50, Tryd.ntmps50
        go_wp2
        go_ret
        exact ⟨by rw [HF.out]; rfl, HB.out⟩
    · have HF : Hid (famIn m zs = false) := Lib.hid (famIn_m (inB_false (.inr (by omega))))
      clear hn
      go_enter Tryd.func50, Tryd.ntmps50
      go_wp2
      go_ret
      exact ⟨by rw [HF.out]; rfl, HB.out⟩
  · have HF : Hid (famIn m zs = false) := Lib.hid (famIn_m (inB_false (.inl (by omega))))
    clear hn
    go_enter Tryd.func50, Tryd.ntmps50
    go_wp2
    go_ret
    exact ⟨by rw [HF.out]; rfl, HB.out⟩

end Go.Proofs.YtcmpjegfikdofaaDoor

/- It is proved that a family drawn from bytes is one of the call's own; conditions: those of each statement. -/
namespace Go.Proofs.YtcmpjegfikdofaaDoor
open Go.RowKit

theorem openD_any (a : Option Addr) (n cap : Nat) (w : World) (hn : n ≤ 1048576) (hc : n ≤ cap) (hc2 : cap ≤ 9223372036854775807) (ha : n ≠ 0 → ∃ g off, a = some ⟨g, off, none⟩) :
    Calls Tryd.prog 66 #[.slice a n cap] w fun e w' => ∃ k, k ≤ n ∧ e = .returned (.pointer (some ⟨w.heap.size, 0, none⟩)) ∧ w' = w.alloc (.cells #[.slice a k cap, .int .i64 0] 82) := by
  by_cases h : n ≤ 2000
  · go_enter Tryd.func66, Tryd.ntmps66
    go_wp2
    go_ret
    exact ⟨n, Nat.le_refl _, rfl, rfl⟩
  · obtain ⟨g, off, rfl⟩ := ha (by omega)
    have hc3 : (2000 : Int) ≤ (cap : Int) := by omega
    go_enter Tryd.func66, Tryd.ntmps66
    go_wp2
    go_ret
    exact ⟨2000, by omega, rfl, rfl⟩

/-- A family of the call's own. -/
def DrawnOne (w : World) (e : Ending) (W : World) : Prop :=
  ∃ (m : Int) (a : Option Addr) (zs : List Int) (c : Nat), e = .returned (.agg #[.int .i64 m, .slice a zs.length c]) ∧ zs.length ≤ 9 ∧ OwnI W w.heap.size (.slice a zs.length c) zs ∧ Below w.heap.size w W

theorem Bys.below {w W : World} {B : Nat} {b : Option Addr} {n : Nat} (h : Bys w B b n) (hb : Below B w W) : Bys W B b n := by
  rcases h with h | ⟨g, off, e, hgR, hc⟩
  · exact .inl h
  · refine .inr ⟨g, off, e, hgR, fun j hj => ?_⟩
    obtain ⟨z, hz, hcz⟩ := hc j hj
    exact ⟨z, hz, (hb.cell (p := ⟨g, off + j, none⟩) hgR).trans hcz⟩

theorem Bys.fewer {w : World} {B B' : Nat} {b : Option Addr} {n k : Nat} (h : Bys w B b n) (hB : B ≤ B') (hk : k ≤ n) : Bys w B' b k := by
  rcases h with h | ⟨g, off, e, hgR, hc⟩
  · exact .inl (by omega)
  · exact .inr ⟨g, off, e, by omega, fun j hj => hc j (by omega)⟩

set_option maxRecDepth 100000 in
set_option maxHeartbeats 2000000 in
theorem oneD_any (a : Option Addr) (n cap : Nat) (w : World) (hb : Bys w w.heap.size a n) (hn : n ≤ 1048576) (hc : n ≤ cap) (hc2 : cap ≤ 9223372036854775807) :
    Calls Tryd.prog 44 #[.slice a n cap] w (DrawnOne w) := by
  have ha : n ≠ 0 → ∃ g off, a = some ⟨g, off, none⟩ := fun h => by obtain ⟨g, off, e, _⟩ := hb.resolve_left h; exact ⟨g, off, e⟩
  have HB := Lib.hid hb
  clear hb
  go_enter Tryd.func44, Tryd.ntmps44
  go_wp2_with fail
  refine (openD_any a n cap _ hn hc hc2 ha).mono ?_
  rintro e w1 ⟨k, hk, rfl, rfl⟩
  have b1 := below2 w (.cells #[.int .i64 0, .slice none 0 0] 25) (.cells #[.slice a k cap, .int .i64 0] 82)
  have HD1 : Hid (DS ((w.alloc (.cells #[.int .i64 0, .slice none 0 0] 25)).alloc (.cells #[.slice a k cap, .int .i64 0] 82)) (w.heap.size + 1) a k cap 0 ((w.alloc (.cells #[.int .i64 0, .slice none 0 0] 25)).alloc (.cells #[.slice a k cap, .int .i64 0] 82))) := Lib.hid ⟨⟨0, Nat.le_refl _, alloc2_1 w _ _⟩, World.grownBy.refl _ _⟩
  have HB1 := Lib.hid ((HB.out.below b1).fewer (B' := w.heap.size + 1) (by omega) hk)
  have HX : Hid (HasBlk ((w.alloc (.cells #[.int .i64 0, .slice none 0 0] 25)).alloc (.cells #[.slice a k cap, .int .i64 0] 82)) w.heap.size #[.int .i64 0, .slice none 0 0] 25) := Lib.hid (alloc2_0 w _ _)
  have HBL := Lib.hid b1
  clear b1
  go_wp2_with fail
  refine (someD_any 6 7 6 7 rfl rfl (by decide) (by decide) (by decide) (w.heap.size + 1) a k cap 0 _ HD1.out HB1.out (by simp) (by omega) (by omega)).mono ?_
  rintro e w2 ⟨m, a2, zs, c2, rfl, ⟨hl, -, -⟩, ho, D2⟩
  have q0 := HX.out.kept D2.gr (by simp)
  have d0 := (blk_cell q0 0).trans (cell2_0 _ _)
  have d1 := (blk_cell q0 1).trans (cell2_1 _ _)
  have f0 := blk_frozen q0 0
  have f1 := blk_frozen q0 1
  have HO : Hid (OwnI w2 (w.heap.size + 2) (.slice a2 zs.length c2) zs) := Lib.hid (own_mono ho (by simp))
  have HBW := Lib.hid (HBL.out.trans ((Below.refl w.heap.size _).grown D2.gr (by simp; omega) (fun g e => by injection e; omega)))
  clear ho D2 q0
  go_wp2
  refine bodyPost_ret (v := .agg #[.int .i64 m, .slice a2 zs.length c2]) (by simp [results, Tryd.results44, go_sem, d0, d1]) rfl ?_
  refine ⟨m, a2, zs, c2, rfl, Nat.le_trans hl (by decide), ?_, ?_⟩
  · exact own_mono (ownsRow_setCell_below (ownsRow_setCell_below HO.out (a := ⟨w.heap.size, 0, none⟩) (show w.heap.size < w.heap.size + 2 by omega) _) (a := ⟨w.heap.size, 1, none⟩) (show w.heap.size < w.heap.size + 2 by omega) _) (by omega)
  · exact (HBW.out.setCell (p := ⟨w.heap.size, 0, none⟩) (Nat.le_refl _) _).setCell (p := ⟨w.heap.size, 1, none⟩) (Nat.le_refl _) _

end Go.Proofs.YtcmpjegfikdofaaDoor

/- It is proved how a slice of bytes among a law's arguments reads; conditions: none but that the argument can be read. -/
namespace Go.Proofs.YtcmpjegfikdofaaDoor
open Go.ChangeShapes Go.WideShapes Go.ChangeAt Go.RowKit Go.Joins
open Go.ChangeMaps (open_string shut_string)

theorem u8_min : IntKind.u8.min = 0 := by decide
theorem u8_max : IntKind.u8.max = 255 := by decide
theorem byte_in {z : Int} (h : (Lit.int .u8 z).wf = true) : 0 ≤ z ∧ z ≤ 255 := by
  simp [Lit.wf, u8_min, u8_max] at h; exact h

theorem byte_small {z : Int} (h : (Lit.int .u8 z).wf = true) : z.toNat < 256 := by have := byte_in h; omega
theorem byte_nat {z : Int} (h : (Lit.int .u8 z).wf = true) : Value.int .u8 z = .int .u8 ((z.toNat : Nat) : Int) := by
  rw [Int.toNat_of_nonneg (byte_in h).1]

theorem Tryd.cells5 : Tryd.prog.cellsOf 5 = 1 := by kernel_rfl
set_option maxRecDepth 100000 in
theorem open_code {H : Type} {enc : TypeId × Value → H} {W : World} {base : Nat} {v : Value} {d : DataW H} {p : List MemPlace}
    (hv : Value.okWide Tryd.prog W .any base 22 v) (h : DataW.Trod enc Tryd.prog W 0 (fun _ => true) true 22 v d p) :
    ∃ a n cap, v = .slice a n cap ∧ n ≤ cap ∧ cap ≤ maxLen ∧ Bys W W.heap.size a n := by
  obtain ⟨a, n, cap, rfl⟩ := okWide_slice Tryd.underlying22 hv
  obtain ⟨fuel, hf⟩ := h
  rcases open_ints Tryd.underlying22 Tryd.underlying5 Tryd.cells5 hf with ⟨hcs, _⟩ | ⟨x, l, c, zs, hcs, _, hl, hm, hz, hx, hcell, hwz⟩
  · simp [Value.cells] at hcs
    obtain ⟨rfl, rfl, rfl⟩ := hcs
    exact ⟨none, 0, 0, rfl, by omega, by simp [maxLen], .inl rfl⟩
  · simp [Value.cells] at hcs
    obtain ⟨rfl, rfl, rfl⟩ := hcs
    refine ⟨some x, n, cap, rfl, hl, hm, ?_⟩
    by_cases h0 : n = 0
    · exact .inl h0
    · obtain ⟨b, off, spot⟩ := x
      simp at hz
      have hc := hcell 0 (by omega)
      have hspot : spot = none := by simpa [Addr.add] using World.cell?_spot hc
      subst hspot
      refine .inr ⟨b, off, rfl, by simpa [Addr.add] using World.block_lt_of_cell? W _ hc, fun j hj => ?_⟩
      have h1 := hcell j (by omega)
      rw [show (⟨b, off, none⟩ : Addr).add j = ⟨b, off + j, none⟩ from by unfold Addr.add; split <;> simp_all] at h1
      have h2 := hwz (zs.getD j 0) (by
        have : j < zs.length := by omega
        simp [List.getD, this])
      refine ⟨(zs.getD j 0).toNat, ?_, ?_⟩
      · exact byte_small h2
      · rw [h1, byte_nat h2]

end Go.Proofs.YtcmpjegfikdofaaDoor

/- It is proved how a Family among a law's arguments reads as a number and a list of ints; conditions: none but that the argument can be read. -/
namespace Go.Proofs.YtcmpjegfikdofaaDoor
open Go.ChangeShapes Go.WideShapes Go.ChangeAt Go.RowKit Go.Joins
open Go.ChangeMaps (open_string shut_string)

theorem Tryd.own : ownKnob Tryd.prog.godebug = none := by kernel_rfl
theorem Tryd.laidOut : laidOutB Tryd.prog = true := by kernel_rfl
theorem Tryd.cells38 : Tryd.prog.cellsOf 38 = 2 := by kernel_rfl
theorem Tryd.cells3 : Tryd.prog.cellsOf 3 = 1 := by kernel_rfl
theorem Tryd.cells23 : Tryd.prog.cellsOf 23 = 1 := by kernel_rfl
theorem ints_of_row {W : World} {x : Addr} {l c : Nat} {zs : List Int} (hl : l ≤ c) (hz : zs.length = c)
    (hcell : ∀ i, i < zs.length → W.cell? (x.add i) = some (.int .i64 (zs.getD i 0))) : Ints W W.heap.size (some x) (zs.take l) := by
  by_cases h0 : l = 0
  · subst h0; exact .inl (by simp)
  · obtain ⟨b, off, spot⟩ := x
    have hc := hcell 0 (by omega)
    have hspot : spot = none := by simpa [Addr.add] using World.cell?_spot hc
    subst hspot
    refine .inr ⟨b, off, rfl, by simpa [Addr.add] using World.block_lt_of_cell? W _ hc, fun j hj => ?_⟩
    have hj' : j < l := by simp at hj; omega
    have := hcell j (by omega)
    rw [show (⟨b, off, none⟩ : Addr).add j = ⟨b, off + j, none⟩ from by unfold Addr.add; split <;> simp_all] at this
    rw [this]
    simp [List.getD, hj']

set_option maxRecDepth 100000 in
theorem open_family {H : Type} {enc : TypeId × Value → H} {W : World} {base : Nat} {v : Value} {d : DataW H} {p : List MemPlace}
    (hv : Value.okWide Tryd.prog W .any base 38 v) (h : DataW.Trod enc Tryd.prog W 0 (fun _ => true) true 38 v d p) :
    ∃ m a cap, ∃ zs : List Int, v = .agg #[.int .i64 m, .slice a zs.length cap] ∧ zs.length ≤ maxLen ∧ Ints W W.heap.size a zs := by
  obtain ⟨c0, c1, y0, y1, n, rfl, rfl, rfl, hy0, hy1⟩ := open_agg2 Tryd.underlying38 (by kernel_rfl) Tryd.cells38 hv h
  obtain ⟨m, e0, rfl, wm⟩ := DataW.trod_int Tryd.underlying3 hy0
  simp at e0
  subst e0
  rcases open_ints Tryd.underlying23 Tryd.underlying3 Tryd.cells3 hy1 with ⟨hcs, _⟩ | ⟨x, l, c, zs, hcs, _, hl, hm, hz, hx, hcell, hwz⟩
  · simp at hcs
    subst hcs
    exact ⟨m, none, 0, [], rfl, by simp [maxLen], .inl rfl⟩
  · simp at hcs
    subst hcs
    have hlen : (zs.take l).length = l := by rw [List.length_take]; simp at hz; omega
    refine ⟨m, some x, c, zs.take l, by rw [hlen], by rw [hlen]; omega, ints_of_row hl (by simpa using hz) hcell⟩

end Go.Proofs.YtcmpjegfikdofaaDoor
