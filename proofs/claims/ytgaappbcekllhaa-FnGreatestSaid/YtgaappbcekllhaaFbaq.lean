/- It is proved how a slice of bytes among a law's arguments reads; conditions: none but that the argument can be read. -/
import Derived.Test.YtgaappbcekllhaaRows
import Derived.WalkKit
import Derived.WalkSpells
import Derived.ProofKit
import Derived.OpenShut
import Derived.ShutString
import Derived.ChangeOld
import Derived.Below
import Derived.Deep.RegionHeld3
import Derived.Deep.QuietTactic
import Derived.BigQuiet
import Derived.Lib.Hide
import Derived.Lib.SmallJoins
import Derived.Outline
import Derived.Laws.MakeOwn
import Derived.Laws.OwnMore
import Derived.IntWalk
import Derived.Deep.RegionLaw
import Derived.Deep.AppendLies
import Derived.RangeFuncNested
import Derived.RangeFuncBound
import Derived.RangeFuncCalls
import Derived.RangeFuncLeaves
import Derived.RangeFuncBox
import Derived.Shelf.Abstract
import Derived.Shelf.RegionOpen
import Derived.OwnWalkIn
import Derived.TacticsInMore
import Derived.LoopNIn
import Derived.LoopIn
import Derived.Maps.AppendAt
import Derived.Shelf.Spec.TrailingZeros
import Derived.OwnWalk
import Derived.Test.YtgaappbcekllhaaFbac
import Derived.Test.YtgaappbcekllhaaFbao
import Derived.Test.YtgaappbcekllhaaFbap
import Derived.Test.YtgaappbcekllhaaFbaa
import Derived.Test.YtgaappbcekllhaaFbab
import Derived.Lib.AppendZeros
import Derived.Lib.SlicesCompact
import Derived.Lib.OwnBridge
import Derived.Shelf.Sort.Plain
import Derived.Shelf.Slices.In.SortNone
import Derived.Shelf.Slices.CompactI
import Derived.Ground.Names2Prog
import Derived.Lib.SliceRun
import Derived.Test.YtgaappbcekllhaaFbaj
import Derived.Test.YtgaappbcekllhaaHu
import Derived.Test.YtgaappbcekllhaaHw
namespace Go.Proofs.Ytgaappbcekllhaa
open Go.ChangeShapes Go.WideShapes Go.ChangeAt Go.RowKit Go.Joins
open Go.ChangeMaps (open_string shut_string)

theorem u8_min : IntKind.u8.min = 0 := by decide
theorem u8_max : IntKind.u8.max = 255 := by decide
theorem byte_in {z : Int} (h : (Lit.int .u8 z).wf = true) : 0 ≤ z ∧ z ≤ 255 := by
  simp [Lit.wf, u8_min, u8_max] at h; exact h

theorem byte_small {z : Int} (h : (Lit.int .u8 z).wf = true) : z.toNat < 256 := by have := byte_in h; omega
theorem byte_nat {z : Int} (h : (Lit.int .u8 z).wf = true) : Value.int .u8 z = .int .u8 ((z.toNat : Nat) : Int) := by
  rw [Int.toNat_of_nonneg (byte_in h).1]

theorem Try.cells5 : Try.prog.cellsOf 5 = 1 := by kernel_rfl
set_option maxRecDepth 100000 in
theorem open_code {H : Type} {enc : TypeId × Value → H} {W : World} {base : Nat} {v : Value} {d : DataW H} {p : List MemPlace}
    (hv : Value.okWide Try.prog W .any base 22 v) (h : DataW.Trod enc Try.prog W 0 (fun _ => true) true 22 v d p) :
    ∃ a n cap, v = .slice a n cap ∧ n ≤ cap ∧ cap ≤ maxLen ∧ Bys W W.heap.size a n := by
  obtain ⟨a, n, cap, rfl⟩ := okWide_slice Try.underlying22 hv
  obtain ⟨fuel, hf⟩ := h
  rcases open_ints Try.underlying22 Try.underlying5 Try.cells5 hf with ⟨hcs, _⟩ | ⟨x, l, c, zs, hcs, _, hl, hm, hz, hx, hcell, hwz⟩
  · simp [Value.cells] at hcs
    obtain ⟨rfl, rfl, rfl⟩ := hcs
    exact ⟨none, 0, 0, rfl, by omega, by simp [maxLen], .inl rfl⟩
  · simp [Value.cells] at hcs
    obtain ⟨rfl, rfl, rfl⟩ := hcs
    refine ⟨some x, n, cap, rfl, hl, hm, ?_⟩
    by_cases h0 : n = 0
    · exact .inl h0
    · obtain ⟨b, off, spot⟩ := x
      simp at hz
      have hc := hcell 0 (by omega)
      have hspot : spot = none := by simpa [Addr.add] using World.cell?_spot hc
      subst hspot
      refine .inr ⟨b, off, rfl, by simpa [Addr.add] using World.block_lt_of_cell? W _ hc, fun j hj => ?_⟩
      have h1 := hcell j (by omega)
      rw [show (⟨b, off, none⟩ : Addr).add j = ⟨b, off + j, none⟩ from by unfold Addr.add; split <;> simp_all] at h1
      have h2 := hwz (zs.getD j 0) (by
        have : j < zs.length := by omega
        simp [List.getD, this])
      refine ⟨(zs.getD j 0).toNat, ?_, ?_⟩
      · exact byte_small h2
      · rw [h1, byte_nat h2]

end Go.Proofs.Ytgaappbcekllhaa

/- It is proved how a Family among a law's arguments reads as a number and a list of ints; conditions: none but that the argument can be read. -/
namespace Go.Proofs.Ytgaappbcekllhaa
open Go.ChangeShapes Go.WideShapes Go.ChangeAt Go.RowKit Go.Joins
open Go.ChangeMaps (open_string shut_string)

theorem Try.own : ownKnob Try.prog.godebug = none := by kernel_rfl
theorem Try.laidOut : laidOutB Try.prog = true := by kernel_rfl
theorem Try.cells38 : Try.prog.cellsOf 38 = 2 := by kernel_rfl
theorem Try.cells3 : Try.prog.cellsOf 3 = 1 := by kernel_rfl
theorem Try.cells23 : Try.prog.cellsOf 23 = 1 := by kernel_rfl
theorem ints_of_row {W : World} {x : Addr} {l c : Nat} {zs : List Int} (hl : l ≤ c) (hz : zs.length = c)
    (hcell : ∀ i, i < zs.length → W.cell? (x.add i) = some (.int .i64 (zs.getD i 0))) : Ints W W.heap.size (some x) (zs.take l) := by
  by_cases h0 : l = 0
  · subst h0; exact .inl (by simp)
  · obtain ⟨b, off, spot⟩ := x
    have hc := hcell 0 (by omega)
    have hspot : spot = none := by simpa [Addr.add] using World.cell?_spot hc
    subst hspot
    refine .inr ⟨b, off, rfl, by simpa [Addr.add] using World.block_lt_of_cell? W _ hc, fun j hj => ?_⟩
    have hj' : j < l := by simp at hj; omega
    have := hcell j (by omega)
    rw [show (⟨b, off, none⟩ : Addr).add j = ⟨b, off + j, none⟩ from by unfold Addr.add; split <;> simp_all] at this
    rw [this]
    simp [List.getD, hj']

set_option maxRecDepth 100000 in
theorem open_family {H : Type} {enc : TypeId × Value → H} {W : World} {base : Nat} {v : Value} {d : DataW H} {p : List MemPlace}
    (hv : Value.okWide Try.prog W .any base 38 v) (h : DataW.Trod enc Try.prog W 0 (fun _ => true) true 38 v d p) :
    ∃ m a cap, ∃ zs : List Int, v = .agg #[.int .i64 m, .slice a zs.length cap] ∧ zs.length ≤ maxLen ∧ Ints W W.heap.size a zs := by
  obtain ⟨c0, c1, y0, y1, n, rfl, rfl, rfl, hy0, hy1⟩ := open_agg2 Try.underlying38 (by kernel_rfl) Try.cells38 hv h
  obtain ⟨m, e0, rfl, wm⟩ := DataW.trod_int Try.underlying3 hy0
  simp at e0
  subst e0
  rcases open_ints Try.underlying23 Try.underlying3 Try.cells3 hy1 with ⟨hcs, _⟩ | ⟨x, l, c, zs, hcs, _, hl, hm, hz, hx, hcell, hwz⟩
  · simp at hcs
    subst hcs
    exact ⟨m, none, 0, [], rfl, by simp [maxLen], .inl rfl⟩
  · simp at hcs
    subst hcs
    have hlen : (zs.take l).length = l := by rw [List.length_take]; simp at hz; omega
    refine ⟨m, some x, c, zs.take l, by rw [hlen], by rw [hlen]; omega, ints_of_row hl (by simpa using hz) hcell⟩

end Go.Proofs.Ytgaappbcekllhaa

/- It is proved what sameInts and sameFamily return; conditions: those of each statement. -/
namespace Go.Proofs.Ytgaappbcekllhaa
open Go.RowKit

set_option maxRecDepth 100000 in
set_option maxHeartbeats 400000 in
theorem sameInts_any (a b : Option Addr) (ca cb : Nat) (xs ys : List Int) (w : World) (ha : Ints w w.heap.size a xs) (hb : Ints w w.heap.size b ys) (hx : xs.length ≤ 1048576) (hy : ys.length ≤ 1048576) :
    Calls Try.prog 17 #[.slice a xs.length ca, .slice b ys.length cb] w fun e w' => e = .returned (.bool (sameB xs ys)) ∧ Below w.heap.size w w' := by
  by_cases hl : xs.length = ys.length
  · obtain ⟨n, hn⟩ : ∃ n, n = xs.length := ⟨_, rfl⟩
    have HN : Hid (n = xs.length) := Lib.hid hn
    have HM : Hid (n = ys.length) := Lib.hid (hn.trans hl)
    rw [← hl, ← hn]
    rw [← hn] at hx
    clear hl hn hy
    go_enter Try.func17, Try.ntmps17
    go_wp2
    go_loopw [5] (fun i wr => ∃ k : Nat, k ≤ n ∧ i = .int .i64 k ∧ (∀ j, j < k → xs[j]?.getD 0 = ys[j]?.getD 0) ∧ Below w.heap.size w wr) (fun i _ => n - (intOf i).toNat)
    case atStart => exact ⟨0, Nat.zero_le _, rfl, fun j hj => by omega, Below.refl _ _⟩
    case round =>
      obtain ⟨k, hk, rfl, he, hB⟩ := hrel
      by_cases hlt : k < n
      · obtain ⟨b1, o1, rfl, hb1, hc1⟩ := ha.at_ (k := k) (by rw [← HN.out]; exact hlt)
        obtain ⟨b2, o2, rfl, hb2, hc2⟩ := hb.at_ (k := k) (by rw [← HM.out]; exact hlt)
        have hk0 : (0 : Int) ≤ (k : Int) := by omega
        have hk1 : (k : Int) < (n : Int) := by omega
        have c1 := (hB.cell (p := ⟨b1, o1 + k, none⟩) hb1).trans hc1
        have c2 := (hB.cell (p := ⟨b2, o2 + k, none⟩) hb2).trans hc2
        have HB := Lib.hid hB
        have HE := Lib.hid he
        clear hc1 hc2 hB he
        by_cases hq : xs[k]?.getD 0 = ys[k]?.getD 0
        · have hbn : (xs[k]?.getD 0 != ys[k]?.getD 0) = false := by rw [hq]; simp
          have HQ := Lib.hid hq
          clear hq
          go_wp2
          go_quiet (fail)
          go_wp2
          go_roundw
          case rel => exact ⟨k + 1, by omega, by go_num, fun j hj => by
            rcases Nat.lt_succ_iff_lt_or_eq.1 hj with h | rfl
            · exact HE.out j h
            · exact HQ.out, below_drewN HB.out _⟩
          case measure => simp [intOf]; omega
        · have hbn : (xs[k]?.getD 0 != ys[k]?.getD 0) = true := by rw [bne_iff_ne]; exact hq
          have HQ : Hid (sameB xs ys = false) := Lib.hid (by unfold sameB; exact eqs_false (by rw [← HN.out]; exact hlt) (by rw [← HM.out]; exact hlt) hq)
          clear hq
          go_wp2
          go_quiet (fail)
          go_wp2
          go_ret
          exact ⟨by rw [HQ.out]; rfl, below_drewN HB.out _⟩
      · obtain rfl : k = n := by omega
        have HQ : Hid (sameB xs ys = true) := Lib.hid (by unfold sameB; exact eqs_true (by rw [← HN.out, ← HM.out]) (by rw [← HN.out]; exact he))
        have HB := Lib.hid hB
        clear he hB
        go_wp2
        go_ret
        exact ⟨by rw [HQ.out]; rfl, HB.out⟩
  · have hd : sameB xs ys = false := by unfold sameB; simp only [decide_eq_false_iff_not]; rintro rfl; exact hl rfl
    have hne : ((xs.length : Int) == (ys.length : Int)) = false := by simp; omega
    have hne' : ((xs.length : Int) != (ys.length : Int)) = true := by simp; omega
    rw [hd]
    go_enter Try.func17, Try.ntmps17
    go_wp2
    go_ret
    exact ⟨rfl, Below.refl _ _⟩

set_option maxRecDepth 100000 in
set_option maxHeartbeats 400000 in
theorem sameFamily_any (m k : Int) (a b : Option Addr) (ca cb : Nat) (xs ys : List Int) (w : World) (ha : Ints w w.heap.size a xs) (hb : Ints w w.heap.size b ys) (hx : xs.length ≤ 1048576) (hy : ys.length ≤ 1048576) :
    Calls Try.prog 10 #[.agg #[.int .i64 m, .slice a xs.length ca], .agg #[.int .i64 k, .slice b ys.length cb]] w fun e w' => e = .returned (.bool (sameF m xs k ys)) ∧ Below w.heap.size w w' := by
  have HB := Lib.hid (below2 w (.cells #[.int .i64 m, .slice a xs.length ca] 25) (.cells #[.int .i64 k, .slice b ys.length cb] 25))
  by_cases h : m = k
  · subst h
    have H1 : Hid (sameF m xs m ys = sameB xs ys) := Lib.hid (by simp [sameF])
    cases hs : sameB xs ys
    all_goals
      have HS := Lib.hid hs
      clear hs
      go_enter Try.func10, Try.ntmps10
      go_wp2_with (go_at_call 17; refine (sameInts_any _ _ _ _ xs ys _ ((ha.below HB.out).mono (by simp; omega)) ((hb.below HB.out).mono (by simp; omega)) hx hy).mono ?_; rintro e w1 ⟨rfl, hb1⟩; rw [HS.out])
      go_ret
      exact ⟨by rw [H1.out, HS.out]; rfl, HB.out.trans (hb1.mono (by simp; omega))⟩
  · have H1 : Hid (sameF m xs k ys = false) := Lib.hid (by simp [sameF, h])
    have hn : (m == k) = false := by rw [beq_eq_false_iff_ne]; exact h
    clear h
    go_enter Try.func10, Try.ntmps10
    go_wp2
    go_ret
    exact ⟨by rw [H1.out]; rfl, HB.out⟩

end Go.Proofs.Ytgaappbcekllhaa

/- It is proved that least clubs are parts of no other one, and that each club has one of them as a part; conditions: those of each statement. -/
namespace Go.Proofs.Ytgaappbcekllhaa
open Go.RowKit

theorem unbeaten_mem (g : Int → Int → Bool) (zs : List Int) (z : Int) : z ∈ unbeaten g zs ↔ z ∈ zs ∧ beaten g zs z = false := by
  simp [unbeaten, List.mem_filter, simpZ_mem]

theorem unbeaten_asc (g : Int → Int → Bool) (zs : List Int) : Asc (unbeaten g zs) := List.Pairwise.filter _ (simpZ_asc zs)
set_option maxRecDepth 100000 in
theorem leG_fin : ∀ o : Fin 64, ∀ z : Fin 64, leG (o.val : Int) (z.val : Int) = decide (o.val &&& z.val = o.val) := by decide +kernel

theorem leG_nat (o z : Nat) (ho : o < 64) (hz : z < 64) : leG (o : Int) (z : Int) = decide (o &&& z = o) := leG_fin ⟨o, ho⟩ ⟨z, hz⟩
end Go.Proofs.Ytgaappbcekllhaa

/- It is proved how boxed families and lists are kept while the laws go on; conditions: those of each statement. -/
namespace Go.Proofs.Ytgaappbcekllhaa
open Go.RowKit

/-- A family in a box. -/
structure FB (X : Nat) (m : Int) (a : Option Addr) (zs : List Int) (c : Nat) (W : World) : Prop where
  blk : HasBlk W X #[.int .i64 m, .slice a zs.length c] 25
  ints : Ints W W.heap.size a zs

theorem FB.step {X : Nat} {m : Int} {a : Option Addr} {zs : List Int} {c : Nat} {W W' : World} (h : FB X m a zs c W) (hb : Below W.heap.size W W') : FB X m a zs c W' :=
  ⟨(hb.block X (lt_of_some h.blk)).trans h.blk, (h.ints.below hb).mono hb.size⟩

theorem FB.start {w : World} {m : Int} {a : Option Addr} {zs : List Int} {c : Nat} (h : Ints w w.heap.size a zs) : FB w.heap.size m a zs c (w.alloc (.cells #[.int .i64 m, .slice a zs.length c] 25)) :=
  ⟨alloc_new w _, (h.below (below1 w _)).mono (by simp)⟩

theorem FB.x0 {X : Nat} {m : Int} {a : Option Addr} {zs : List Int} {c : Nat} {W : World} (h : FB X m a zs c W) : W.cell? ⟨X, 0, none⟩ = some (.int .i64 m) := (blk_cell h.blk 0).trans (cell2_0 _ _)
theorem FB.x1 {X : Nat} {m : Int} {a : Option Addr} {zs : List Int} {c : Nat} {W : World} (h : FB X m a zs c W) : W.cell? ⟨X, 1, none⟩ = some (.slice a zs.length c) := (blk_cell h.blk 1).trans (cell2_1 _ _)
theorem Ints.step {W W' : World} {a : Option Addr} {zs : List Int} (h : Ints W W.heap.size a zs) (hb : Below W.heap.size W W') : Ints W' W'.heap.size a zs := (h.below hb).mono hb.size
theorem sameB_refl (zs : List Int) : sameB zs zs = true := by simp [sameB]
end Go.Proofs.Ytgaappbcekllhaa
