/- It is proved what slices.Concat of three lists returns, and closedWith; conditions: those of each statement. -/
import Derived.RowKit
import Derived.Laws.CopyRow
import Derived.Lib.SlBuf
import Derived.Deep.QuietTactic
import Derived.RangeFuncNested
import Derived.RangeFuncBound
import Derived.RangeFuncCalls
import Derived.RangeFuncLeaves
import Derived.RangeFuncBox
import Derived.RangeFuncWrites
import Derived.StillTailTactics
import Derived.Maps.OwnIn
import Derived.Maps.Ext
import Derived.DeepKeys4
import Derived.MapKept
import Derived.Test.YtckbhhaigpajpaaRows
import Derived.WalkKit
import Derived.WalkSpells
import Derived.ProofKit
import Derived.OpenShut
import Derived.ShutString
import Derived.ChangeOld
import Derived.Below
import Derived.Deep.RegionHeld3
import Derived.BigQuiet
import Derived.Lib.Hide
import Derived.Lib.SmallJoins
import Derived.Outline
import Derived.Laws.MakeOwn
import Derived.Laws.OwnMore
import Derived.IntWalk
import Derived.Maps.AppendAt
import Derived.Deep.RegionLaw
import Derived.Deep.AppendLies
import Derived.Lib.AppendZeros
import Derived.OwnWalk
import Derived.Lib.SlicesCompact
import Derived.Lib.OwnBridge
import Derived.OrdersIn
import Derived.TacticsIn
import Derived.Orders
import Derived.Tactics
import Derived.Shelf.Sort.Plain
import Derived.Shelf.Slices.In.SortNone
import Derived.Shelf.Slices.CompactI
import Derived.Ground.Names2Prog
import Derived.Lib.SliceRun
import Derived.Laws.BitsAllLaws
import Derived.Shelf.RegionOpen
import Derived.Shelf.Abstract
import Derived.OwnWalkIn
import Derived.TacticsInMore
import Derived.LoopNIn
import Derived.LoopIn
import Derived.StillTail
import Derived.StillTactics
import Derived.Shelf.Spec.TrailingZeros
import Derived.Deep.LoopGhost
import Derived.Test.YtckbhhaigpajpaaRaaa
import Derived.Test.YtckbhhaigpajpaaRaam
import Derived.Test.YtckbhhaigpajpaaRaab
import Derived.Test.YtckbhhaigpajpaaRaad
import Derived.Test.YtckbhhaigpajpaaRaae
import Derived.Test.YtckbhhaigpajpaaRaah
import Derived.Test.YtckbhhaigpajpaaRaao
import Derived.Test.YtckbhhaigpajpaaRaaj
import Derived.Test.YtckbhhaigpajpaaRaac
import Derived.Test.YtckbhhaigpajpaaXm
import Derived.Test.YtckbhhaigpajpaaRaap
namespace Go.Proofs.Ytckbhhaigpajpaa
open Go.RowKit

/-- A list of three lists. -/
def sumL3 (n d e : Nat) (k : Nat) : Nat := if k = 0 then 0 else if k = 1 then n else if k = 2 then n + d else n + d + e

def catP3 (zs ys us : List Int) (k : Nat) : List Int := if k = 0 then [] else if k = 1 then zs else if k = 2 then zs ++ ys else zs ++ ys ++ us
/-- What the drawn region keeps. -/
structure CwRel (w : World) (m : Int) (a : Option Addr) (c : Nat) (zs ys L : List Int) (x : Int) (V5 V6 V7 V8 V9 V10 V11 V12 V13 V14 V15 V16 V17 V18 : Value) (l0 l1 l2 l3 l4 l5 l6 l7 l8 l9 l10 l11 l12 l13 l14 : Bool) (W : World) : Prop where
  below : Below w.heap.size w W
  size : w.heap.size + 2 ≤ W.heap.size
  res : HasBlk W (w.heap.size + 1) #[.int .i64 0, .slice none 0 0] 43
  e0 : l0 = true → V5 = .pointer (some ⟨w.heap.size, 0, none⟩)
  e1 : l1 = true → V6 = .pointer (some ⟨w.heap.size, 1, none⟩)
  e2 : l2 = true → V7 = .slice a zs.length c
  e3 : l3 = true → V8 = .pointer (some ⟨w.heap.size, 0, none⟩)
  e4 : l4 = true → V9 = .agg #[.int .i64 m, .slice a zs.length c]
  e5 : l5 = true → V10 = .int .i64 x
  e8 : l8 = true → V13 = .int .i64 x
  e12 : l12 = true → V17 = .pointer (some ⟨w.heap.size, 0, none⟩)
  e13 : l13 = true → V18 = .pointer (some ⟨w.heap.size, 1, none⟩)
  e6 : l6 = true → ∃ a1 c1, V11 = .agg #[.int .i64 m, .slice a1 ys.length c1] ∧ OwnI W (w.heap.size + 2) (.slice a1 ys.length c1) ys
  e7 : l7 = true → ∃ a1 c1, V12 = .slice a1 ys.length c1 ∧ OwnI W (w.heap.size + 2) (.slice a1 ys.length c1) ys
  e9 : l9 = true → ∃ g, V14 = .slice (some ⟨g, 0, none⟩) 1 1 ∧ w.heap.size + 2 ≤ g ∧ HasBlk W g #[.int .i64 x] 3
  e10 : l10 = true → ∃ g a1 c1 h, V15 = .slice (some ⟨g, 0, none⟩) 3 3 ∧ w.heap.size + 2 ≤ g ∧ HasBlk W g #[.slice a zs.length c, .slice a1 ys.length c1, .slice (some ⟨h, 0, none⟩) 1 1] 23 ∧ OwnI W (w.heap.size + 2) (.slice a1 ys.length c1) ys ∧ w.heap.size + 2 ≤ h ∧ HasBlk W h #[.int .i64 x] 3
  e11 : l11 = true → ∃ a2 c2, V16 = .slice a2 L.length c2 ∧ OwnI W (w.heap.size + 2) (.slice a2 L.length c2) L
  m12 : l13 = true → l12 = true
  box : l14 = false → HasBlk W w.heap.size #[.int .i64 m, .slice a zs.length c] 43
  fin : l14 = true → (l0 && l1 && l2 && l3 && l4 && l5 && l6 && l7 && l8 && l9 && l10 && l11 && l12 && l13) = true ∧ ∃ a2 c2, HasBlk W w.heap.size #[.int .i64 m, .slice a2 L.length c2] 43 ∧ OwnI W (w.heap.size + 2) (.slice a2 L.length c2) L

theorem CwRel.step {w : World} {m : Int} {a : Option Addr} {c : Nat} {zs ys L : List Int} {x : Int} {V5 V6 V7 V8 V9 V10 V11 V12 V13 V14 V15 V16 V17 V18 : Value} {l0 l1 l2 l3 l4 l5 l6 l7 l8 l9 l10 l11 l12 l13 l14 : Bool} {W W' : World} (h : CwRel w m a c zs ys L x V5 V6 V7 V8 V9 V10 V11 V12 V13 V14 V15 V16 V17 V18 l0 l1 l2 l3 l4 l5 l6 l7 l8 l9 l10 l11 l12 l13 l14 W) (hb : Below W.heap.size W W') : CwRel w m a c zs ys L x V5 V6 V7 V8 V9 V10 V11 V12 V13 V14 V15 V16 V17 V18 l0 l1 l2 l3 l4 l5 l6 l7 l8 l9 l10 l11 l12 l13 l14 W' where
  below := h.below.trans (hb.mono h.below.size)
  size := Nat.le_trans h.size hb.size
  res := (hb.block _ (lt_of_some h.res)).trans h.res
  e0 := h.e0
  e1 := h.e1
  e2 := h.e2
  e3 := h.e3
  e4 := h.e4
  e5 := h.e5
  e8 := h.e8
  e12 := h.e12
  e13 := h.e13
  e6 := fun hl => by obtain ⟨a1, c1, h1, h2⟩ := h.e6 hl; exact ⟨a1, c1, h1, own_below h2 hb (Nat.le_refl _)⟩
  e7 := fun hl => by obtain ⟨a1, c1, h1, h2⟩ := h.e7 hl; exact ⟨a1, c1, h1, own_below h2 hb (Nat.le_refl _)⟩
  e9 := fun hl => by obtain ⟨g, h1, h2, h3⟩ := h.e9 hl; exact ⟨g, h1, h2, (hb.block _ (lt_of_some h3)).trans h3⟩
  e10 := fun hl => by obtain ⟨g, a1, c1, k, h1, h2, h3, h4, h5, h6⟩ := h.e10 hl; exact ⟨g, a1, c1, k, h1, h2, (hb.block _ (lt_of_some h3)).trans h3, own_below h4 hb (Nat.le_refl _), h5, (hb.block _ (lt_of_some h6)).trans h6⟩
  e11 := fun hl => by obtain ⟨a1, c1, h1, h2⟩ := h.e11 hl; exact ⟨a1, c1, h1, own_below h2 hb (Nat.le_refl _)⟩
  m12 := h.m12
  box := fun hl => (hb.block _ (lt_of_some (h.box hl))).trans (h.box hl)
  fin := fun hl => by obtain ⟨h1, a1, c1, h2, h3⟩ := h.fin hl; exact ⟨h1, a1, c1, (hb.block _ (lt_of_some h2)).trans h2, own_below h3 hb (Nat.le_refl _)⟩

set_option maxRecDepth 100000 in
set_option maxHeartbeats 1600000 in
theorem concat3_any (a b b3 : Option Addr) (c d d3 s : Nat) (zs ys us : List Int) (w : World) (ha : Ints w w.heap.size a zs) (hb : Ints w w.heap.size b ys) (hb3 : Ints w w.heap.size b3 us) (hx : zs.length ≤ 1000) (hy : ys.length ≤ 1000) (hu : us.length ≤ 1000)
    (s0 : w.cell? ⟨s, 0, none⟩ = some (.slice a zs.length c)) (s1 : w.cell? ⟨s, 1, none⟩ = some (.slice b ys.length d)) (s2 : w.cell? ⟨s, 2, none⟩ = some (.slice b3 us.length d3)) :
    Calls Try.prog 45 #[.slice (some ⟨s, 0, none⟩) 3 3] w fun e w' => ∃ a' c', e = .returned (.slice a' (zs ++ ys ++ us).length c') ∧ OwnI w' w.heap.size (.slice a' (zs ++ ys ++ us).length c') (zs ++ ys ++ us) ∧ Below w.heap.size w w' := by
  have hs : s < w.heap.size := lt_of_cell s0
  have HA := Lib.hid ha
  have HB := Lib.hid hb
  have HU := Lib.hid hb3
  clear ha hb hb3
  go_enter Try.func45, Try.ntmps45
  go_wp2
  go_loop [3, 5, 11] (fun t e i => ∃ k : Nat, k ≤ 3 ∧ i = .int .i64 k ∧ t = .int .i64 (sumL3 zs.length ys.length us.length k)) (fun _ _ i => 3 - (intOf i).toNat)
  case atStart => exact ⟨0, by omega, rfl, rfl⟩
  case round =>
    obtain ⟨k, hk, rfl, rfl⟩ := hrel
    obtain rfl | rfl | rfl | rfl : k = 0 ∨ k = 1 ∨ k = 2 ∨ k = 3 := by omega
    · have e0 : sumL3 zs.length ys.length us.length 0 = 0 := rfl
      go_wp2
      go_round
      case rel => exact ⟨1, by omega, rfl, rfl⟩
      case measure => simp [intOf]
    · have H1 : Hid (sumL3 zs.length ys.length us.length 1 = zs.length) := Lib.hid rfl
      rw [H1.out]
      have h2 : (zs.length : Int) + (ys.length : Int) ≤ 2000 := by omega
      go_wp2
      go_round
      case rel => exact ⟨2, by omega, rfl, rfl⟩
      case measure => simp [intOf]
    · have H1 : Hid (sumL3 zs.length ys.length us.length 2 = zs.length + ys.length) := Lib.hid rfl
      rw [H1.out]
      have h2 : ((zs.length + ys.length : Nat) : Int) + (us.length : Int) ≤ 3000 := by omega
      go_wp2
      go_round
      case rel => exact ⟨3, by omega, rfl, rfl⟩
      case measure => simp [intOf]
    · have H2 : Hid (sumL3 zs.length ys.length us.length 3 = zs.length + ys.length + us.length) := Lib.hid rfl
      go_wp2_with fail
      refine (grow_any _ _ (by rw [H2.out]; omega)).mono ?_
      rintro e w1 ⟨g, cp, rfl, ho, hb⟩
      have HO := Lib.hid ho
      have HW := Lib.hid hb
      clear ho hb
      go_wp2
      go_loopw [6, 8, 27] (fun v e i wr => ∃ (k : Nat) (a' : Option Addr) (c' : Nat), k ≤ 3 ∧ i = .int .i64 k ∧ v = .slice a' (catP3 zs ys us k).length c' ∧ OwnI wr w.heap.size (.slice a' (catP3 zs ys us k).length c') (catP3 zs ys us k) ∧ Below w.heap.size w wr) (fun _ _ i _ => 3 - (intOf i).toNat)
      case atStart => exact ⟨0, _, _, by omega, rfl, rfl, HO.out, HW.out⟩
      case round =>
        obtain ⟨k, a', c', hk, rfl, rfl, ho, hb⟩ := hrel
        have y0 := (hb.cell (p := ⟨s, 0, none⟩) hs).trans s0
        have y1 := (hb.cell (p := ⟨s, 1, none⟩) hs).trans s1
        have y2 := (hb.cell (p := ⟨s, 2, none⟩) hs).trans s2
        have hsz := hb.size
        obtain rfl | rfl | rfl | rfl : k = 0 ∨ k = 1 ∨ k = 2 ∨ k = 3 := by omega
        · have P0 : catP3 zs ys us 0 = [] := rfl
          have P1 : catP3 zs ys us 1 = zs := rfl
          rw [P0] at ho
          obtain ⟨a2, c2, w2, hrun, ho2, hg2⟩ := app_run (n := 0) ho hsz a c zs ((HA.out.below hb).mono hsz) (by omega) (by omega)
          have HR := Lib.hid hrun
          have HO2 := Lib.hid ho2
          have HB2 := Lib.hid (hb.grown hg2 hsz (fun g e => (World.ownsRow.lt ho g e).1))
          rw [P0]
          clear hrun ho2 hg2 ho hb
          go_wp2_with (at_builtin; refine Lib.wpList_append_run _ rfl _ _ 23 23 rfl _ _ rfl rfl _ _ HR.out ?_)
          go_roundw
          case rel => exact ⟨1, a2, c2, by omega, rfl, by rw [P1], by have h := HO2.out; rw [P1]; unfold OwnI; simpa using h, HB2.out⟩
          case measure => simp [intOf]
        · have P1 : catP3 zs ys us 1 = zs := rfl
          have P2 : catP3 zs ys us 2 = zs ++ ys := rfl
          rw [P1] at ho
          obtain ⟨a2, c2, w2, hrun, ho2, hg2⟩ := app_run ho hsz b d ys ((HB.out.below hb).mono hsz) (by omega) (by omega)
          have HR := Lib.hid hrun
          have HO2 := Lib.hid ho2
          have HB2 := Lib.hid (hb.grown hg2 hsz (fun g e => (World.ownsRow.lt ho g e).1))
          rw [P1]
          clear hrun ho2 hg2 ho hb
          go_wp2_with (at_builtin; refine Lib.wpList_append_run _ rfl _ _ 23 23 rfl _ _ rfl rfl _ _ HR.out ?_)
          go_roundw
          case rel => exact ⟨2, a2, c2, by omega, rfl, by rw [P2]; simp, by have h := HO2.out; rw [P2]; unfold OwnI; simpa using h, HB2.out⟩
          case measure => simp [intOf]
        · have P2 : catP3 zs ys us 2 = zs ++ ys := rfl
          have P3 : catP3 zs ys us 3 = zs ++ ys ++ us := rfl
          rw [P2] at ho
          obtain ⟨a2, c2, w2, hrun, ho2, hg2⟩ := app_run ho hsz b3 d3 us ((HU.out.below hb).mono hsz) (by rw [List.length_append]; omega) (by omega)
          have HR := Lib.hid hrun
          have HO2 := Lib.hid ho2
          have HB2 := Lib.hid (hb.grown hg2 hsz (fun g e => (World.ownsRow.lt ho g e).1))
          rw [P2]
          clear hrun ho2 hg2 ho hb
          go_wp2_with (at_builtin; refine Lib.wpList_append_run _ rfl _ _ 23 23 rfl _ _ rfl rfl _ _ HR.out ?_)
          go_roundw
          case rel => exact ⟨3, a2, c2, by omega, rfl, by rw [P3]; simp [Nat.add_assoc], by have h := HO2.out; rw [P3]; unfold OwnI; simpa [Nat.add_assoc] using h, HB2.out⟩
          case measure => simp [intOf]
        · have P3 : catP3 zs ys us 3 = zs ++ ys ++ us := rfl
          rw [P3] at ho ⊢
          have HO2 := Lib.hid ho
          have HB2 := Lib.hid hb
          clear ho hb
          go_wp2
          go_ret
          exact ⟨a', c', rfl, HO2.out, HB2.out⟩

theorem blk_set1 {w : World} {b : Nat} {u v : Value} {t : TypeId} (h : HasBlk w b #[u, v] t) (y : Value) : HasBlk (w.setCell ⟨b, 1, none⟩ y) b #[u, y] t := heap_setCell_same w b 1 _ t y h
set_option maxRecDepth 100000 in
set_option maxHeartbeats 40000000 in
theorem closedWith_any (m x : Int) (a : Option Addr) (c : Nat) (zs : List Int) (w : World) (ha : Ints w w.heap.size a zs) (hx : zs.length ≤ 300) :
    Calls Try.prog 37 #[.agg #[.int .i64 m, .slice a zs.length c], .int .i64 x] w (RetFam w m (clP x zs)) := by
  have hmx : Try.prog.follows .mixedOrders = true := by kernel_rfl
  obtain ⟨ys, hys⟩ : ∃ ys, ys = zs.map fun z => bits .and .i64 z x := ⟨_, rfl⟩
  have hyl : ys.length = zs.length := by rw [hys, List.length_map]
  have HCL : Hid (clP x zs = simpZ (zs ++ ys ++ [x])) := Lib.hid (by unfold clP; rw [hys])
  have HLL : Hid ((zs ++ ys ++ [x]).length ≤ 1048576) := Lib.hid (by rw [List.length_append, List.length_append, hyl]; simp; omega)
  have HSIM := Lib.hid (fun (b : Option Addr) (d : Nat) (W : World) (hb : Ints W W.heap.size b (zs ++ ys ++ [x])) => simple_any m b d (zs ++ ys ++ [x]) W hb HLL.out)
  have HON := Lib.hid (fun (W : World) (hB : Below w.heap.size w W) (hS : w.heap.size + 2 ≤ W.heap.size) => only_any m x a c zs W ((ha.below hB).mono (by omega)) (by omega))
  rw [← hys] at HON
  have hy3 : ys.length ≤ 300 := by omega
  have HCN : Hid (∀ (W : World) (g : Nat) (a1 : Option Addr) (c1 h : Nat), Below w.heap.size w W → w.heap.size + 2 ≤ W.heap.size → HasBlk W g #[.slice a zs.length c, .slice a1 ys.length c1, .slice (some ⟨h, 0, none⟩) 1 1] 23 → OwnI W (w.heap.size + 2) (.slice a1 ys.length c1) ys → HasBlk W h #[.int .i64 x] 3 →
      Calls Try.prog 45 #[.slice (some ⟨g, 0, none⟩) 3 3] W fun e w' => ∃ a' c', e = .returned (.slice a' (zs ++ ys ++ [x]).length c') ∧ OwnI w' W.heap.size (.slice a' (zs ++ ys ++ [x]).length c') (zs ++ ys ++ [x]) ∧ Below W.heap.size W w') := Lib.hid (fun W g a1 c1 h hB hS hg ho hx1 =>
    concat3_any a a1 (some ⟨h, 0, none⟩) c c1 1 g zs ys [x] W ((ha.below hB).mono (by omega)) (own_ints ho) (.inr ⟨h, 0, rfl, lt_of_some hx1, fun j hj => by
      have : j = 0 := by simpa using hj
      subst this
      exact blk_cell hx1 0⟩) (by omega) (by omega) (by simp) (blk_cell hg 0) (blk_cell hg 1) (blk_cell hg 2))
  obtain ⟨L, hL⟩ : ∃ L, L = zs ++ ys ++ [x] := ⟨_, rfl⟩
  rw [← hL] at HLL HSIM HCL HCN
  clear hL
  obtain ⟨W2, hW2, q0, q1, hs2, hb2⟩ : ∃ W2, (w.alloc (.cells #[.int .i64 m, .slice a zs.length c] 43)).alloc (.cells #[.int .i64 0, .slice none 0 0] 43) = W2 ∧ HasBlk W2 w.heap.size #[.int .i64 m, .slice a zs.length c] 43 ∧ HasBlk W2 (w.heap.size + 1) #[.int .i64 0, .slice none 0 0] 43 ∧ W2.heap.size = w.heap.size + 2 ∧ Below w.heap.size w W2 :=
    ⟨_, rfl, alloc2_0 w _ _, alloc2_1 w _ _, by simp, below2 w _ _⟩
  have HR0 : Hid (CwRel w m a c zs ys L x undef undef undef undef undef undef undef undef undef undef undef undef undef undef false false false false false false false false false false false false false false false W2.drew) := Lib.hid
    ⟨hb2.drew, by show _ ≤ W2.heap.size; omega, q1, (fun h => by cases h), (fun h => by cases h), (fun h => by cases h), (fun h => by cases h), (fun h => by cases h), (fun h => by cases h), (fun h => by cases h), (fun h => by cases h), (fun h => by cases h), (fun h => by cases h), (fun h => by cases h), (fun h => by cases h), (fun h => by cases h), (fun h => by cases h), (fun h => by cases h), fun _ => q0, (fun h => by cases h)⟩
  have HW2 := Lib.hid hW2
  clear ha hys hyl q0 q1 hs2 hb2 hW2 hx hy3
  go_enter Try.func37, Try.ntmps37
  go_wp2
  rw [HW2.out]
  clear HW2
  refine wp_region_kept (I := fun ls a' W'' => ∃ V5 V6 V7 V8 V9 V10 V11 V12 V13 V14 V15 V16 V17 V18 : Value, a' = { tmps := #[.agg #[.int .i64 m, .slice a zs.length c], .int .i64 x, .pointer (some ⟨w.heap.size, 0, none⟩), undef, .pointer (some ⟨w.heap.size + 1, 0, none⟩), V5, V6, V7, V8, V9, V10, V11, V12, V13, V14, V15, V16, V17, V18, undef, undef, undef, undef], defers := [] } ∧ CwRel w m a c zs ys L x V5 V6 V7 V8 V9 V10 V11 V12 V13 V14 V15 V16 V17 V18 (ls.getD 0 false) (ls.getD 1 false) (ls.getD 2 false) (ls.getD 3 false) (ls.getD 4 false) (ls.getD 5 false) (ls.getD 6 false) (ls.getD 7 false) (ls.getD 8 false) (ls.getD 9 false) (ls.getD 10 false) (ls.getD 11 false) (ls.getD 12 false) (ls.getD 13 false) (ls.getD 14 false) W'') hmx (by kernel_rfl) ⟨undef, undef, undef, undef, undef, undef, undef, undef, undef, undef, undef, undef, undef, undef, rfl, HR0.out⟩ ?step ?fin
  case step =>
    intro listed a' W'' i hsz hi hS
    obtain ⟨l0, l1, l2, l3, l4, l5, l6, l7, l8, l9, l10, l11, l12, l13, l14, rfl⟩ := arr15 listed hsz
    obtain ⟨hi1, hi2⟩ := List.mem_filter.1 hi
    have hi8 : i < 15 := by simpa using hi1
    obtain ⟨V5, V6, V7, V8, V9, V10, V11, V12, V13, V14, V15, V16, V17, V18, rfl, hS⟩ := hS
    have R := Lib.hid (show CwRel w m a c zs ys L x V5 V6 V7 V8 V9 V10 V11 V12 V13 V14 V15 V16 V17 V18 l0 l1 l2 l3 l4 l5 l6 l7 l8 l9 l10 l11 l12 l13 l14 W'' from hS)
    clear hi hi1 hsz hS
    have hcase : i = 0 ∨ i = 1 ∨ i = 2 ∨ i = 3 ∨ i = 4 ∨ i = 5 ∨ i = 6 ∨ i = 7 ∨ i = 8 ∨ i = 9 ∨ i = 10 ∨ i = 11 ∨ i = 12 ∨ i = 13 ∨ i = 14 := by omega
    rcases hcase with rfl | rfl | rfl | rfl | rfl | rfl | rfl | rfl | rfl | rfl | rfl | rfl | rfl | rfl | rfl
    · have gs : l0 = false := by simp [Region.binds] at hi2; simp_all
      have gf : l14 = false := by cases h : l14 <;> first | rfl | (have h9 := (R.out.fin h).1; simp at h9; simp_all)
      subst gs
      subst gf
      clear hi2
      refine wpOp_of_list rfl ?_
      go_wp2
      exact ⟨_, V6, V7, V8, V9, V10, V11, V12, V13, V14, V15, V16, V17, V18, rfl, ⟨(R.out.below), (R.out.size), (R.out.res), (fun _ => rfl), (R.out.e1), (R.out.e2), (R.out.e3), (R.out.e4), (R.out.e5), (R.out.e8), (R.out.e12), (R.out.e13), (R.out.e6), (R.out.e7), (R.out.e9), (R.out.e10), (R.out.e11), (R.out.m12), (R.out.box), (fun h => by cases h)⟩⟩
    · have g0 : l0 = true := by simp [Region.binds] at hi2; simp_all
      have gs : l1 = false := by simp [Region.binds] at hi2; simp_all
      have gf : l14 = false := by cases h : l14 <;> first | rfl | (have h9 := (R.out.fin h).1; simp at h9; simp_all)
      subst g0
      subst gs
      subst gf
      clear hi2
      obtain rfl := R.out.e0 rfl
      refine wpOp_of_list rfl ?_
      go_wp2
      exact ⟨_, _, V7, V8, V9, V10, V11, V12, V13, V14, V15, V16, V17, V18, rfl, ⟨(R.out.below), (R.out.size), (R.out.res), (R.out.e0), (fun _ => rfl), (R.out.e2), (R.out.e3), (R.out.e4), (R.out.e5), (R.out.e8), (R.out.e12), (R.out.e13), (R.out.e6), (R.out.e7), (R.out.e9), (R.out.e10), (R.out.e11), (R.out.m12), (R.out.box), (fun h => by cases h)⟩⟩
    · have g1 : l1 = true := by simp [Region.binds] at hi2; simp_all
      have gs : l2 = false := by simp [Region.binds] at hi2; simp_all
      have gf : l14 = false := by cases h : l14 <;> first | rfl | (have h9 := (R.out.fin h).1; simp at h9; simp_all)
      subst g1
      subst gs
      subst gf
      clear hi2
      obtain rfl := R.out.e1 rfl
      have b0 := R.out.box rfl
      have x0 := (blk_cell b0 0).trans (cell2_0 _ _)
      have x1 := (blk_cell b0 1).trans (cell2_1 _ _)
      refine wpOp_of_list rfl ?_
      go_wp2
      exact ⟨V5, _, _, V8, V9, V10, V11, V12, V13, V14, V15, V16, V17, V18, rfl, ⟨(R.out.below), (R.out.size), (R.out.res), (R.out.e0), (R.out.e1), (fun _ => rfl), (R.out.e3), (R.out.e4), (R.out.e5), (R.out.e8), (R.out.e12), (R.out.e13), (R.out.e6), (R.out.e7), (R.out.e9), (R.out.e10), (R.out.e11), (R.out.m12), (R.out.box), (fun h => by cases h)⟩⟩
    · have gs : l3 = false := by simp [Region.binds] at hi2; simp_all
      have gf : l14 = false := by cases h : l14 <;> first | rfl | (have h9 := (R.out.fin h).1; simp at h9; simp_all)
      subst gs
      subst gf
      clear hi2
      refine wpOp_of_list rfl ?_
      go_wp2
      exact ⟨V5, V6, V7, _, V9, V10, V11, V12, V13, V14, V15, V16, V17, V18, rfl, ⟨(R.out.below), (R.out.size), (R.out.res), (R.out.e0), (R.out.e1), (R.out.e2), (fun _ => rfl), (R.out.e4), (R.out.e5), (R.out.e8), (R.out.e12), (R.out.e13), (R.out.e6), (R.out.e7), (R.out.e9), (R.out.e10), (R.out.e11), (R.out.m12), (R.out.box), (fun h => by cases h)⟩⟩
    · have g3 : l3 = true := by simp [Region.binds] at hi2; simp_all
      have gs : l4 = false := by simp [Region.binds] at hi2; simp_all
      have gf : l14 = false := by cases h : l14 <;> first | rfl | (have h9 := (R.out.fin h).1; simp at h9; simp_all)
      subst g3
      subst gs
      subst gf
      clear hi2
      obtain rfl := R.out.e3 rfl
      have b0 := R.out.box rfl
      have x0 := (blk_cell b0 0).trans (cell2_0 _ _)
      have x1 := (blk_cell b0 1).trans (cell2_1 _ _)
      refine wpOp_of_list rfl ?_
      go_wp2
      exact ⟨V5, V6, V7, _, _, V10, V11, V12, V13, V14, V15, V16, V17, V18, rfl, ⟨(R.out.below), (R.out.size), (R.out.res), (R.out.e0), (R.out.e1), (R.out.e2), (R.out.e3), (fun _ => rfl), (R.out.e5), (R.out.e8), (R.out.e12), (R.out.e13), (R.out.e6), (R.out.e7), (R.out.e9), (R.out.e10), (R.out.e11), (R.out.m12), (R.out.box), (fun h => by cases h)⟩⟩
    · have gs : l5 = false := by simp [Region.binds] at hi2; simp_all
      have gf : l14 = false := by cases h : l14 <;> first | rfl | (have h9 := (R.out.fin h).1; simp at h9; simp_all)
      subst gs
      subst gf
      clear hi2
      refine wpOp_of_list rfl ?_
      go_wp2
      exact ⟨V5, V6, V7, V8, V9, _, V11, V12, V13, V14, V15, V16, V17, V18, rfl, ⟨(R.out.below), (R.out.size), (R.out.res), (R.out.e0), (R.out.e1), (R.out.e2), (R.out.e3), (R.out.e4), (fun _ => rfl), (R.out.e8), (R.out.e12), (R.out.e13), (R.out.e6), (R.out.e7), (R.out.e9), (R.out.e10), (R.out.e11), (R.out.m12), (R.out.box), (fun h => by cases h)⟩⟩
    · have g4 : l4 = true := by simp [Region.binds] at hi2; simp_all
      have g5 : l5 = true := by simp [Region.binds] at hi2; simp_all
      have gs : l6 = false := by simp [Region.binds] at hi2; simp_all
      have gf : l14 = false := by cases h : l14 <;> first | rfl | (have h9 := (R.out.fin h).1; simp at h9; simp_all)
      subst g4
      subst g5
      subst gs
      subst gf
      clear hi2
      obtain rfl := R.out.e4 rfl
      obtain rfl := R.out.e5 rfl
      refine wpOp_of_list rfl ?_
      go_wp2_with fail
      refine (HON.out _ R.out.below R.out.size).mono ?_
      rintro e w9 ⟨a1, c1, rfl, ho9, hb9⟩
      have R9 := R.out.step hb9
      have HO9 := Lib.hid (own_mono ho9 R.out.size)
      have HR9 := Lib.hid R9
      clear R9 ho9 hb9
      go_wp2
      exact ⟨V5, V6, V7, V8, _, _, _, V12, V13, V14, V15, V16, V17, V18, rfl, ⟨(HR9.out.below), (HR9.out.size), (HR9.out.res), (HR9.out.e0), (HR9.out.e1), (HR9.out.e2), (HR9.out.e3), (HR9.out.e4), (HR9.out.e5), (HR9.out.e8), (HR9.out.e12), (HR9.out.e13), (fun _ => ⟨a1, c1, rfl, HO9.out⟩), (HR9.out.e7), (HR9.out.e9), (HR9.out.e10), (HR9.out.e11), (HR9.out.m12), (HR9.out.box), (fun h => by cases h)⟩⟩
    · have g6 : l6 = true := by simp [Region.binds] at hi2; simp_all
      have gs : l7 = false := by simp [Region.binds] at hi2; simp_all
      have gf : l14 = false := by cases h : l14 <;> first | rfl | (have h9 := (R.out.fin h).1; simp at h9; simp_all)
      subst g6
      subst gs
      subst gf
      clear hi2
      obtain ⟨a1, c1, rfl, ho⟩ := R.out.e6 rfl
      have HO := Lib.hid ho
      clear ho
      have hff := field_fam
      refine wpOp_of_list rfl ?_
      go_wp2
      exact ⟨V5, V6, V7, V8, V9, V10, _, _, V13, V14, V15, V16, V17, V18, rfl, ⟨(R.out.below), (R.out.size), (R.out.res), (R.out.e0), (R.out.e1), (R.out.e2), (R.out.e3), (R.out.e4), (R.out.e5), (R.out.e8), (R.out.e12), (R.out.e13), (R.out.e6), (fun _ => ⟨a1, c1, rfl, HO.out⟩), (R.out.e9), (R.out.e10), (R.out.e11), (R.out.m12), (R.out.box), (fun h => by cases h)⟩⟩
    · have gs : l8 = false := by simp [Region.binds] at hi2; simp_all
      have gf : l14 = false := by cases h : l14 <;> first | rfl | (have h9 := (R.out.fin h).1; simp at h9; simp_all)
      subst gs
      subst gf
      clear hi2
      refine wpOp_of_list rfl ?_
      go_wp2
      exact ⟨V5, V6, V7, V8, V9, V10, V11, V12, _, V14, V15, V16, V17, V18, rfl, ⟨(R.out.below), (R.out.size), (R.out.res), (R.out.e0), (R.out.e1), (R.out.e2), (R.out.e3), (R.out.e4), (R.out.e5), (fun _ => rfl), (R.out.e12), (R.out.e13), (R.out.e6), (R.out.e7), (R.out.e9), (R.out.e10), (R.out.e11), (R.out.m12), (R.out.box), (fun h => by cases h)⟩⟩
    · have g8 : l8 = true := by simp [Region.binds] at hi2; simp_all
      have gs : l9 = false := by simp [Region.binds] at hi2; simp_all
      have gf : l14 = false := by cases h : l14 <;> first | rfl | (have h9 := (R.out.fin h).1; simp at h9; simp_all)
      subst g8
      subst gs
      subst gf
      clear hi2
      obtain rfl := R.out.e8 rfl
      have hb9 := below1 W'' (.cells #[.int .i64 x] 3)
      have HN9 := Lib.hid (alloc_new W'' (.cells #[.int .i64 x] 3))
      have HR9 := Lib.hid (R.out.step hb9)
      clear hb9
      refine wpOp_of_list rfl ?_
      go_wp2
      exact ⟨V5, V6, V7, V8, V9, V10, V11, V12, _, _, V15, V16, V17, V18, rfl, ⟨(HR9.out.below), (HR9.out.size), (HR9.out.res), (HR9.out.e0), (HR9.out.e1), (HR9.out.e2), (HR9.out.e3), (HR9.out.e4), (HR9.out.e5), (HR9.out.e8), (HR9.out.e12), (HR9.out.e13), (HR9.out.e6), (HR9.out.e7), (fun _ => ⟨_, rfl, R.out.size, HN9.out⟩), (HR9.out.e10), (HR9.out.e11), (HR9.out.m12), (HR9.out.box), (fun h => by cases h)⟩⟩
    · have g2 : l2 = true := by simp [Region.binds] at hi2; simp_all
      have g7 : l7 = true := by simp [Region.binds] at hi2; simp_all
      have g9 : l9 = true := by simp [Region.binds] at hi2; simp_all
      have gs : l10 = false := by simp [Region.binds] at hi2; simp_all
      have gf : l14 = false := by cases h : l14 <;> first | rfl | (have h9 := (R.out.fin h).1; simp at h9; simp_all)
      subst g2
      subst g7
      subst g9
      subst gs
      subst gf
      clear hi2
      obtain rfl := R.out.e2 rfl
      obtain ⟨a1, c1, rfl, ho⟩ := R.out.e7 rfl
      obtain ⟨h, rfl, hh, hx⟩ := R.out.e9 rfl
      have hb9 := below1 W'' (.cells #[.slice a zs.length c, .slice a1 ys.length c1, .slice (some ⟨h, 0, none⟩) 1 1] 23)
      have HN9 := Lib.hid (alloc_new W'' (.cells #[.slice a zs.length c, .slice a1 ys.length c1, .slice (some ⟨h, 0, none⟩) 1 1] 23))
      have HR9 := Lib.hid (R.out.step hb9)
      have HO9 := Lib.hid (own_below ho hb9 (Nat.le_refl _))
      have HX9 := Lib.hid ((hb9.block _ (lt_of_some hx)).trans hx)
      have HH := Lib.hid hh
      clear hb9 ho hx hh
      refine wpOp_of_list rfl ?_
      go_wp2
      exact ⟨V5, V6, _, V8, V9, V10, V11, _, V13, _, _, V16, V17, V18, rfl, ⟨(HR9.out.below), (HR9.out.size), (HR9.out.res), (HR9.out.e0), (HR9.out.e1), (HR9.out.e2), (HR9.out.e3), (HR9.out.e4), (HR9.out.e5), (HR9.out.e8), (HR9.out.e12), (HR9.out.e13), (HR9.out.e6), (HR9.out.e7), (HR9.out.e9), (fun _ => ⟨_, a1, c1, h, rfl, R.out.size, HN9.out, HO9.out, HH.out, HX9.out⟩), (HR9.out.e11), (HR9.out.m12), (HR9.out.box), (fun h => by cases h)⟩⟩
    · have g10 : l10 = true := by simp [Region.binds] at hi2; simp_all
      have g6 : l6 = true := by simp [Region.binds] at hi2; simp_all
      have gs : l11 = false := by simp [Region.binds] at hi2; simp_all
      have gf : l14 = false := by cases h : l14 <;> first | rfl | (have h9 := (R.out.fin h).1; simp at h9; simp_all)
      subst g10
      subst g6
      subst gs
      subst gf
      clear hi2
      obtain ⟨g, a1, c1, h, rfl, hg, hgb, ho, hh, hx⟩ := R.out.e10 rfl
      have HCC := Lib.hid (HCN.out W'' g a1 c1 h R.out.below R.out.size hgb ho hx)
      clear hg hgb ho hh hx
      refine wpOp_of_list rfl ?_
      go_wp2_with fail
      refine HCC.out.mono ?_
      rintro e w9 ⟨a2, c2, rfl, ho9, hb9⟩
      have R9 := R.out.step hb9
      have HO9 := Lib.hid (own_mono ho9 R.out.size)
      have HR9 := Lib.hid R9
      clear R9 ho9 hb9
      go_wp2
      exact ⟨V5, V6, V7, V8, V9, V10, V11, V12, V13, V14, _, _, V17, V18, rfl, ⟨(HR9.out.below), (HR9.out.size), (HR9.out.res), (HR9.out.e0), (HR9.out.e1), (HR9.out.e2), (HR9.out.e3), (HR9.out.e4), (HR9.out.e5), (HR9.out.e8), (HR9.out.e12), (HR9.out.e13), (HR9.out.e6), (HR9.out.e7), (HR9.out.e9), (HR9.out.e10), (fun _ => ⟨a2, c2, by first | rfl | simp, HO9.out⟩), (HR9.out.m12), (HR9.out.box), (fun h => by cases h)⟩⟩
    · have g0 : l0 = true := by simp [Region.binds] at hi2; simp_all
      have g1 : l1 = true := by simp [Region.binds] at hi2; simp_all
      have g2 : l2 = true := by simp [Region.binds] at hi2; simp_all
      have g3 : l3 = true := by simp [Region.binds] at hi2; simp_all
      have g4 : l4 = true := by simp [Region.binds] at hi2; simp_all
      have g5 : l5 = true := by simp [Region.binds] at hi2; simp_all
      have g6 : l6 = true := by simp [Region.binds] at hi2; simp_all
      have g7 : l7 = true := by simp [Region.binds] at hi2; simp_all
      have g8 : l8 = true := by simp [Region.binds] at hi2; simp_all
      have g9 : l9 = true := by simp [Region.binds] at hi2; simp_all
      have g10 : l10 = true := by simp [Region.binds] at hi2; simp_all
      have g11 : l11 = true := by simp [Region.binds] at hi2; simp_all
      have gs : l12 = false := by simp [Region.binds] at hi2; simp_all
      have gf : l14 = false := by cases h : l14 <;> first | rfl | (have h9 := (R.out.fin h).1; simp at h9; simp_all)
      subst g0
      subst g1
      subst g2
      subst g3
      subst g4
      subst g5
      subst g6
      subst g7
      subst g8
      subst g9
      subst g10
      subst g11
      subst gs
      subst gf
      clear hi2
      refine wpOp_of_list rfl ?_
      go_wp2
      exact ⟨V5, V6, V7, V8, V9, V10, V11, V12, V13, V14, V15, V16, _, V18, rfl, ⟨(R.out.below), (R.out.size), (R.out.res), (R.out.e0), (R.out.e1), (R.out.e2), (R.out.e3), (R.out.e4), (R.out.e5), (R.out.e8), (fun _ => rfl), (R.out.e13), (R.out.e6), (R.out.e7), (R.out.e9), (R.out.e10), (R.out.e11), (fun _ => rfl), (R.out.box), (fun h => by cases h)⟩⟩
    · have g0 : l0 = true := by simp [Region.binds] at hi2; simp_all
      have g1 : l1 = true := by simp [Region.binds] at hi2; simp_all
      have g2 : l2 = true := by simp [Region.binds] at hi2; simp_all
      have g3 : l3 = true := by simp [Region.binds] at hi2; simp_all
      have g4 : l4 = true := by simp [Region.binds] at hi2; simp_all
      have g5 : l5 = true := by simp [Region.binds] at hi2; simp_all
      have g6 : l6 = true := by simp [Region.binds] at hi2; simp_all
      have g7 : l7 = true := by simp [Region.binds] at hi2; simp_all
      have g8 : l8 = true := by simp [Region.binds] at hi2; simp_all
      have g9 : l9 = true := by simp [Region.binds] at hi2; simp_all
      have g10 : l10 = true := by simp [Region.binds] at hi2; simp_all
      have g11 : l11 = true := by simp [Region.binds] at hi2; simp_all
      have g12 : l12 = true := by simp [Region.binds] at hi2; simp_all
      have gs : l13 = false := by simp [Region.binds] at hi2; simp_all
      have gf : l14 = false := by cases h : l14 <;> first | rfl | (have h9 := (R.out.fin h).1; simp at h9; simp_all)
      subst g0
      subst g1
      subst g2
      subst g3
      subst g4
      subst g5
      subst g6
      subst g7
      subst g8
      subst g9
      subst g10
      subst g11
      subst g12
      subst gs
      subst gf
      clear hi2
      obtain rfl := R.out.e12 rfl
      refine wpOp_of_list rfl ?_
      go_wp2
      exact ⟨V5, V6, V7, V8, V9, V10, V11, V12, V13, V14, V15, V16, _, _, rfl, ⟨(R.out.below), (R.out.size), (R.out.res), (R.out.e0), (R.out.e1), (R.out.e2), (R.out.e3), (R.out.e4), (R.out.e5), (R.out.e8), (R.out.e12), (fun _ => rfl), (R.out.e6), (R.out.e7), (R.out.e9), (R.out.e10), (R.out.e11), (fun _ => rfl), (R.out.box), (fun h => by cases h)⟩⟩
    · have g0 : l0 = true := by simp [Region.binds] at hi2; simp_all
      have g1 : l1 = true := by simp [Region.binds] at hi2; simp_all
      have g2 : l2 = true := by simp [Region.binds] at hi2; simp_all
      have g3 : l3 = true := by simp [Region.binds] at hi2; simp_all
      have g4 : l4 = true := by simp [Region.binds] at hi2; simp_all
      have g5 : l5 = true := by simp [Region.binds] at hi2; simp_all
      have g6 : l6 = true := by simp [Region.binds] at hi2; simp_all
      have g7 : l7 = true := by simp [Region.binds] at hi2; simp_all
      have g8 : l8 = true := by simp [Region.binds] at hi2; simp_all
      have g9 : l9 = true := by simp [Region.binds] at hi2; simp_all
      have g10 : l10 = true := by simp [Region.binds] at hi2; simp_all
      have g11 : l11 = true := by simp [Region.binds] at hi2; simp_all
      have g13 : l13 = true := by simp [Region.binds] at hi2; simp_all
      have g12 : l12 = true := R.out.m12 g13
      have gs : l14 = false := by simp [Region.binds] at hi2; simp_all
      subst g0
      subst g1
      subst g2
      subst g3
      subst g4
      subst g5
      subst g6
      subst g7
      subst g8
      subst g9
      subst g10
      subst g11
      subst g13
      subst g12
      subst gs
      clear hi2
      obtain rfl := R.out.e13 rfl
      obtain ⟨a2, c2, rfl, ho⟩ := R.out.e11 rfl
      have b0 := R.out.box rfl
      have HB0' := Lib.hid b0
      have HO := Lib.hid ho
      clear ho
      have x1 := (blk_cell b0 1).trans (cell2_1 _ _)
      have f1 := blk_frozen b0 1
      clear b0
      refine wpOp_of_list rfl ?_
      go_wp2
      exact ⟨V5, V6, V7, V8, V9, V10, V11, V12, V13, V14, V15, _, V17, _, rfl, ⟨(R.out.below.setCell (p := ⟨w.heap.size, 1, none⟩) (Nat.le_refl _) _), (by rw [World.size_setCell]; exact R.out.size), (HasBlk.far (p := ⟨w.heap.size, 1, none⟩) R.out.res (show w.heap.size + 1 ≠ w.heap.size by omega) _), (R.out.e0), (R.out.e1), (R.out.e2), (R.out.e3), (R.out.e4), (R.out.e5), (R.out.e8), (R.out.e12), (R.out.e13), (fun hl => by obtain ⟨a3, c3, h1, h2⟩ := R.out.e6 hl; exact ⟨a3, c3, h1, ownsRow_setCell_below h2 (a := ⟨w.heap.size, 1, none⟩) (show w.heap.size < w.heap.size + 2 by omega) _⟩), (fun hl => by obtain ⟨a3, c3, h1, h2⟩ := R.out.e7 hl; exact ⟨a3, c3, h1, ownsRow_setCell_below h2 (a := ⟨w.heap.size, 1, none⟩) (show w.heap.size < w.heap.size + 2 by omega) _⟩), (fun hl => by obtain ⟨g, h1, h2, h3⟩ := R.out.e9 hl; exact ⟨g, h1, h2, HasBlk.far (p := ⟨w.heap.size, 1, none⟩) h3 (show g ≠ w.heap.size by omega) _⟩), (fun hl => by obtain ⟨g, a3, c3, k, h1, h2, h3, h4, h5, h6⟩ := R.out.e10 hl; exact ⟨g, a3, c3, k, h1, h2, HasBlk.far (p := ⟨w.heap.size, 1, none⟩) h3 (show g ≠ w.heap.size by omega) _, ownsRow_setCell_below h4 (a := ⟨w.heap.size, 1, none⟩) (show w.heap.size < w.heap.size + 2 by omega) _, h5, HasBlk.far (p := ⟨w.heap.size, 1, none⟩) h6 (show k ≠ w.heap.size by omega) _⟩), (fun hl => by obtain ⟨a3, c3, h1, h2⟩ := R.out.e11 hl; exact ⟨a3, c3, h1, ownsRow_setCell_below h2 (a := ⟨w.heap.size, 1, none⟩) (show w.heap.size < w.heap.size + 2 by omega) _⟩), (R.out.m12), (fun h => by cases h), (fun _ => ⟨rfl, a2, c2, blk_set1 HB0'.out _, ownsRow_setCell_below HO.out (a := ⟨w.heap.size, 1, none⟩) (show w.heap.size < w.heap.size + 2 by omega) _⟩)⟩⟩
  case fin =>
    intro listed a' W'' hsz hall hS
    obtain ⟨l0, l1, l2, l3, l4, l5, l6, l7, l8, l9, l10, l11, l12, l13, l14, rfl⟩ := arr15 listed hsz
    simp at hall
    obtain ⟨rfl, rfl, rfl, rfl, rfl, rfl, rfl, rfl, rfl, rfl, rfl, rfl, rfl, rfl, rfl⟩ := hall
    obtain ⟨V5, V6, V7, V8, V9, V10, V11, V12, V13, V14, V15, V16, V17, V18, rfl, hS⟩ := hS
    obtain ⟨-, a2, c2, hbx, hor⟩ := hS.fin rfl
    have HX := Lib.hid hbx
    have HRS := Lib.hid hS.res
    have HO := Lib.hid hor
    have HBL := Lib.hid hS.below
    have hsz2 := hS.size
    have x0 := (blk_cell hbx 0).trans (cell2_0 _ _)
    have x1 := (blk_cell hbx 1).trans (cell2_1 _ _)
    clear hS hbx hor hsz
    have HSM := Lib.hid (HSIM.out a2 c2 W'' (own_ints HO.out))
    clear HX
    go_wp2_with fail
    refine HSM.out.mono ?_
    rintro e w8 ⟨a8, c8, rfl, ho8, hb8⟩
    have h8 := (hb8.block _ (lt_of_some HRS.out)).trans HRS.out
    have d0 := (blk_cell h8 0).trans (cell2_0 _ _)
    have d1 := (blk_cell h8 1).trans (cell2_1 _ _)
    have f0 := blk_frozen h8 0
    have f1 := blk_frozen h8 1
    have HO8 := Lib.hid ho8
    have HB8 := Lib.hid (HBL.out.trans (hb8.mono HBL.out.size))
    clear ho8 hb8 h8
    go_wp2
    refine bodyPost_ret (v := .agg #[.int .i64 m, .slice a8 (simpZ L).length c8]) (by simp [results, Try.results37, go_sem, d0, d1]) rfl ?_
    refine ⟨a8, c8, by rw [HCL.out], ?_, ?_⟩
    · rw [HCL.out]; exact own_mono (ownsRow_setCell_below (ownsRow_setCell_below HO8.out (a := ⟨w.heap.size + 1, 0, none⟩) (show w.heap.size + 1 < W''.heap.size by omega) _) (a := ⟨w.heap.size + 1, 1, none⟩) (show w.heap.size + 1 < W''.heap.size by omega) _) (by omega)
    · exact (HB8.out.setCell (p := ⟨w.heap.size + 1, 0, none⟩) (by show w.heap.size ≤ w.heap.size + 1; omega) _).setCell (p := ⟨w.heap.size + 1, 1, none⟩) (by show w.heap.size ≤ w.heap.size + 1; omega) _

end Go.Proofs.Ytckbhhaigpajpaa
