/- It is proved that the drawn family is one of the call's own; conditions: those of each statement. -/
import Derived.Deep.RegionLaw
import Derived.Deep.AppendLies
import Derived.Test.YtckbhhaigpajpaaDoorRows
import Derived.WalkKit
import Derived.WalkSpells
import Derived.ProofKit
import Derived.OpenShut
import Derived.ShutString
import Derived.ChangeOld
import Derived.Below
import Derived.Deep.RegionHeld3
import Derived.Deep.QuietTactic
import Derived.BigQuiet
import Derived.Lib.Hide
import Derived.Lib.SmallJoins
import Derived.Outline
import Derived.Laws.MakeOwn
import Derived.Laws.OwnMore
import Derived.IntWalk
import Derived.RangeFuncNested
import Derived.RangeFuncBound
import Derived.RangeFuncCalls
import Derived.RangeFuncLeaves
import Derived.RangeFuncBox
import Derived.Shelf.Abstract
import Derived.Shelf.RegionOpen
import Derived.OwnWalkIn
import Derived.TacticsInMore
import Derived.LoopNIn
import Derived.LoopIn
import Derived.Maps.AppendAt
import Derived.OwnWalk
import Derived.Shelf.Spec.TrailingZeros
import Derived.Test.YtckbhhaigpajpaaDoorRaaa
import Derived.Test.YtckbhhaigpajpaaDoorRaab
import Derived.Test.YtckbhhaigpajpaaDoorDa
import Derived.Test.YtckbhhaigpajpaaDoorDb
import Derived.Test.YtckbhhaigpajpaaDoorRaac
import Derived.Test.YtckbhhaigpajpaaDoorRaag
import Derived.Test.YtckbhhaigpajpaaDoorRaad
import Derived.Test.YtckbhhaigpajpaaDoorRaai
namespace Go.Proofs.YtckbhhaigpajpaaDoor
open Go.RowKit

theorem DS.rebase {w : World} {R : Nat} {b : Option Addr} {n cap P : Nat} {W : World} (h : DS w R b n cap P W) : DS W R b n cap P W := ⟨h.rd, World.grownBy.refl _ _⟩
theorem DS.over {w w1 W : World} {R : Nat} {b : Option Addr} {n cap P : Nat} (h : DS w1 R b n cap P W) (hg : w.grownBy w1 (some R)) : DS w R b n cap P W := ⟨h.rd, only_trans hg h.gr⟩
theorem blk_grown {R : Nat} {W W' : World} {g : Nat} {cs : Array Value} {t : TypeId} (h : HasBlk W g cs t) (hg : W.grownBy W' (some R)) (hR : R < g) : HasBlk W' g cs t := h.kept hg (fun e => by injection e; omega)
theorem own_drew {W : World} {B size n : Nat} {e : TypeId} {v : Value} {xs : List Value} (h : W.ownsRow B e size v n xs) : W.drew.ownsRow B e size v n xs := h
def DrawnF (w : World) (R : Nat) (b : Option Addr) (n cap P most : Nat) (e : Ending) (W : World) : Prop :=
  ∃ (m : Int) (a : Option Addr) (zs : List Int) (c : Nat), e = .returned (.agg #[.int .i64 m, .slice a zs.length c]) ∧ (zs.length ≤ most + 1 ∧ 1 ≤ m ∧ m ≤ 6) ∧ OwnI W w.heap.size (.slice a zs.length c) zs ∧ DS w R b n cap (P + 200) W

set_option maxRecDepth 100000 in
set_option maxHeartbeats 4000000 in
theorem someD_any (mm most : Nat) (Mm M : Int) (hMm : Mm = (mm : Int)) (hM : M = (most : Int)) (hmm1 : 1 ≤ mm) (hmm : mm ≤ 6) (hmo : most ≤ 9) (R : Nat) (b : Option Addr) (n cap P : Nat) (w : World) (hD : DS w R b n cap P w) (hB : Bys w R b n) (hR : R < w.heap.size) (hn : n ≤ 1048576) (hP : P ≤ 1000) :
    Calls Tryd.prog 80 #[.pointer (some ⟨R, 0, none⟩), .int .i64 Mm, .int .i64 M] w (DrawnF w R b n cap P most) := by
  subst hMm
  subst hM
  obtain ⟨i0, hi0, hz0, hz1, hz2⟩ := info_parts Tryd.info3
  have HD0 := Lib.hid (hD.alloc (.cells #[.int .i64 0, .slice none 0 0] 25) hR)
  have HB := Lib.hid hB
  have HX0 : Hid (HasBlk (w.alloc (.cells #[.int .i64 0, .slice none 0 0] 25)) w.heap.size #[.int .i64 0, .slice none 0 0] 25) := Lib.hid (alloc_new w _)
  clear hD hB
  go_enter Tryd.func80, Tryd.ntmps80
  go_wp2_with fail
  refine (pickD HD0.out HB.out hR hn (by omega) _ (by omega) (by omega)).mono ?_
  rintro e w1 ⟨r1, rfl, h1, D1, g1⟩
  have h16 : r1 < mm := by have := h1 (by omega); omega
  have HX1 : Hid (HasBlk w1 w.heap.size #[.int .i64 0, .slice none 0 0] 25) := Lib.hid (HX0.out.kept g1 (fun e => by injection e; omega))
  have hs1 : w.heap.size < w1.heap.size := lt_of_some HX1.out
  have HD1 := Lib.hid D1
  clear D1 g1 h1 HD0 HX0
  go_wp2_with fail
  rw [show (1 : Int) + (r1 : Int) = ((1 + r1 : Nat) : Int) from by omega]
  refine (clubsD_any R b n cap _ (1 + r1) most w1 HD1.out.rebase (HB.out.kept hR HD1.out.gr) (by omega) hn (by omega) (by omega) (by omega) (by omega)).mono ?_
  rintro e w2 ⟨a2, zs, c2, rfl, hl, ho, D2⟩
  have hs2 : w1.heap.size ≤ w2.heap.size := D2.gr.size
  have HX2 : Hid (HasBlk w2 w.heap.size #[.int .i64 0, .slice none 0 0] 25) := Lib.hid (HX1.out.kept D2.gr (fun e => by injection e; omega))
  have HD2 := Lib.hid (D2.over HD1.out.gr)
  have HO2 : Hid (OwnN w2 w1.heap.size a2 zs.length c2 zs) := Lib.hid ho
  have hgb : ∀ g, (Value.slice a2 zs.length c2).ownBlock = some g → w1.heap.size ≤ g ∧ g < w2.heap.size := fun g e => World.ownsRow.lt ho g e
  clear ho D2 HD1 HX1
  go_wp2_with fail
  refine (pickD (HD2.out.alloc _ hR) HB.out hR hn (by omega) _ (by omega) (by omega)).mono ?_
  rintro e w4 ⟨r4, rfl, -, D4, g4⟩
  have q0 := blk_grown (HasBlk.alloc HX2.out (.cells #[.int .i64 ((1 + r1 : Nat) : Int), .slice a2 zs.length c2] 25)) g4 hR
  have q1 := blk_grown (alloc_new w2 (.cells #[.int .i64 ((1 + r1 : Nat) : Int), .slice a2 zs.length c2] 25) : HasBlk _ _ _ _) g4 (by omega)
  have HO4 : Hid (OwnN w4 w1.heap.size a2 zs.length c2 zs) := Lib.hid (own_grown (World.ownsRow.alloc HO2.out _) g4 (by omega))
  have HD4 := Lib.hid D4
  have hs4 : w2.heap.size < w4.heap.size := lt_of_some q1
  have x0 := blk_cell q1 0
  have x1 := blk_cell q1 1
  have f1 := blk_frozen q1 1
  have d0 := blk_cell q0 0
  have d1 := blk_cell q0 1
  have e0 := blk_frozen q0 0
  have e1 := blk_frozen q0 1
  simp only [cell2_0, cell2_1] at x0 x1 d0 d1
  have HQ0 := Lib.hid q0
  have HQ1 := Lib.hid q1
  clear D4 g4 q0 q1 HD2 HO2 HX2
  by_cases h4 : r4 = 0
  · have hmx : Tryd.prog.follows .mixedOrders = true := by kernel_rfl
    have hrn : r1 < 6 := by omega
    go_wp2
    go_region_law (refine step_append_lies _ rfl (.tmp 23) (.tmp 26) 23 rfl w1.heap.size 3 i0 (.int .i64 0) 1 8 Tryd.underlying23 hi0 hz0 hz1 hz2 rfl (by decide) _ _ _ rfl (own_drew (World.ownsRow.alloc HO4.out _)) ⟨w4.heap.size, 0, none⟩ 1 1 [.int .i64 _] rfl rfl (World.news_of_block (cs := #[.int .i64 _]) (fr := (0, 0)) (t := 3) (alloc_new w4 _)) (by simp [Value.oneCell']) (by decide) (by simp only [maxLen]; omega) (by omega) (Nat.le_trans (Nat.le_trans hs2 (Nat.le_of_lt hs4)) (Nat.le_trans (Nat.le_succ _) (Nat.le_of_eq (World.size_alloc w4 _).symm))) (w4.heap.size + 1) (World.size_alloc w4 _) ?_; intro g9 c9 w9 hown hg9 hgg hgs; have q9 := HasBlk.kept (W := World.drew (World.alloc w4 _)) (HasBlk.alloc HQ1.out _) hg9 (fun e => by have := hgb _ e; omega); have p9 := HasBlk.kept (W := World.drew (World.alloc w4 _)) (HasBlk.alloc HQ0.out _) hg9 (fun e => by have := hgb _ e; omega); have y0 := (blk_cell q9 0).trans (cell2_0 _ _); have y1 := (blk_cell q9 1).trans (cell2_1 _ _); have yf := blk_frozen q9 1; have z0 := (blk_cell p9 0).trans (cell2_0 _ _); have z1 := (blk_cell p9 1).trans (cell2_1 _ _); have zf0 := blk_frozen p9 0; have zf1 := blk_frozen p9 1)
    all_goals
      have hg9' : (World.drew (World.alloc w4 (.cells #[.int .i64 (IntKind.i64.wrap (2 ^ (1 + (r1 : Int)).toNat))] 3))).grownBy w9 (Value.slice a2 zs.length c2).ownBlock := hg9
      have hgg' : (Value.slice a2 zs.length c2).ownBlock = some g9 ∨ g9 = w4.heap.size + 1 := hgg
      have hg9ne : g9 ≠ w2.heap.size := by
        rcases hgg' with h | h
        · have := hgb _ h; omega
        · omega
      have hg91 : w1.heap.size ≤ g9 := by
        rcases hgg' with h | h
        · have := hgb _ h; omega
        · omega
      have HD9 : Hid (DS w R b n cap (P + 150) w9) := Lib.hid ((((HD4.out.alloc _ hR).drew.step hg9' (fun g e => by have := hgb g e; omega) hR)).mono (by omega))
      have HO9 : Hid (OwnN w9 w1.heap.size (some ⟨g9, 0, none⟩) (zs.length + 1) c9 (zs ++ [IntKind.i64.wrap (2 ^ (1 + (r1 : Int)).toNat)])) := Lib.hid (own_more hown)
      have HQ9 := Lib.hid q9
      clear hg9 hg9' hgg hgg' hown x0 x1 d0 d1 e0 e1 f1 q9 p9
      go_wp2
      refine bodyPost_ret (v := .agg #[.int .i64 ((1 + r1 : Nat) : Int), .slice (some ⟨g9, 0, none⟩) (zs.length + 1) c9]) (by simp [results, Tryd.results80, go_sem, z0, z1]) rfl ?_
      refine ⟨_, some ⟨g9, 0, none⟩, zs ++ [IntKind.i64.wrap (2 ^ (1 + (r1 : Int)).toNat)], c9, by rw [List.length_append]; rfl, ⟨by simp; omega, by omega, by omega⟩, ?_, ?_⟩
      · have h1 := ownsRow_setCell_ne HO9.out (p := ⟨w2.heap.size, 1, none⟩) (by simp [Value.ownBlock]; omega) (.slice (some ⟨g9, 0, none⟩) (zs.length + 1) c9)
        have h2 := ownsRow_setCell_below h1 (a := ⟨w.heap.size, 0, none⟩) hs1 (.int .i64 (1 + (r1 : Int)))
        have h3 := ownsRow_setCell_below h2 (a := ⟨w.heap.size, 1, none⟩) hs1 (.slice (some ⟨g9, 0, none⟩) (zs.length + 1) c9)
        unfold OwnI
        rw [List.length_append]
        exact ownsRow_base h3 (by omega)
      · exact (((HD9.out.step (only_setCell (p := ⟨w2.heap.size, 1, none⟩) (World.grownBy.refl _ (some w2.heap.size)) rfl _) (fun g e => by injection e; omega) hR).step (only_setCell (p := ⟨w.heap.size, 0, none⟩) (World.grownBy.refl _ (some w.heap.size)) rfl _) (fun g e => by injection e; omega) hR).step (only_setCell (p := ⟨w.heap.size, 1, none⟩) (World.grownBy.refl _ (some w.heap.size)) rfl _) (fun g e => by injection e; omega) hR).mono (by omega)
  · go_wp2
    refine bodyPost_ret (v := .agg #[.int .i64 ((1 + r1 : Nat) : Int), .slice a2 zs.length c2]) (by simp [results, Tryd.results80, go_sem, d0, d1]) rfl ?_
    refine ⟨_, a2, zs, c2, rfl, ⟨by omega, by omega, by omega⟩, ?_, ?_⟩
    · exact own_mono (B' := w.heap.size) (ownsRow_setCell_below (ownsRow_setCell_below (show OwnI w4 w1.heap.size _ zs from HO4.out) (a := ⟨w.heap.size, 0, none⟩) hs1 _) (a := ⟨w.heap.size, 1, none⟩) hs1 _) (by omega)
    · exact (((HD4.out.step (only_setCell (p := ⟨w.heap.size, 0, none⟩) (World.grownBy.refl _ (some w.heap.size)) rfl _) (fun g e => by injection e; omega) hR).step (only_setCell (p := ⟨w.heap.size, 1, none⟩) (World.grownBy.refl _ (some w.heap.size)) rfl _) (fun g e => by injection e; omega) hR)).mono (by omega)

end Go.Proofs.YtckbhhaigpajpaaDoor
