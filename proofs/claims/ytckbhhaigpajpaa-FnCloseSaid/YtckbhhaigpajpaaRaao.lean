/- It is proved what the method simple returns; conditions: those of each statement. -/
import Derived.Test.YtckbhhaigpajpaaRows
import Derived.WalkKit
import Derived.WalkSpells
import Derived.ProofKit
import Derived.OpenShut
import Derived.ShutString
import Derived.ChangeOld
import Derived.Below
import Derived.Deep.RegionHeld3
import Derived.Deep.QuietTactic
import Derived.BigQuiet
import Derived.Lib.Hide
import Derived.Lib.SmallJoins
import Derived.Outline
import Derived.Laws.MakeOwn
import Derived.Laws.OwnMore
import Derived.IntWalk
import Derived.Lib.AppendZeros
import Derived.Maps.AppendAt
import Derived.Deep.AppendLies
import Derived.OwnWalk
import Derived.Lib.SlicesCompact
import Derived.Lib.OwnBridge
import Derived.Shelf.Sort.Plain
import Derived.Shelf.Slices.In.SortNone
import Derived.Shelf.Slices.CompactI
import Derived.Ground.Names2Prog
import Derived.RangeFuncNested
import Derived.RangeFuncBound
import Derived.RangeFuncCalls
import Derived.RangeFuncLeaves
import Derived.RangeFuncBox
import Derived.Shelf.Abstract
import Derived.Shelf.RegionOpen
import Derived.OwnWalkIn
import Derived.TacticsInMore
import Derived.LoopNIn
import Derived.LoopIn
import Derived.Test.YtckbhhaigpajpaaRaaa
import Derived.Test.YtckbhhaigpajpaaRaab
import Derived.Test.YtckbhhaigpajpaaRaae
import Derived.Test.YtckbhhaigpajpaaRaah
import Derived.Test.YtckbhhaigpajpaaRaam
import Derived.Test.YtckbhhaigpajpaaRaan
import Derived.Test.YtckbhhaigpajpaaRaac
import Derived.Test.YtckbhhaigpajpaaRaaf
import Derived.RowKit
import Derived.Laws.CopyRow
import Derived.Lib.SlBuf
import Derived.RangeFuncWrites
import Derived.StillTailTactics
import Derived.Maps.OwnIn
import Derived.Maps.Ext
import Derived.DeepKeys4
import Derived.MapKept
import Derived.Sort.MapsRangeIn
import Derived.Deep.RegionLaw
import Derived.OrdersIn
import Derived.TacticsIn
import Derived.Orders
import Derived.Tactics
import Derived.Lib.SliceRun
import Derived.Laws.BitsAllLaws
import Derived.StillTail
import Derived.StillTactics
import Derived.Shelf.Spec.TrailingZeros
import Derived.Deep.LoopGhost
namespace Go.Proofs.Ytckbhhaigpajpaa
open Go.RowKit

theorem simpleFn_any (z : Int) (W : World) : Calls Try.prog 41 #[.int .i64 z] W fun e W' => e = .returned (.int .i64 z) ∧ Below W.heap.size W W' := by
  go_enter Try.func41, Try.ntmps41
  go_wp2
  go_ret
  exact ⟨rfl, Below.refl _ _⟩

theorem sort_any (a : Option Addr) (n cap B : Nat) (zs : List Int) (w : World) (h : OwnN w B a n cap zs) (hn : n ≤ 1048576) :
    Calls Try.prog 42 #[.slice a n cap] w fun e w' => e = .returned (.tuple #[]) ∧ OwnN w' B a n cap (zs.mergeSort fun x y => decide (x ≤ y)) ∧ w.grownBy w' (Value.slice a n cap).ownBlock := by
  rcases h.2 with ⟨e, h0⟩ | ⟨g, cap', cur, e, _⟩
  · injection e with e1 e2 e3
    subst e1; subst e2; subst e3
    have hz : zs = [] := List.eq_nil_of_length_eq_zero h.len
    subst hz
    refine (sort_nil 0 w).mono ?_
    rintro e w' ⟨rfl, rfl⟩
    exact ⟨rfl, by simpa using h, World.grownBy.refl _ _⟩
  · injection e with e1 e2 e3
    subst e1; subst e3
    exact sort_row g n cap B zs w h hn

theorem compact_any (a : Option Addr) (n cap B : Nat) (zs : List Int) (w : World) (h : OwnN w B a n cap zs) (hn : n ≤ 1048576) :
    Calls Try.prog 43 #[.slice a n cap] w fun e w' => e = .returned (.slice a (Lib.compact zs).length cap) ∧ OwnN w' B a (Lib.compact zs).length cap (Lib.compact zs) ∧ w.grownBy w' (Value.slice a n cap).ownBlock := by
  rcases h.2 with ⟨e, h0⟩ | ⟨g, cap', cur, e, _⟩
  · injection e with e1 e2 e3
    subst e1; subst e2; subst e3
    have hz : zs = [] := List.eq_nil_of_length_eq_zero h.len
    subst hz
    refine (compact_nil 0 w).mono ?_
    rintro e w' ⟨rfl, rfl⟩
    exact ⟨rfl, h, World.grownBy.refl _ _⟩
  · injection e with e1 e2 e3
    subst e1; subst e3
    exact compact_row g n cap B zs w h hn

set_option maxRecDepth 100000 in
set_option maxHeartbeats 3200000 in
theorem simple_any (m : Int) (a : Option Addr) (c : Nat) (zs : List Int) (w : World) (ha : Ints w w.heap.size a zs) (hx : zs.length ≤ 1048576) :
    Calls Try.prog 26 #[.agg #[.int .i64 m, .slice a zs.length c]] w (RetFam w m (simpZ zs)) := by
  have HB0 := Lib.hid (below2 w (.cells #[.int .i64 m, .slice a zs.length c] 25) (.cells #[.int .i64 0, .slice none 0 0] 25))
  have HA := Lib.hid (ha.below HB0.out)
  clear ha
  go_enter Try.func26, Try.ntmps26
  go_wp2_with fail
  refine (mapped81 m a c zs (fun z => z) _ (HA.out.mono (by simp; omega)) hx (fun z W _ => simpleFn_any z W)).mono ?_
  rw [List.map_id']
  rintro e w1 ⟨a1, c1, rfl, ho1, hb1⟩
  have b2 : w1.heap[w.heap.size + 1]? = some (.cells #[.int .i64 0, .slice none 0 0] 25 (0, 0)) := (hb1.block _ (by simp)).trans (alloc2_1 w _ _)
  have z1 : w.heap.size + 1 < w1.heap.size := by have := hb1.size; simp at this; omega
  have ho1' : OwnN w1 (w.heap.size + 2) a1 zs.length c1 zs := ownsRow_base ho1 (by simp)
  have HB1 := Lib.hid (HB0.out.trans (hb1.mono (by simp; omega)))
  have HO1 := Lib.hid (World.ownsRow.alloc ho1' (.cells #[.int .i64 m, .slice a1 zs.length c1] 25))
  have HX1 := Lib.hid (alloc_new w1 (.cells #[.int .i64 m, .slice a1 zs.length c1] 25))
  have HN1 := Lib.hid (ho1'.ne (.inr (Nat.le_refl _)))
  have HR1 := Lib.hid ((alloc_old w1 (.cells #[.int .i64 m, .slice a1 zs.length c1] 25) _ z1).trans b2)
  clear hb1 ho1 ho1' b2
  go_wp2_with fail
  refine (sort_any a1 zs.length c1 (w.heap.size + 2) zs _ HO1.out hx).mono ?_
  rintro e w2 ⟨rfl, ho2, hg2⟩
  have HX2 := Lib.hid ((hg2.block _ (lt_of_some HX1.out) (Ne.symm HN1.out)).trans HX1.out)
  have HR2 := Lib.hid ((hg2.block _ (lt_of_some HR1.out) (Ne.symm ((OwnN.ne HO1.out (.inl (Nat.lt_succ_self _)))))).trans HR1.out)
  have HO2 := Lib.hid ho2
  have HB2 := Lib.hid ((HB1.out.alloc (by omega) _).grown hg2 (by simp; omega) (fun g e => (by have := World.ownsRow.lt HO1.out g e; omega)))
  have x0 := (blk_cell HX2.out 0).trans (cell2_0 _ _)
  have x1 := (blk_cell HX2.out 1).trans (cell2_1 _ _)
  have z2 : w1.heap.size < w2.heap.size := lt_of_some HX2.out
  clear ho2 hg2
  go_wp2_with fail
  refine (compact_any a1 zs.length c1 (w.heap.size + 2) _ _ HO2.out hx).mono ?_
  rintro e w3 ⟨rfl, ho3, hg3⟩
  have HX3 := Lib.hid ((hg3.block _ (lt_of_some HX2.out) (Ne.symm HN1.out)).trans HX2.out)
  have HR3 := Lib.hid ((hg3.block _ (lt_of_some HR2.out) (Ne.symm ((OwnN.ne HO2.out (.inl (Nat.lt_succ_self _)))))).trans HR2.out)
  have HO3 : Hid (OwnN w3 (w.heap.size + 2) a1 (simpZ zs).length c1 (simpZ zs)) := Lib.hid ho3
  have HB3 := Lib.hid (HB2.out.grown hg3 (by have := HB2.out.size; omega) (fun g e => (by have := World.ownsRow.lt HO2.out g e; omega)))
  have HE : Hid (Lib.compact (zs.mergeSort fun x y => decide (x ≤ y)) = simpZ zs) := Lib.hid rfl
  rw [HE.out]
  have y0 := (blk_cell HX3.out 0).trans (cell2_0 _ _)
  have y1 := (blk_cell HX3.out 1).trans (cell2_1 _ _)
  have yf0 := blk_frozen HX3.out 0
  have yf1 := blk_frozen HX3.out 1
  have d0 := (blk_cell HR3.out 0).trans (cell2_0 _ _)
  have d1 := (blk_cell HR3.out 1).trans (cell2_1 _ _)
  have f0 := blk_frozen HR3.out 0
  have f1 := blk_frozen HR3.out 1
  have z3 : w1.heap.size < w3.heap.size := lt_of_some HX3.out
  clear ho3 hg3 x0 x1
  go_wp2
  refine bodyPost_ret (v := .agg #[.int .i64 m, .slice a1 (simpZ zs).length c1]) (by simp [results, Try.results26, go_sem, d0, d1]) rfl ?_
  refine ⟨a1, c1, rfl, ?_, ?_⟩
  · have hB : w.heap.size + 1 < w.heap.size + 2 := Nat.lt_succ_self _
    have h1 := ownsRow_setCell_ne HO3.out (p := ⟨w1.heap.size, 1, none⟩) (by have h := HN1.out; cases a1 with | none => simp [Value.ownBlock] | some x => exact h) (.slice a1 (simpZ zs).length c1)
    have h2 := ownsRow_setCell_below (ownsRow_setCell_below h1 (a := ⟨w.heap.size + 1, 0, none⟩) hB (.int .i64 m)) (a := ⟨w.heap.size + 1, 1, none⟩) hB (.slice a1 (simpZ zs).length c1)
    exact ownsRow_base h2 (by omega)
  · exact ((HB3.out.setCell (p := ⟨w1.heap.size, 1, none⟩) (by simp; omega) _).setCell (p := ⟨w.heap.size + 1, 0, none⟩) (by simp) _).setCell (p := ⟨w.heap.size + 1, 1, none⟩) (by simp) _

set_option maxRecDepth 100000 in
set_option maxHeartbeats 1600000 in
theorem implSimple_any (m : Int) (a : Option Addr) (c : Nat) (zs : List Int) (w : World) (ha : Ints w w.heap.size a zs) (hx : zs.length ≤ 1048576) :
    Calls Try.prog 9 #[.agg #[.int .i64 m, .slice a zs.length c]] w (RetFB w (famM (famIn m zs) m) (famF (famIn m zs) simpZ zs) (famIn m zs)) := by
  unfold famM famF
  have HB0 := Lib.hid (below2 w (.cells #[.int .i64 m, .slice a zs.length c] 25) (.cells #[.int .i64 0, .slice none 0 0] 25))
  have HA := Lib.hid (ha.below HB0.out)
  clear ha
  cases hf : famIn m zs
  · have HF := Lib.hid hf
    clear hf
    go_enter Try.func9, Try.ntmps9
    go_wp2_with fail
    refine (implFamilyIn_any _ _ _ zs _ (HA.out.mono (by simp; omega)) hx).mono ?_
    rintro e w1 ⟨rfl, hb⟩
    rw [HF.out]
    have b2 : w1.heap[w.heap.size + 1]? = some (.cells #[.int .i64 0, .slice none 0 0] 25 (0, 0)) := (hb.block _ (by simp)).trans (alloc2_1 w _ _)
    have d0 := blk_cell b2 0
    have d1 := blk_cell b2 1
    have f0 := blk_frozen b2 0
    have f1 := blk_frozen b2 1
    simp only [cell2_0, cell2_1] at d0 d1
    have HB := Lib.hid (HB0.out.trans (hb.mono (by simp; omega)))
    clear hb b2
    go_wp2
    refine bodyPost_ret (v := .tuple #[.agg #[.int .i64 0, .slice none 0 0], .bool false]) (by simp [results, Try.results9, go_sem, d0, d1]) rfl ?_
    exact ⟨none, 0, rfl, own_nil _ _, (HB.out.setCell (p := ⟨w.heap.size + 1, 0, none⟩) (by simp) _).setCell (p := ⟨w.heap.size + 1, 1, none⟩) (by simp) _⟩
  · have HF := Lib.hid hf
    clear hf
    go_enter Try.func9, Try.ntmps9
    go_wp2_with fail
    refine (implFamilyIn_any _ _ _ zs _ (HA.out.mono (by simp; omega)) hx).mono ?_
    rintro e w1 ⟨rfl, hb⟩
    rw [HF.out]
    have b0 : w1.heap[w.heap.size]? = some (.cells #[.int .i64 m, .slice a zs.length c] 25 (0, 0)) := (hb.block _ (by simp; omega)).trans (alloc2_0 w _ _)
    have b2 : w1.heap[w.heap.size + 1]? = some (.cells #[.int .i64 0, .slice none 0 0] 25 (0, 0)) := (hb.block _ (by simp)).trans (alloc2_1 w _ _)
    have x0 := (blk_cell b0 0).trans (cell2_0 _ _)
    have x1 := (blk_cell b0 1).trans (cell2_1 _ _)
    have HB := Lib.hid (HB0.out.trans (hb.mono (by simp; omega)))
    have HA1 := Lib.hid (HA.out.below (hb.mono (by simp; omega)))
    have z1 : w.heap.size + 1 < w1.heap.size := by have := hb.size; simp at this; omega
    have B2 := Lib.hid b2
    clear hb b0 b2
    go_wp2_with fail
    refine (simple_any m a c zs _ (HA1.out.mono (by omega)) hx).mono ?_
    rintro e w2 ⟨a2, c2, rfl, ho2, hb2⟩
    have b2' := (hb2.block _ z1).trans B2.out
    have d0 := (blk_cell b2' 0).trans (cell2_0 _ _)
    have d1 := (blk_cell b2' 1).trans (cell2_1 _ _)
    have f0 := blk_frozen b2' 0
    have f1 := blk_frozen b2' 1
    have HO2 := Lib.hid ho2
    have HB2 := Lib.hid (HB.out.trans (hb2.mono (by omega)))
    clear ho2 hb2 b2'
    go_wp2
    refine bodyPost_ret (v := .tuple #[.agg #[.int .i64 m, .slice a2 (simpZ zs).length c2], .bool true]) (by simp [results, Try.results9, go_sem, d0, d1]) rfl ?_
    refine ⟨a2, c2, rfl, ?_, ?_⟩
    · exact own_mono (ownsRow_setCell_below (ownsRow_setCell_below HO2.out z1 _) z1 _) (by omega)
    · exact (HB2.out.setCell (p := ⟨w.heap.size + 1, 0, none⟩) (by simp) _).setCell (p := ⟨w.heap.size + 1, 1, none⟩) (by simp) _

theorem famF_len (c : Bool) (f : List Int → List Int) (zs : List Int) (h : zs.length ≤ 1048576) (hf : (f zs).length ≤ zs.length) : (famF c f zs).length ≤ 1048576 := by
  unfold famF; split
  · omega
  · simp

end Go.Proofs.Ytckbhhaigpajpaa

/- It is proved that the calls of FnOrder return true; conditions: those of each statement. -/
namespace Go.Proofs.Ytckbhhaigpajpaa
open Go.RowKit

theorem arr15 (l : Array Bool) (h : l.size = 15) : ∃ l0 l1 l2 l3 l4 l5 l6 l7 l8 l9 l10 l11 l12 l13 l14, l = #[l0, l1, l2, l3, l4, l5, l6, l7, l8, l9, l10, l11, l12, l13, l14] := by
  obtain ⟨l⟩ := l
  match l, h with
  | [l0, l1, l2, l3, l4, l5, l6, l7, l8, l9, l10, l11, l12, l13, l14], _ => exact ⟨l0, l1, l2, l3, l4, l5, l6, l7, l8, l9, l10, l11, l12, l13, l14, rfl⟩

end Go.Proofs.Ytckbhhaigpajpaa

/- It is proved what the method mapped returns, by which closure it may be called; conditions: those of the statement. -/
namespace Go.Proofs.Ytckbhhaigpajpaa
open Go.RowKit Go.Shelf

attribute [local go_sem] Oper.semAt_some

/-- The clubs with their places, behind what is known of them. -/
def fstOf {P : Nat × Int → Prop} (ys : List { p // P p }) : List (Nat × Int) := ys.map (·.1)

theorem fstOf_snoc {P : Nat × Int → Prop} (ys : List { p // P p }) (y : { p // P p }) : fstOf (ys ++ [y]) = fstOf ys ++ [y.1] := by simp [fstOf]
theorem fstOf_length {P : Nat × Int → Prop} (ys : List { p // P p }) : (fstOf ys).length = ys.length := by simp [fstOf]
end Go.Proofs.Ytckbhhaigpajpaa
