/- It is proved what the method without, FamilyLeast and FamilyGreatest of the program return; conditions: those of each statement. -/
import Derived.Test.YtphddemilibooaaDoorRows
import Derived.WalkKit
import Derived.WalkSpells
import Derived.ProofKit
import Derived.OpenShut
import Derived.ShutString
import Derived.ChangeOld
import Derived.Below
import Derived.Deep.RegionHeld3
import Derived.Deep.QuietTactic
import Derived.BigQuiet
import Derived.Lib.Hide
import Derived.Lib.SmallJoins
import Derived.Outline
import Derived.Laws.MakeOwn
import Derived.Laws.OwnMore
import Derived.IntWalk
import Derived.Lib.AppendZeros
import Derived.Maps.AppendAt
import Derived.Deep.AppendLies
import Derived.OwnWalk
import Derived.Lib.SlicesCompact
import Derived.Lib.OwnBridge
import Derived.Shelf.Sort.Plain
import Derived.Shelf.Slices.In.SortNone
import Derived.Shelf.Slices.CompactI
import Derived.Ground.Names2Prog
import Derived.Lib.SliceRun
import Derived.RangeFuncNested
import Derived.RangeFuncBound
import Derived.RangeFuncCalls
import Derived.RangeFuncLeaves
import Derived.RangeFuncBox
import Derived.Shelf.Abstract
import Derived.Shelf.RegionOpen
import Derived.OwnWalkIn
import Derived.TacticsInMore
import Derived.LoopNIn
import Derived.LoopIn
import Derived.Test.YtphddemilibooaaDoorRaaa
import Derived.Test.YtphddemilibooaaDoorRaab
import Derived.Test.YtphddemilibooaaDoorRaad
import Derived.Test.YtphddemilibooaaDoorRaac
import Derived.Test.YtphddemilibooaaDoorRaag
import Derived.Test.YtphddemilibooaaDoorRaae
import Derived.Test.YtphddemilibooaaDoorHv
namespace Go.Proofs.YtphddemilibooaaDoor
open Go.RowKit

/-- The clubs in order, once, that no other one beats. -/
def unbeaten (g : Int → Int → Bool) (zs : List Int) : List Int := (simpZ zs).filter fun z => !beaten g zs z

theorem unbeaten_le (g : Int → Int → Bool) (zs : List Int) : (unbeaten g zs).length ≤ zs.length := Nat.le_trans (List.length_filter_le _ _) (simpZ_le zs)
set_option maxRecDepth 100000 in
set_option maxHeartbeats 800000 in
theorem deleteFunc_nil (cap P Q : Nat) (w : World) :
    Calls Tryd.prog 98 #[.slice none 0 cap, .func (.func 96) #[] #[.pointer (some ⟨P, 0, none⟩), .pointer (some ⟨Q, 0, none⟩)]] w fun e w' => e = .returned (.slice none 0 cap) ∧ w = w' := by
  have hi : Calls Tryd.prog 85 #[.slice none 0 cap, .func (.func 96) #[] #[.pointer (some ⟨P, 0, none⟩), .pointer (some ⟨Q, 0, none⟩)]] w fun e w' => e = .returned (.int .i64 (-1)) ∧ w = w' := by
    go_enter Tryd.func85, Tryd.ntmps85
    go_wp2
    go_loop [5, 8] (fun _ i => i = .int .i64 0) (fun _ _ => 0)
    case atStart => rfl
    case round =>
      obtain rfl := hrel
      go_wp2
      go_ret
      exact ⟨rfl, rfl⟩
  go_enter Tryd.func98, Tryd.ntmps98
  go_wp2_with (go_at_call 85; refine hi.mono ?_; rintro e w' ⟨rfl, rfl⟩)
  go_ret
  exact ⟨rfl, rfl⟩

theorem delete_any (a : Option Addr) (n cap B P Q : Nat) (ys : List Int) (f : Int → Bool) (w : World) (h : OwnN w B a n cap ys) (hn : n ≤ 1048576) (hB : B ≤ w.heap.size)
    (hK : ∀ z W, Below B w W → Calls Tryd.prog 96 #[.int .i64 z, .pointer (some ⟨P, 0, none⟩), .pointer (some ⟨Q, 0, none⟩)] W fun e W' => e = .returned (.bool (f z)) ∧ Below W.heap.size W W') :
    Calls Tryd.prog 98 #[.slice a n cap, .func (.func 96) #[] #[.pointer (some ⟨P, 0, none⟩), .pointer (some ⟨Q, 0, none⟩)]] w fun e w' =>
      e = .returned (.slice a (ys.filter fun z => !f z).length cap) ∧ OwnN w' B a (ys.filter fun z => !f z).length cap (ys.filter fun z => !f z) ∧ w.grownBy w' (Value.slice a n cap).ownBlock := by
  rcases h.2 with ⟨e, h0⟩ | ⟨g, cap', cur, e, _⟩
  · injection e with e1 e2 e3
    subst e1; subst e2; subst e3
    have hz : ys = [] := List.eq_nil_of_length_eq_zero h.len
    subst hz
    refine (deleteFunc_nil 0 P Q w).mono ?_
    rintro e w' ⟨rfl, rfl⟩
    exact ⟨rfl, h, World.grownBy.refl _ _⟩
  · injection e with e1 e2 e3
    subst e1; subst e3
    exact deleteFunc_any g n cap B P Q ys f w h hn hB hK

theorem ownBlock_len {a : Option Addr} {n k cap : Nat} {b : Nat} (h : (Value.slice a n cap).ownBlock ≠ some b) : (Value.slice a k cap).ownBlock ≠ some b := by
  cases a with
  | none => simp [Value.ownBlock]
  | some x => exact h

set_option maxRecDepth 100000 in
set_option maxHeartbeats 3200000 in
theorem without49 (m : Int) (a : Option Addr) (c : Nat) (zs : List Int) (w : World) (ha : Ints w w.heap.size a zs) (hx : zs.length ≤ 1048576) :
    Calls Tryd.prog 87 #[.agg #[.int .i64 m, .slice a zs.length c], .func (.func 110) #[] #[]] w (RetFam w m (unbeaten leG zs)) := by
  have HB0 := Lib.hid (below3 w (.cells #[.int .i64 m, .slice a zs.length c] 25) (.cells #[.func (.func 110) #[] #[]] 96) (.cells #[.int .i64 0, .slice none 0 0] 25))
  have HA := Lib.hid (ha.below HB0.out)
  have HI := Lib.hid ha
  have hmf : ∀ (fn : Fn) (first cap : Array Value) (w : World), (Instr.makeFunc fn first cap).run Tryd.prog w = .ok (.func fn first cap) w := fun _ _ _ _ => rfl
  have hys : (simpZ zs).length ≤ 1048576 := Nat.le_trans (simpZ_le zs) hx
  obtain ⟨W0, HW0⟩ : ∃ W0, Hid (W0 = ((w.alloc (.cells #[.int .i64 m, .slice a zs.length c] 25)).alloc (.cells #[.func (.func 110) #[] #[]] 96)).alloc (.cells #[.int .i64 0, .slice none 0 0] 25)) := ⟨_, Lib.hid rfl⟩
  have hs0 : W0.heap.size = w.heap.size + 3 := by rw [HW0.out]; simp
  have HBW0 : Hid (Below w.heap.size w W0) := Lib.hid (by rw [HW0.out]; exact HB0.out)
  have HP0 : Hid (W0.heap[w.heap.size]? = some (.cells #[.int .i64 m, .slice a zs.length c] 25 (0, 0))) := Lib.hid (by rw [HW0.out]; exact alloc3_0 w _ _ _)
  have HQ0 : Hid (W0.heap[w.heap.size + 1]? = some (.cells #[.func (.func 110) #[] #[]] 96 (0, 0))) := Lib.hid (by rw [HW0.out]; exact alloc3_1 w _ _ _)
  have HR0 : Hid (W0.heap[w.heap.size + 1 + 1]? = some (.cells #[.int .i64 0, .slice none 0 0] 25 (0, 0))) := Lib.hid (by rw [HW0.out]; exact alloc3_2 w _ _ _)
  clear ha
  go_enter Tryd.func87, Tryd.ntmps87
  go_wp2_with fail
  rw [← HW0.out]
  refine (simple_any m a c zs _ ((HI.out.below HBW0.out).mono (by omega)) hx).mono ?_
  rintro e w1 ⟨a1, c1, rfl, ho1, hb1⟩
  have ho1' : OwnN w1 W0.heap.size a1 (simpZ zs).length c1 (simpZ zs) := ho1
  have z1 : W0.heap.size ≤ w1.heap.size := hb1.size
  have HO1 := Lib.hid (World.ownsRow.alloc ho1' (.cells #[.int .i64 m, .slice a1 (simpZ zs).length c1] 25))
  have HN1 := Lib.hid (ho1'.ne (.inr (Nat.le_refl _)))
  have HB1 := Lib.hid (hb1.trans ((below1 w1 (.cells #[.int .i64 m, .slice a1 (simpZ zs).length c1] 25)).mono z1))
  have HX1 := Lib.hid (alloc_new w1 (.cells #[.int .i64 m, .slice a1 (simpZ zs).length c1] 25))
  have hsz1 : (w1.alloc (.cells #[.int .i64 m, .slice a1 (simpZ zs).length c1] 25)).heap.size = w1.heap.size + 1 := by simp
  clear hb1 ho1 ho1'
  go_wp2_with fail
  refine (delete_any a1 (simpZ zs).length c1 W0.heap.size w.heap.size (w.heap.size + 1) (simpZ zs) (beaten leG zs) _ HO1.out hys (by rw [hsz1]; omega) (fun z W hW =>
    have hbW : Below W0.heap.size W0 W := HB1.out.trans hW
    wo49 m a c zs w.heap.size (w.heap.size + 1) z W (((HI.out.below HBW0.out).mono (by omega)).below hbW |>.mono hbW.size) hx
      ((blk_cell ((hbW.block _ (by omega)).trans HP0.out) 0).trans (cell2_0 _ _)) ((blk_cell ((hbW.block _ (by omega)).trans HP0.out) 1).trans (cell2_1 _ _)) ((blk_cell ((hbW.block _ (by omega)).trans HQ0.out) 0).trans (cell1_0 _)))).mono ?_
  rintro e w2 ⟨rfl, ho2, hg2⟩
  have HE : Hid (((simpZ zs).filter fun z => !beaten leG zs z) = unbeaten leG zs) := Lib.hid rfl
  rw [HE.out] at ho2 ⊢
  have HX2 := Lib.hid ((hg2.block _ (lt_of_some HX1.out) (Ne.symm HN1.out)).trans HX1.out)
  have hbb : Below W0.heap.size W0 w2 := HB1.out.grown hg2 (by rw [hsz1]; omega) (fun g e => (World.ownsRow.lt HO1.out g e).1)
  have HB2 := Lib.hid hbb
  have b2 := (hbb.block _ (by omega)).trans HR0.out
  have HO2 := Lib.hid ho2
  have y0 := (blk_cell HX2.out 0).trans (cell2_0 _ _)
  have y1 := (blk_cell HX2.out 1).trans (cell2_1 _ _)
  have yf0 := blk_frozen HX2.out 0
  have yf1 := blk_frozen HX2.out 1
  have d0 := (blk_cell b2 0).trans (cell2_0 _ _)
  have d1 := (blk_cell b2 1).trans (cell2_1 _ _)
  have f0 := blk_frozen b2 0
  have f1 := blk_frozen b2 1
  have z2 : w1.heap.size < w2.heap.size := lt_of_some HX2.out
  clear ho2 hg2 hbb b2 hsz1
  go_wp2
  refine bodyPost_ret (v := .agg #[.int .i64 m, .slice a1 (unbeaten leG zs).length c1]) (by simp [results, Tryd.results87, go_sem, d0, d1]) rfl ?_
  refine ⟨a1, c1, rfl, ?_, ?_⟩
  · have h1 := ownsRow_setCell_ne HO2.out (p := ⟨w1.heap.size, 1, none⟩) (ownBlock_len HN1.out) (.slice a1 (unbeaten leG zs).length c1)
    have h2 := ownsRow_setCell_below (ownsRow_setCell_below h1 (a := ⟨w.heap.size + 1 + 1, 0, none⟩) (by show w.heap.size + 1 + 1 < W0.heap.size; omega) (.int .i64 m)) (a := ⟨w.heap.size + 1 + 1, 1, none⟩) (by show w.heap.size + 1 + 1 < W0.heap.size; omega) (.slice a1 (unbeaten leG zs).length c1)
    exact ownsRow_base h2 (by omega)
  · exact (((HBW0.out.trans (HB2.out.mono (by omega))).setCell (p := ⟨w1.heap.size, 1, none⟩) (by simp; omega) _).setCell (p := ⟨w.heap.size + 1 + 1, 0, none⟩) (by simp; omega) _).setCell (p := ⟨w.heap.size + 1 + 1, 1, none⟩) (by simp; omega) _

set_option maxRecDepth 100000 in
set_option maxHeartbeats 3200000 in
theorem without69 (m : Int) (a : Option Addr) (c : Nat) (zs : List Int) (w : World) (ha : Ints w w.heap.size a zs) (hx : zs.length ≤ 1048576) :
    Calls Tryd.prog 87 #[.agg #[.int .i64 m, .slice a zs.length c], .func (.func 88) #[] #[]] w (RetFam w m (unbeaten geG zs)) := by
  have HB0 := Lib.hid (below3 w (.cells #[.int .i64 m, .slice a zs.length c] 25) (.cells #[.func (.func 88) #[] #[]] 96) (.cells #[.int .i64 0, .slice none 0 0] 25))
  have HA := Lib.hid (ha.below HB0.out)
  have HI := Lib.hid ha
  have hmf : ∀ (fn : Fn) (first cap : Array Value) (w : World), (Instr.makeFunc fn first cap).run Tryd.prog w = .ok (.func fn first cap) w := fun _ _ _ _ => rfl
  have hys : (simpZ zs).length ≤ 1048576 := Nat.le_trans (simpZ_le zs) hx
  obtain ⟨W0, HW0⟩ : ∃ W0, Hid (W0 = ((w.alloc (.cells #[.int .i64 m, .slice a zs.length c] 25)).alloc (.cells #[.func (.func 88) #[] #[]] 96)).alloc (.cells #[.int .i64 0, .slice none 0 0] 25)) := ⟨_, Lib.hid rfl⟩
  have hs0 : W0.heap.size = w.heap.size + 3 := by rw [HW0.out]; simp
  have HBW0 : Hid (Below w.heap.size w W0) := Lib.hid (by rw [HW0.out]; exact HB0.out)
  have HP0 : Hid (W0.heap[w.heap.size]? = some (.cells #[.int .i64 m, .slice a zs.length c] 25 (0, 0))) := Lib.hid (by rw [HW0.out]; exact alloc3_0 w _ _ _)
  have HQ0 : Hid (W0.heap[w.heap.size + 1]? = some (.cells #[.func (.func 88) #[] #[]] 96 (0, 0))) := Lib.hid (by rw [HW0.out]; exact alloc3_1 w _ _ _)
  have HR0 : Hid (W0.heap[w.heap.size + 1 + 1]? = some (.cells #[.int .i64 0, .slice none 0 0] 25 (0, 0))) := Lib.hid (by rw [HW0.out]; exact alloc3_2 w _ _ _)
  clear ha
  go_enter Tryd.func87, Tryd.ntmps87
  go_wp2_with fail
  rw [← HW0.out]
  refine (simple_any m a c zs _ ((HI.out.below HBW0.out).mono (by omega)) hx).mono ?_
  rintro e w1 ⟨a1, c1, rfl, ho1, hb1⟩
  have ho1' : OwnN w1 W0.heap.size a1 (simpZ zs).length c1 (simpZ zs) := ho1
  have z1 : W0.heap.size ≤ w1.heap.size := hb1.size
  have HO1 := Lib.hid (World.ownsRow.alloc ho1' (.cells #[.int .i64 m, .slice a1 (simpZ zs).length c1] 25))
  have HN1 := Lib.hid (ho1'.ne (.inr (Nat.le_refl _)))
  have HB1 := Lib.hid (hb1.trans ((below1 w1 (.cells #[.int .i64 m, .slice a1 (simpZ zs).length c1] 25)).mono z1))
  have HX1 := Lib.hid (alloc_new w1 (.cells #[.int .i64 m, .slice a1 (simpZ zs).length c1] 25))
  have hsz1 : (w1.alloc (.cells #[.int .i64 m, .slice a1 (simpZ zs).length c1] 25)).heap.size = w1.heap.size + 1 := by simp
  clear hb1 ho1 ho1'
  go_wp2_with fail
  refine (delete_any a1 (simpZ zs).length c1 W0.heap.size w.heap.size (w.heap.size + 1) (simpZ zs) (beaten geG zs) _ HO1.out hys (by rw [hsz1]; omega) (fun z W hW =>
    have hbW : Below W0.heap.size W0 W := HB1.out.trans hW
    wo69 m a c zs w.heap.size (w.heap.size + 1) z W (((HI.out.below HBW0.out).mono (by omega)).below hbW |>.mono hbW.size) hx
      ((blk_cell ((hbW.block _ (by omega)).trans HP0.out) 0).trans (cell2_0 _ _)) ((blk_cell ((hbW.block _ (by omega)).trans HP0.out) 1).trans (cell2_1 _ _)) ((blk_cell ((hbW.block _ (by omega)).trans HQ0.out) 0).trans (cell1_0 _)))).mono ?_
  rintro e w2 ⟨rfl, ho2, hg2⟩
  have HE : Hid (((simpZ zs).filter fun z => !beaten geG zs z) = unbeaten geG zs) := Lib.hid rfl
  rw [HE.out] at ho2 ⊢
  have HX2 := Lib.hid ((hg2.block _ (lt_of_some HX1.out) (Ne.symm HN1.out)).trans HX1.out)
  have hbb : Below W0.heap.size W0 w2 := HB1.out.grown hg2 (by rw [hsz1]; omega) (fun g e => (World.ownsRow.lt HO1.out g e).1)
  have HB2 := Lib.hid hbb
  have b2 := (hbb.block _ (by omega)).trans HR0.out
  have HO2 := Lib.hid ho2
  have y0 := (blk_cell HX2.out 0).trans (cell2_0 _ _)
  have y1 := (blk_cell HX2.out 1).trans (cell2_1 _ _)
  have yf0 := blk_frozen HX2.out 0
  have yf1 := blk_frozen HX2.out 1
  have d0 := (blk_cell b2 0).trans (cell2_0 _ _)
  have d1 := (blk_cell b2 1).trans (cell2_1 _ _)
  have f0 := blk_frozen b2 0
  have f1 := blk_frozen b2 1
  have z2 : w1.heap.size < w2.heap.size := lt_of_some HX2.out
  clear ho2 hg2 hbb b2 hsz1
  go_wp2
  refine bodyPost_ret (v := .agg #[.int .i64 m, .slice a1 (unbeaten geG zs).length c1]) (by simp [results, Tryd.results87, go_sem, d0, d1]) rfl ?_
  refine ⟨a1, c1, rfl, ?_, ?_⟩
  · have h1 := ownsRow_setCell_ne HO2.out (p := ⟨w1.heap.size, 1, none⟩) (ownBlock_len HN1.out) (.slice a1 (unbeaten geG zs).length c1)
    have h2 := ownsRow_setCell_below (ownsRow_setCell_below h1 (a := ⟨w.heap.size + 1 + 1, 0, none⟩) (by show w.heap.size + 1 + 1 < W0.heap.size; omega) (.int .i64 m)) (a := ⟨w.heap.size + 1 + 1, 1, none⟩) (by show w.heap.size + 1 + 1 < W0.heap.size; omega) (.slice a1 (unbeaten geG zs).length c1)
    exact ownsRow_base h2 (by omega)
  · exact (((HBW0.out.trans (HB2.out.mono (by omega))).setCell (p := ⟨w1.heap.size, 1, none⟩) (by simp; omega) _).setCell (p := ⟨w.heap.size + 1 + 1, 0, none⟩) (by simp; omega) _).setCell (p := ⟨w.heap.size + 1 + 1, 1, none⟩) (by simp; omega) _

/-- The method least: no bound of clubs. -/
theorem leastFam_any (m : Int) (a : Option Addr) (c : Nat) (zs : List Int) (w : World) (ha : Ints w w.heap.size a zs) (hx : zs.length ≤ 1048576) :
    Calls Tryd.prog 102 #[.agg #[.int .i64 m, .slice a zs.length c]] w (RetFam w m (unbeaten leG zs)) := by
  have hmf : ∀ (fn : Fn) (first cap : Array Value) (w : World), (Instr.makeFunc fn first cap).run Tryd.prog w = .ok (.func fn first cap) w := fun _ _ _ _ => rfl
  have HB0 := Lib.hid (below2 w (.cells #[.int .i64 m, .slice a zs.length c] 25) (.cells #[.int .i64 0, .slice none 0 0] 25))
  have HA := Lib.hid (ha.below HB0.out)
  clear ha
  go_enter Tryd.func102, Tryd.ntmps102
  go_wp2_with fail
  refine (without49 m a c zs _ (HA.out.mono (by simp; omega)) hx).mono ?_
  rintro e w2 ⟨a2, c2, rfl, ho2, hb2⟩
  have b2' : w2.heap[w.heap.size + 1]? = some (.cells #[.int .i64 0, .slice none 0 0] 25 (0, 0)) := (hb2.block _ (by simp)).trans (alloc2_1 w _ _)
  have d0 := (blk_cell b2' 0).trans (cell2_0 _ _)
  have d1 := (blk_cell b2' 1).trans (cell2_1 _ _)
  have f0 := blk_frozen b2' 0
  have f1 := blk_frozen b2' 1
  have HO2 := Lib.hid ho2
  have HB2 := Lib.hid (HB0.out.trans (hb2.mono (by simp; omega)))
  have z1 : w.heap.size + 1 < ((w.alloc (.cells #[.int .i64 m, .slice a zs.length c] 25)).alloc (.cells #[.int .i64 0, .slice none 0 0] 25)).heap.size := by simp
  have Z1 := Lib.hid z1
  clear ho2 hb2 b2' z1
  go_wp2
  refine bodyPost_ret (v := .agg #[.int .i64 m, .slice a2 (unbeaten leG zs).length c2]) (by simp [results, Tryd.results102, go_sem, d0, d1]) rfl ?_
  refine ⟨a2, c2, rfl, ?_, ?_⟩
  · exact own_mono (ownsRow_setCell_below (ownsRow_setCell_below HO2.out Z1.out _) Z1.out _) (by simp; omega)
  · exact (HB2.out.setCell (p := ⟨w.heap.size + 1, 0, none⟩) (by simp) _).setCell (p := ⟨w.heap.size + 1, 1, none⟩) (by simp) _

end Go.Proofs.YtphddemilibooaaDoor

/- It is proved that least clubs are parts of no other one, and that each club has one of them as a part; conditions: those of each statement. -/
namespace Go.Proofs.YtphddemilibooaaDoor
open Go.RowKit

theorem unbeaten_mem (g : Int → Int → Bool) (zs : List Int) (z : Int) : z ∈ unbeaten g zs ↔ z ∈ zs ∧ beaten g zs z = false := by
  simp [unbeaten, List.mem_filter, simpZ_mem]

theorem unbeaten_asc (g : Int → Int → Bool) (zs : List Int) : Asc (unbeaten g zs) := List.Pairwise.filter _ (simpZ_asc zs)
set_option maxRecDepth 100000 in
theorem leG_fin : ∀ o : Fin 64, ∀ z : Fin 64, leG (o.val : Int) (z.val : Int) = decide (o.val &&& z.val = o.val) := by decide +kernel

theorem leG_nat (o z : Nat) (ho : o < 64) (hz : z < 64) : leG (o : Int) (z : Int) = decide (o &&& z = o) := leG_fin ⟨o, ho⟩ ⟨z, hz⟩
end Go.Proofs.YtphddemilibooaaDoor
