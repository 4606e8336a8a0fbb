/- It is proved what the methods only, takenOut and greatest return; conditions: those of each statement. -/
import Derived.RowKit
import Derived.Laws.CopyRow
import Derived.Lib.SlBuf
import Derived.Deep.QuietTactic
import Derived.RangeFuncNested
import Derived.RangeFuncBound
import Derived.RangeFuncCalls
import Derived.RangeFuncLeaves
import Derived.RangeFuncBox
import Derived.RangeFuncWrites
import Derived.StillTailTactics
import Derived.Maps.OwnIn
import Derived.Maps.Ext
import Derived.DeepKeys4
import Derived.MapKept
import Derived.Test.YtphddemilibooaaDoorRows
import Derived.WalkKit
import Derived.WalkSpells
import Derived.ProofKit
import Derived.OpenShut
import Derived.ShutString
import Derived.ChangeOld
import Derived.Below
import Derived.Deep.RegionHeld3
import Derived.BigQuiet
import Derived.Lib.Hide
import Derived.Lib.SmallJoins
import Derived.Outline
import Derived.Laws.MakeOwn
import Derived.Laws.OwnMore
import Derived.IntWalk
import Derived.Lib.AppendZeros
import Derived.Maps.AppendAt
import Derived.Deep.AppendLies
import Derived.OwnWalk
import Derived.Lib.SlicesCompact
import Derived.Lib.OwnBridge
import Derived.OrdersIn
import Derived.TacticsIn
import Derived.Shelf.Sort.Plain
import Derived.Shelf.Slices.In.SortNone
import Derived.Shelf.Slices.CompactI
import Derived.Ground.Names2Prog
import Derived.Lib.SliceRun
import Derived.Shelf.Abstract
import Derived.Shelf.RegionOpen
import Derived.OwnWalkIn
import Derived.TacticsInMore
import Derived.LoopNIn
import Derived.LoopIn
import Derived.StillTail
import Derived.StillTactics
import Derived.Shelf.Spec.TrailingZeros
import Derived.Test.YtphddemilibooaaDoorRaab
import Derived.Test.YtphddemilibooaaDoorRaaa
import Derived.Test.YtphddemilibooaaDoorRaac
import Derived.Test.YtphddemilibooaaDoorRaad
import Derived.Test.YtphddemilibooaaDoorRaai
import Derived.Test.YtphddemilibooaaDoorRaal
import Derived.Test.YtphddemilibooaaDoorKc
import Derived.Test.YtphddemilibooaaDoorRabuxFnProp
import Derived.Test.YtphddemilibooaaDoorYa
import Derived.Deep.LoopGhost
import Derived.Sort.MapsRangeIn
import Derived.Deep.RegionLaw
import Derived.Test.YtphddemilibooaaDoorRaas
import Derived.Test.YtphddemilibooaaDoorRaaz
import Derived.Test.YtphddemilibooaaDoorRaaj
import Derived.Test.YtphddemilibooaaDoorTb
import Derived.Test.YtphddemilibooaaDoorRaax
import Derived.Test.YtphddemilibooaaDoorRabhxFnProp
namespace Go.Proofs.YtphddemilibooaaDoor
open Go.RowKit

theorem onlyFn_any (z x : Int) (X : Nat) (W : World) (h : W.cell? ⟨X, 0, none⟩ = some (.int .i64 x)) :
    Calls Tryd.prog 100 #[.int .i64 z, .pointer (some ⟨X, 0, none⟩)] W fun e W' => e = .returned (.int .i64 (bits .and .i64 z x)) ∧ Below W.heap.size W W' := by
  go_enter Tryd.func100, Tryd.ntmps100
  go_wp2
  go_ret
  exact ⟨rfl, Below.refl _ _⟩

set_option maxRecDepth 100000 in
set_option maxHeartbeats 1600000 in
theorem only_any (m x : Int) (a : Option Addr) (c : Nat) (zs : List Int) (w : World) (ha : Ints w w.heap.size a zs) (hx : zs.length ≤ 1048576) :
    Calls Tryd.prog 90 #[.agg #[.int .i64 m, .slice a zs.length c], .int .i64 x] w (RetFam w m (zs.map fun z => bits .and .i64 z x)) := by
  have hmf : ∀ (fn : Fn) (first cap : Array Value) (w : World), (Instr.makeFunc fn first cap).run Tryd.prog w = .ok (.func fn first cap) w := fun _ _ _ _ => rfl
  obtain ⟨W3, hW3, q1, q2, hs3, hb3⟩ : ∃ W3, ((w.alloc (.cells #[.int .i64 m, .slice a zs.length c] 25)).alloc (.cells #[.int .i64 x] 37)).alloc (.cells #[.int .i64 0, .slice none 0 0] 25) = W3 ∧ HasBlk W3 (w.heap.size + 1) #[.int .i64 x] 37 ∧ HasBlk W3 (w.heap.size + 1 + 1) #[.int .i64 0, .slice none 0 0] 25 ∧ W3.heap.size = w.heap.size + 3 ∧ Below w.heap.size w W3 :=
    ⟨_, rfl, alloc3_1 w _ _ _, alloc3_2 w _ _ _, by simp, below3 w _ _ _⟩
  have hc := (blk_cell q1 0).trans (cell1_0 _)
  have HM : Hid (Calls Tryd.prog 99 #[.agg #[.int .i64 m, .slice a zs.length c], .func (.func 100) #[] #[.pointer (some ⟨w.heap.size + 1, 0, none⟩)]] W3 (RetFam W3 m (zs.map fun z => bits .and .i64 z x))) :=
    Lib.hid (mappedW (fun _ => True) m a c zs (w.heap.size + 1) (fun z => bits .and .i64 z x) W3 ((ha.below hb3).mono (by omega)) hx (fun _ _ => trivial)
      (fun p W _ hb => onlyFn_any p.2 x (w.heap.size + 1) W ((hb.cell (p := ⟨w.heap.size + 1, 0, none⟩) (by show w.heap.size + 1 < W3.heap.size; omega)).trans hc)))
  have Q2 := Lib.hid q2
  have HB3 := Lib.hid hb3
  have HSZ := Lib.hid hs3
  obtain ⟨ys, hys⟩ : ∃ ys, ys = zs.map fun z => bits .and .i64 z x := ⟨_, rfl⟩
  have Q0 : Hid (W3.cell? ⟨w.heap.size, 0, none⟩ = some (.int .i64 m) ∧ W3.cell? ⟨w.heap.size, 1, none⟩ = some (.slice a zs.length c)) := Lib.hid ⟨by rw [← hW3]; exact (blk_cell (alloc3_0 w _ _ _) 0).trans (cell2_0 _ _), by rw [← hW3]; exact (blk_cell (alloc3_0 w _ _ _) 1).trans (cell2_1 _ _)⟩
  rw [← hys] at HM ⊢
  clear ha q1 q2 hc hb3 hs3 hys
  go_enter Tryd.func90, Tryd.ntmps90
  obtain ⟨x0, x1⟩ := Q0.out
  go_wp2_with fail
  clear hW3
  refine HM.out.mono ?_
  rintro e w2 ⟨a2, c2, rfl, ho2, hb2⟩
  have b2' : w2.heap[w.heap.size + 1 + 1]? = some (.cells #[.int .i64 0, .slice none 0 0] 25 (0, 0)) := (hb2.block _ (by have := HSZ.out; omega)).trans Q2.out
  have d0 := (blk_cell b2' 0).trans (cell2_0 _ _)
  have d1 := (blk_cell b2' 1).trans (cell2_1 _ _)
  have f0 := blk_frozen b2' 0
  have f1 := blk_frozen b2' 1
  have HO2 := Lib.hid ho2
  have HB2 := Lib.hid (HB3.out.trans (hb2.mono (by have := HSZ.out; omega)))
  clear ho2 hb2 b2'
  go_wp2
  refine bodyPost_ret (v := .agg #[.int .i64 m, .slice a2 ys.length c2]) (by simp [results, Tryd.results90, go_sem, d0, d1]) rfl ?_
  have hz := HSZ.out
  refine ⟨a2, c2, rfl, ?_, ?_⟩
  · exact own_mono (ownsRow_setCell_below (ownsRow_setCell_below HO2.out (a := ⟨w.heap.size + 1 + 1, 0, none⟩) (by show w.heap.size + 1 + 1 < W3.heap.size; omega) _) (a := ⟨w.heap.size + 1 + 1, 1, none⟩) (by show w.heap.size + 1 + 1 < W3.heap.size; omega) _) (by omega)
  · exact (HB2.out.setCell (p := ⟨w.heap.size + 1 + 1, 0, none⟩) (by simp; omega) _).setCell (p := ⟨w.heap.size + 1 + 1, 1, none⟩) (by simp; omega) _

set_option maxRecDepth 100000 in
theorem and_wo_fin : ∀ k : Fin 7, ∀ s : Fin 64, ∀ v : Fin 6, s.val < 2 ^ k.val → bits .and .i64 (s.val : Int) ((woP (2 ^ k.val - 1) v.val : Nat) : Int) = ((woP s.val v.val : Nat) : Int) := by decide +kernel

theorem and_wo {k : Nat} (hk6 : k ≤ 6) {zs : List Int} (hz : Sets k zs) {v : Nat} (hv : v < 6) : (zs.map fun z => bits .and .i64 z ((woP (2 ^ k - 1) v : Nat) : Int)) = zs.map (woZ v) :=
  List.map_congr_left fun z hzm => by
    have h := and_wo_fin ⟨k, by omega⟩ ⟨z.toNat, p64 hk6 (hz z hzm).2⟩ ⟨v, hv⟩ (hz z hzm).2
    simp only [Int.toNat_of_nonneg (hz z hzm).1] at h
    exact h

theorem fullK (k : Nat) (hk1 : 1 ≤ k) (hk6 : k ≤ 6) : fullI (k : Int) = ((2 ^ k - 1 : Nat) : Int) := by
  match k, hk1, hk6 with
  | 1, _, _ => rfl
  | 2, _, _ => rfl
  | 3, _, _ => rfl
  | 4, _, _ => rfl
  | 5, _, _ => rfl
  | 6, _, _ => rfl

set_option maxRecDepth 100000 in
set_option maxHeartbeats 1600000 in
theorem takenOut_any (k : Nat) (hk1 : 1 ≤ k) (hk6 : k ≤ 6) (a : Option Addr) (c : Nat) (zs : List Int) (v : Nat) (hv : v < 6) (w : World) (ha : Ints w w.heap.size a zs) (hx : zs.length ≤ 1048576) (hz : Sets k zs) :
    Calls Tryd.prog 76 #[.agg #[.int .i64 (k : Int), .slice a zs.length c], .int .i64 (v : Int)] w (RetFam w (k : Int) (zs.map (woZ v))) := by
  have HB0 := Lib.hid (below2 w (.cells #[.int .i64 (k : Int), .slice a zs.length c] 25) (.cells #[.int .i64 0, .slice none 0 0] 25))
  have HON : Hid (∀ (b : Option Addr) (d : Nat) (W : World), Ints W W.heap.size b zs → Calls Tryd.prog 90 #[.agg #[.int .i64 (k : Int), .slice b zs.length d], .int .i64 ((woP (2 ^ k - 1) v : Nat) : Int)] W (RetFam W (k : Int) (zs.map (woZ v)))) :=
    Lib.hid fun b d W hi => by rw [← and_wo hk6 hz hv]; exact only_any _ _ b d zs W hi hx
  have HFU : Hid (∀ (b : Option Addr) (n d : Nat) (W : World), Calls Tryd.prog 38 #[.agg #[.int .i64 (k : Int), .slice b n d]] W fun e w' => e = .returned (.int .i64 ((2 ^ k - 1 : Nat) : Int)) ∧ Below W.heap.size W w') :=
    Lib.hid fun b n d W => by rw [← fullK k hk1 hk6]; exact full_b _ b n d W (by omega) (by omega)
  have hF64 : 2 ^ k - 1 < 64 := by have := Nat.pow_le_pow_right (n := 2) (by decide) hk6; omega
  obtain ⟨F, hF⟩ : ∃ F, F = 2 ^ k - 1 := ⟨_, rfl⟩
  obtain ⟨ys, hys⟩ : ∃ ys, ys = zs.map (woZ v) := ⟨_, rfl⟩
  rw [← hF] at HON HFU hF64
  rw [← hys] at HON ⊢
  obtain ⟨W2, hW2, q0, q1, hs2, hb2⟩ : ∃ W2, (w.alloc (.cells #[.int .i64 (k : Int), .slice a zs.length c] 25)).alloc (.cells #[.int .i64 0, .slice none 0 0] 25) = W2 ∧ HasBlk W2 w.heap.size #[.int .i64 (k : Int), .slice a zs.length c] 25 ∧ HasBlk W2 (w.heap.size + 1) #[.int .i64 0, .slice none 0 0] 25 ∧ W2.heap.size = w.heap.size + 2 ∧ Below w.heap.size w W2 :=
    ⟨_, rfl, alloc2_0 w _ _, alloc2_1 w _ _, by simp, below2 w _ _⟩
  have x0 := (blk_cell q0 0).trans (cell2_0 _ _)
  have x1 := (blk_cell q0 1).trans (cell2_1 _ _)
  have HI2 := Lib.hid ((ha.below hb2).mono (show w.heap.size ≤ W2.heap.size by omega))
  have Q1 := Lib.hid q1
  have HB := Lib.hid hb2
  have hH1 : w.heap.size < W2.heap.size := by omega
  have hH2 : w.heap.size + 1 < W2.heap.size := by omega
  clear ha hz hys hF q0 q1 hb2 hs2
  go_enter Tryd.func76, Tryd.ntmps76
  go_wp2_with fail
  clear hW2
  go_region_held3 (fun w' => w'.cell? ⟨w.heap.size, 0, none⟩ = some (.int .i64 (k : Int)) ∧ w'.cell? ⟨w.heap.size, 1, none⟩ = some (.slice a zs.length c))
    (first
      | exact ⟨x0, x1⟩
      | exact ⟨(hb4.cell (p := ⟨w.heap.size, 0, none⟩) hH1).trans x0, (hb4.cell (p := ⟨w.heap.size, 1, none⟩) hH1).trans x1⟩
      | exact ⟨((hb4.trans (hb5.mono hb4.size)).cell (p := ⟨w.heap.size, 0, none⟩) hH1).trans x0, ((hb4.trans (hb5.mono hb4.size)).cell (p := ⟨w.heap.size, 1, none⟩) hH1).trans x1⟩
      | exact two_far (((hb4.trans (hb5.mono hb4.size)).cell (p := ⟨w.heap.size, 0, none⟩) hH1).trans x0) (((hb4.trans (hb5.mono hb4.size)).cell (p := ⟨w.heap.size, 1, none⟩) hH1).trans x1))
    (first
      | (go_at_call 38; refine (HFU.out _ _ _ _).mono ?_; rintro e w4 ⟨rfl, hb4'⟩; have hb4 : Below W2.heap.size W2 w4 := (Below.drew (Below.refl _ _)).trans hb4')
      | (go_at_call 91; refine (without_any F v hF64 hv _).mono ?_; rintro e w' ⟨rfl, rfl⟩)
      | (go_at_call 90; refine (HON.out _ _ _ ((HI2.out.below hb4).mono hb4.size)).mono ?_; rintro e w5 ⟨a5, c5, rfl, ho5, hb5⟩; have e2 := ((hb4.trans (hb5.mono hb4.size)).block _ hH2).trans Q1.out; have d0 := (blk_cell e2 0).trans (cell2_0 _ _); have d1 := (blk_cell e2 1).trans (cell2_1 _ _); have f0 := blk_frozen e2 0; have f1 := blk_frozen e2 1))
  have HO5 := Lib.hid ho5
  have hz4 : W2.heap.size ≤ w4.heap.size := hb4.size
  have HB5 := Lib.hid (HB.out.trans ((hb4.trans (hb5.mono hb4.size)).mono (by omega)))
  rename_i hHeldX
  clear hHeldX hb4 hb5 e2 ho5 hb4'
  go_wp2
  refine bodyPost_ret (v := .agg #[.int .i64 (k : Int), .slice a5 ys.length c5]) (by simp [results, Tryd.results76, go_sem, d0, d1]) rfl ?_
  refine ⟨_, c5, rfl, ?_, ?_⟩
  · have h1 := ownsRow_setCell_below (ownsRow_setCell_below HO5.out (a := ⟨w.heap.size + 1, 0, none⟩) (by show w.heap.size + 1 < w4.heap.size; omega) (.int .i64 (k : Int))) (a := ⟨w.heap.size + 1, 1, none⟩) (by show w.heap.size + 1 < w4.heap.size; omega) (.slice a5 ys.length c5)
    unfold OwnI
    simpa using ownsRow_base h1 (B := w.heap.size) (by omega)
  · simpa using (HB5.out.setCell (p := ⟨w.heap.size + 1, 0, none⟩) (by simp) (.int .i64 (k : Int))).setCell (p := ⟨w.heap.size + 1, 1, none⟩) (by simp) (.slice a5 ys.length c5)

set_option maxRecDepth 100000 in
set_option maxHeartbeats 1600000 in
theorem greatest_any (m : Int) (a : Option Addr) (c : Nat) (zs : List Int) (w : World) (ha : Ints w w.heap.size a zs) (hx : zs.length ≤ 1048576) :
    Calls Tryd.prog 74 #[.agg #[.int .i64 m, .slice a zs.length c]] w (RetFam w m (grZ zs)) := by
  have HB0 := Lib.hid (below2 w (.cells #[.int .i64 m, .slice a zs.length c] 25) (.cells #[.int .i64 0, .slice none 0 0] 25))
  have HA := Lib.hid ((ha.below HB0.out).mono (B' := ((w.alloc (.cells #[.int .i64 m, .slice a zs.length c] 25)).alloc (.cells #[.int .i64 0, .slice none 0 0] 25)).heap.size) (by simp; omega))
  have HG : Hid (∀ W, Ints W W.heap.size a zs → Calls Tryd.prog 87 #[.agg #[.int .i64 m, .slice a zs.length c], .func (.func 88) #[] #[]] W (RetFam W m (grZ zs))) := Lib.hid fun W h => without69 m a c zs W h hx
  clear ha
  go_enter Tryd.func74, Tryd.ntmps74
  go_wp2_with fail
  refine (HG.out _ HA.out).mono ?_
  rintro e w2 ⟨a2, c2, rfl, ho2, hb2⟩
  have b2' : w2.heap[w.heap.size + 1]? = some (.cells #[.int .i64 0, .slice none 0 0] 25 (0, 0)) := (hb2.block _ (by simp)).trans (alloc2_1 w _ _)
  have d0 := (blk_cell b2' 0).trans (cell2_0 _ _)
  have d1 := (blk_cell b2' 1).trans (cell2_1 _ _)
  have f0 := blk_frozen b2' 0
  have f1 := blk_frozen b2' 1
  have HO2 := Lib.hid ho2
  have HB2 := Lib.hid (HB0.out.trans (hb2.mono (by simp; omega)))
  clear ho2 hb2 b2'
  go_wp2
  refine bodyPost_ret (v := .agg #[.int .i64 m, .slice a2 (grZ zs).length c2]) (by simp [results, Tryd.results74, go_sem, d0, d1]) rfl ?_
  refine ⟨a2, c2, rfl, ?_, ?_⟩
  · exact own_mono (ownsRow_setCell_below (ownsRow_setCell_below HO2.out (a := ⟨w.heap.size + 1, 0, none⟩) (by simp) _) (a := ⟨w.heap.size + 1, 1, none⟩) (by simp) _) (by simp; omega)
  · exact (HB2.out.setCell (p := ⟨w.heap.size + 1, 0, none⟩) (by simp) _).setCell (p := ⟨w.heap.size + 1, 1, none⟩) (by simp) _

end Go.Proofs.YtphddemilibooaaDoor

/- It is proved what the method reduced and EarReduce of the program return; conditions: those of each statement. -/
namespace Go.Proofs.YtphddemilibooaaDoor
open Go.RowKit

theorem fam_of {k : Nat} (hk1 : 1 ≤ k) (hk6 : k ≤ 6) {zs : List Int} (h8 : zs.length ≤ 8) (hz : Sets k zs) : famIn (k : Int) zs = true := by
  refine famIn_y (by simp [inB]; omega) h8 fun j hj => ?_
  obtain ⟨h0, h1⟩ := hz _ (at_in hj)
  rw [fullK k hk1 hk6]
  have := Nat.two_pow_pos k
  simp only [inB, Bool.and_eq_true, decide_eq_true_eq]
  omega

/-- What FamilyDegrees leaves: how many sets have each member. -/
def DegRet (w : World) (k : Nat) (G : List Int) (e : Ending) (w' : World) : Prop :=
  ∃ a cap, e = .returned (.tuple #[.slice a k cap, .bool true]) ∧ (∀ j, j < k → ∃ b o, a = some ⟨b, o, none⟩ ∧ b < w'.heap.size ∧ w'.cell? ⟨b, o + j, none⟩ = some (.int .i64 ((G.countP (Bt j) : Nat) : Int))) ∧ Below w.heap.size w w'

theorem degs_any (k : Nat) (hk1 : 1 ≤ k) (hk6 : k ≤ 6) (a : Option Addr) (c : Nat) (G : List Int) (w : World) (ha : Ints w w.heap.size a G) (hT : Tab w) (h8 : G.length ≤ 8) (hz : Sets k G) :
    Calls Tryd.prog 75 #[.agg #[.int .i64 (k : Int), .slice a G.length c]] w (DegRet w k G) := by
  have hf := fam_of hk1 hk6 h8 hz
  have h := implDegrees_any (k : Int) a c G w ha hT (by omega)
  rw [hf, show famDeg (k : Int) G = degL k (allMem G) from by simp [famDeg, hf]] at h
  refine h.mono ?_
  rintro e w' ⟨a', c', rfl, ho, hb⟩
  rw [degL_length]
  refine ⟨a', c', rfl, fun j hj => ?_, hb⟩
  obtain ⟨b, o, e1, h1, h2⟩ := (own_ints ho).at_ (k := j) (by rw [degL_length]; exact hj)
  rw [degL_at _ _ _ hj, Option.getD_some, deg_countP (by omega) G (fun z hm => p64 hk6 (hz z hm).2)] at h2
  exact ⟨b, o, e1, h1, h2⟩

/-- The family that is left so far, in its box. -/
structure RedW (w : World) (L k : Nat) (zs G : List Int) (a : Option Addr) (c : Nat) (W : World) : Prop where
  box : HasBlk W L #[.int .i64 (k : Int), .slice a G.length c] 25
  res : HasBlk W (w.heap.size + 1) #[.int .i64 0, .slice none 0 0] 25
  own : OwnN W (w.heap.size + 2) a G.length c G
  ne : (Value.slice a G.length c).ownBlock ≠ some L
  red : Red k (grZ zs) G
  gr : grZ G = G
  len : G.length ≤ 8
  below : Below w.heap.size w W

theorem RedW.step {w W w' : World} {L k : Nat} {zs G : List Int} {a : Option Addr} {c : Nat} (h : RedW w L k zs G a c W) (hb : Below W.heap.size W w') : RedW w L k zs G a c w' :=
  ⟨(hb.block _ (lt_of_some h.box)).trans h.box, (hb.block _ (lt_of_some h.res)).trans h.res, h.own.below hb, h.ne, h.red, h.gr, h.len, h.below.trans (hb.mono h.below.size)⟩

theorem gr_len (zs : List Int) : (grZ zs).length ≤ zs.length := unbeaten_le _ _
set_option maxRecDepth 100000 in
set_option maxHeartbeats 4000000 in
theorem reduced_any (k : Nat) (hk1 : 1 ≤ k) (hk6 : k ≤ 6) (a : Option Addr) (c : Nat) (zs : List Int) (w : World) (ha : Ints w w.heap.size a zs) (hT : Tab w) (h8 : zs.length ≤ 8) (hz : Sets k zs) :
    Calls Tryd.prog 53 #[.agg #[.int .i64 (k : Int), .slice a zs.length c]] w (RetFam w (k : Int) (redZ k zs)) := by
  obtain ⟨W2, hW2, q1, hs2, hb2⟩ : ∃ W2, (w.alloc (.cells #[.int .i64 (k : Int), .slice a zs.length c] 25)).alloc (.cells #[.int .i64 0, .slice none 0 0] 25) = W2 ∧ HasBlk W2 (w.heap.size + 1) #[.int .i64 0, .slice none 0 0] 25 ∧ W2.heap.size = w.heap.size + 2 ∧ Below w.heap.size w W2 :=
    ⟨_, rfl, alloc2_1 w _ _, by simp, below2 w _ _⟩
  have HG0 : Hid (Calls Tryd.prog 74 #[.agg #[.int .i64 (k : Int), .slice a zs.length c]] W2 (RetFam W2 (k : Int) (grZ zs))) := Lib.hid (greatest_any _ a c zs W2 ((ha.below hb2).mono (by omega)) (by omega))
  have Q1 := Lib.hid q1
  have HB2 := Lib.hid hb2
  have HS2 := Lib.hid hs2
  have HT := Lib.hid hT
  have HZ := Lib.hid hz
  have HGL : Hid ((grZ zs).length ≤ 8) := Lib.hid (Nat.le_trans (gr_len zs) h8)
  have x0 : W2.cell? ⟨w.heap.size, 0, none⟩ = some (.int .i64 (k : Int)) := by rw [← hW2]; exact (blk_cell (alloc2_0 w _ _) 0).trans (cell2_0 _ _)
  have x1 : W2.cell? ⟨w.heap.size, 1, none⟩ = some (.slice a zs.length c) := by rw [← hW2]; exact (blk_cell (alloc2_0 w _ _) 1).trans (cell2_1 _ _)
  clear ha hT hz q1 hb2 hs2
  obtain ⟨G0, hG0⟩ : ∃ G0, G0 = grZ zs := ⟨_, rfl⟩
  have HG0' := Lib.hid hG0
  rw [← hG0] at HG0 HGL
  clear hG0
  go_enter Tryd.func53, Tryd.ntmps53
  go_wp2_with fail
  go_step3
  go_wp2_with fail
  clear hW2
  refine HG0.out.mono ?_
  rintro e w1 ⟨a1, c1, rfl, ho1, hb1⟩
  have hz1 : W2.heap.size ≤ w1.heap.size := hb1.size
  obtain ⟨L, hL⟩ : ∃ L, L = w1.heap.size := ⟨_, rfl⟩
  have HR0 : Hid (RedW w L k zs G0 a1 c1 (w1.alloc (.cells #[.int .i64 (k : Int), .slice a1 G0.length c1] 25))) := Lib.hid (by
    have hne : (Value.slice a1 G0.length c1).ownBlock ≠ some L := OwnN.ne (show OwnN w1 W2.heap.size a1 G0.length c1 G0 from ho1) (.inr (by omega))
    have hs := HS2.out
    have e0 := HG0'.out
    refine ⟨?_, ?_, ?_, hne, by rw [e0]; exact .refl _, by rw [e0]; exact gr_gr hk6 HZ.out, HGL.out, ?_⟩
    · rw [hL]; exact alloc_new w1 _
    · exact HasBlk.alloc ((hb1.block _ (by omega)).trans Q1.out : HasBlk w1 (w.heap.size + 1) _ 25) _
    · exact ownsRow_base (World.ownsRow.alloc ho1 _) (by omega)
    · exact (HB2.out.trans (hb1.mono (by omega))).alloc (by omega) _)
  have HSZ : Hid (w.heap.size + 2 ≤ L ∧ L = w1.heap.size) := Lib.hid ⟨by have := HS2.out; omega, hL⟩
  have y0 : (w1.alloc (.cells #[.int .i64 0, .slice none 0 0] 25)).cell? ⟨w1.heap.size, 0, none⟩ = some (.int .i64 0) := (blk_cell (alloc_new w1 _) 0).trans (cell2_0 _ _)
  have y1 : (w1.alloc (.cells #[.int .i64 0, .slice none 0 0] 25)).cell? ⟨w1.heap.size, 1, none⟩ = some (.slice none 0 0) := (blk_cell (alloc_new w1 _) 1).trans (cell2_1 _ _)
  clear ho1 hb1 hz1 HG0 HB2 Q1 x0 x1
  go_wp2
  go_step3
  go_wp2
  have HTS : Hid (1 < w.heap.size) := Lib.hid HT.out.lt
  rw [← hL]
  clear hL
  go_loopg [4, 5, 6, 7] (mbN G0 + 1) (fun g s4 s5 s6 s7 wr => ∃ G a' c', RedW w L k zs G a' c' wr ∧ mbN G < g)
  case atStart => exact ⟨G0, a1, c1, HR0.out, Nat.lt_succ_self _⟩
  case round =>
    obtain ⟨G, a', c', hR, hmb⟩ := hrel
    obtain ⟨g, rfl⟩ : ∃ g, gk = g + 1 := ⟨gk - 1, by omega⟩
    have HMB := Lib.hid hmb
    clear hmb
    have HR := Lib.hid hR
    have y0 := (blk_cell hR.box 0).trans (cell2_0 _ _)
    have y1 := (blk_cell hR.box 1).trans (cell2_1 _ _)
    have hSG : Sets k G := hR.red.sets (gr_sets HZ.out)
    have HSG := Lib.hid hSG
    have HD : Hid (Calls Tryd.prog 75 #[.agg #[.int .i64 (k : Int), .slice a' G.length c']] wr (DegRet wr k G)) :=
      Lib.hid (degs_any k hk1 hk6 a' c' G wr hR.own.ints (HT.out.below hR.below HTS.out) hR.len hSG)
    have HND : Hid G.Nodup := Lib.hid (by rw [← hR.gr]; exact gr_nodup _)
    clear hR hSG
    go_wp2_with (go_at_call 75; refine HD.out.mono ?_; rintro e w3 ⟨a3, c3, rfl, hcells, hb3⟩)
    have HR3 := Lib.hid (HR.out.step hb3)
    have HC := Lib.hid hcells
    clear hb3 hcells y0 y1 HD
    go_loopg [6, 7, 17] k (fun g2 s6 s7 s17 wy => ∃ j : Nat, j + g2 = k ∧ s17 = .int .i64 j ∧ Hid (∀ i, i < j → ¬ D1 i G) ∧ w3 = wy)
    case atStart => exact ⟨0, by omega, rfl, fun i hi => by omega, rfl⟩
    case round =>
      obtain ⟨j, hjg, rfl, hj, rfl⟩ := hrel
      cases gk with
      | zero =>
        have hjk : ¬ ((j : Int) < (k : Int)) := by omega
        have y0 := (blk_cell HR3.out.box 0).trans (cell2_0 _ _)
        have y1 := (blk_cell HR3.out.box 1).trans (cell2_1 _ _)
        have d0 := (blk_cell HR3.out.res 0).trans (cell2_0 _ _)
        have d1 := (blk_cell HR3.out.res 1).trans (cell2_1 _ _)
        have f0 := blk_frozen HR3.out.res 0
        have f1 := blk_frozen HR3.out.res 1
        have HE : Hid (G = redZ k zs) := Lib.hid (redZ_is hk6 HZ.out HR3.out.red (fun i hi => hj.out i (by omega)))
        clear hj
        go_wp2
        try rw [Exit.noGoto_ret]
        rw [← HE.out]
        refine bodyPost_ret (v := .agg #[.int .i64 (k : Int), .slice a' G.length c']) (by simp [results, Tryd.results53, go_sem, d0, d1]) rfl ?_
        have hr := HR3.out
        refine ⟨a', c', rfl, ?_, ?_⟩
        · exact ownsRow_base (ownsRow_setCell_below (ownsRow_setCell_below hr.own (a := ⟨w.heap.size + 1, 0, none⟩) (by show w.heap.size + 1 < w.heap.size + 2; omega) _) (a := ⟨w.heap.size + 1, 1, none⟩) (by show w.heap.size + 1 < w.heap.size + 2; omega) _) (by omega)
        · exact (hr.below.setCell (p := ⟨w.heap.size + 1, 0, none⟩) (by simp) _).setCell (p := ⟨w.heap.size + 1, 1, none⟩) (by simp) _
      | succ g2 =>
        have hjk : (j : Int) < (k : Int) := by omega
        have hj6 : j < 6 := by omega
        obtain ⟨b, o, rfl, hb, hc⟩ := HC.out j (by omega)
        obtain ⟨n, hn⟩ : ∃ n, n = G.countP (Bt j) := ⟨_, rfl⟩
        rw [← hn] at hc
        have HN := Lib.hid hn
        clear hn
        by_cases h1 : n = 1
        · subst h1
          have HDJ : Hid (D1 j G) := Lib.hid ((d1_cnt HND.out (fun _ => Iff.rfl)).2 HN.out.symm)
          have y0 := (blk_cell HR3.out.box 0).trans (cell2_0 _ _)
          have y1 := (blk_cell HR3.out.box 1).trans (cell2_1 _ _)
          have hbG := HR3.out
          have HTO : Hid (Calls Tryd.prog 76 #[.agg #[.int .i64 (k : Int), .slice a' G.length c'], .int .i64 (j : Int)] w3 (RetFam w3 (k : Int) (G.map (woZ j)))) :=
            Lib.hid (takenOut_any k hk1 hk6 a' c' G j hj6 w3 hbG.own.ints (by have := hbG.len; omega) HSG.out)
          have HGR : Hid (∀ b d W, Ints W W.heap.size b (G.map (woZ j)) → Calls Tryd.prog 74 #[.agg #[.int .i64 (k : Int), .slice b (G.map (woZ j)).length d]] W (RetFam W (k : Int) (stepZ j G))) :=
            Lib.hid fun b d W hi => greatest_any _ b d _ W hi (by rw [List.length_map]; have := hbG.len; omega)
          obtain ⟨G1, hG1⟩ : ∃ G1, G1 = G.map (woZ j) := ⟨_, rfl⟩
          obtain ⟨G2, hG2⟩ : ∃ G2, G2 = stepZ j G := ⟨_, rfl⟩
          rw [← hG1] at HTO HGR
          rw [← hG2] at HGR
          have HG1 := Lib.hid hG1
          have HG2 := Lib.hid hG2
          clear hbG hG1 hG2 hj
          go_wp2_with (first
            | (go_at_call 76; refine HTO.out.mono ?_; rintro e w4 ⟨a4, c4, rfl, ho4, hb4⟩; have HI4 := Lib.hid (own_ints ho4); have HB4 := Lib.hid hb4; clear ho4 hb4)
            | (go_at_call 74; refine (HGR.out _ _ _ HI4.out).mono ?_; rintro e w5 ⟨a5, c5, rfl, ho5, hb5⟩; have HO5 := Lib.hid ho5; have HR5 := Lib.hid ((HR3.out.step HB4.out).step hb5); have z0 := (blk_cell HR5.out.box 0).trans (cell2_0 _ _); have z1 := (blk_cell HR5.out.box 1).trans (cell2_1 _ _); have g0 := blk_frozen HR5.out.box 0; have g1 := blk_frozen HR5.out.box 1; clear ho5 hb5))
          have HN5 : Hid ((Value.slice a5 G2.length c5).ownBlock ≠ some L) := Lib.hid (OwnN.ne (show OwnN w5 w4.heap.size a5 G2.length c5 G2 from HO5.out) (.inl (Nat.lt_of_lt_of_le (lt_of_some HR3.out.box) HB4.out.size)))
          have hw3 : w.heap.size ≤ w3.heap.size := HR3.out.below.size
          have hw4 : w3.heap.size ≤ w4.heap.size := HB4.out.size
          have hL3 : L < w3.heap.size := lt_of_some HR3.out.box
          have hsz := HSZ.out.1
          go_roundg g
          case measure => omega
          case rel =>
            have hG2 := HG2.out
            have hD := HDJ.out
            have hS := HSG.out
            have h5 := HR5.out
            refine ⟨G2, a5, c5, ⟨?_, ?_, ?_, HN5.out, ?_, ?_, ?_, ?_⟩, ?_⟩
            · exact heap_setCell_same _ L 1 _ 25 (.slice a5 G2.length c5) (heap_setCell_same _ L 0 _ 25 (.int .i64 (k : Int)) h5.box)
            · exact HasBlk.far (HasBlk.far h5.res (by show w.heap.size + 1 ≠ L; omega) _) (by show w.heap.size + 1 ≠ L; omega) _
            · exact ownsRow_base (ownsRow_setCell_ne (ownsRow_setCell_ne (show w5.ownsRow w4.heap.size 3 1 (.slice a5 G2.length c5) G2.length (G2.map (Value.int .i64)) from HO5.out) (p := ⟨L, 0, none⟩) HN5.out _) (p := ⟨L, 1, none⟩) HN5.out _) (by omega)
            · rw [hG2]; exact h5.red.trans (.one (by omega) hD)
            · rw [hG2]; exact gr_gr hk6 (woZ_sets hS)
            · rw [hG2]; exact Nat.le_trans (gr_len _) (by rw [List.length_map]; exact h5.len)
            · exact (h5.below.setCell (p := ⟨L, 0, none⟩) (by show w.heap.size ≤ L; omega) _).setCell (p := ⟨L, 1, none⟩) (by show w.heap.size ≤ L; omega) _
            · have hm := HMB.out
              obtain ⟨x, hx, hb, _⟩ := hD
              have h1 := mb_cut hk6 hj6 hS (List.any_eq_true.2 ⟨x, hx, hb⟩)
              have h2 := mb_gr hk6 (woZ_sets (v := j) hS)
              rw [hG2]
              unfold stepZ
              omega
        · have hn1 : ((n : Int) == 1) = false := by rw [beq_eq_false_iff_ne]; omega
          have hn2 : (n == 1) = false := by simpa using h1
          have HJ : Hid (∀ i, i < j + 1 → ¬ D1 i G) := Lib.hid fun i hi hd => by
            by_cases e : i = j
            · subst e
              exact h1 (HN.out.trans ((d1_cnt HND.out (fun _ => Iff.rfl)).1 hd))
            · exact hj.out i (by omega) hd
          clear hj h1
          go_wp2
          go_roundg g2
          case measure => omega
          case rel => exact ⟨j + 1, by omega, by go_num, HJ.out, rfl⟩

end Go.Proofs.YtphddemilibooaaDoor

/- It is proved what EarReduce and EarFalls of the program return; conditions: those of each statement. -/
namespace Go.Proofs.YtphddemilibooaaDoor
open Go.RowKit

def fallsB (m : Int) (zs : List Int) : Bool := famIn m zs && Nat.ble (redZ m.toNat zs).length 1
set_option maxRecDepth 100000 in
set_option maxHeartbeats 1600000 in
theorem implFalls_any (m : Int) (a : Option Addr) (c : Nat) (zs : List Int) (w : World) (ha : Ints w w.heap.size a zs) (hT : Tab w) (hx : zs.length ≤ 1048576) :
    Calls Tryd.prog 23 #[.agg #[.int .i64 m, .slice a zs.length c]] w fun e w' => e = .returned (.bool (fallsB m zs)) ∧ Below w.heap.size w w' := by
  unfold fallsB
  have HB0 := Lib.hid (below1 w (.cells #[.int .i64 m, .slice a zs.length c] 25))
  have HA := Lib.hid (ha.below HB0.out)
  have HT := Lib.hid hT
  clear ha hT
  cases hf : famIn m zs
  · have HF := Lib.hid hf
    clear hf
    go_enter Tryd.func23, Tryd.ntmps23
    go_wp2_with fail
    refine (implFamilyIn_any _ _ _ zs _ (HA.out.mono (by simp)) hx).mono ?_
    rintro e w1 ⟨rfl, hb⟩
    rw [HF.out]
    have HB := Lib.hid (HB0.out.trans (hb.mono (by simp)))
    clear hb
    go_wp2
    go_ret
    exact ⟨rfl, HB.out⟩
  · have HF := Lib.hid hf
    obtain ⟨k, rfl, hk1, hk6, hset, hl8⟩ := fam_nat2 hf
    simp only [Int.toNat_natCast, Bool.true_and]
    obtain ⟨N, hN⟩ : ∃ N, N = redZ k zs := ⟨_, rfl⟩
    have HRD : Hid (∀ W, Ints W W.heap.size a zs → Tab W → Calls Tryd.prog 53 #[.agg #[.int .i64 (k : Int), .slice a zs.length c]] W (RetFam W (k : Int) N)) := Lib.hid fun W h h' => by rw [hN]; exact reduced_any k hk1 hk6 a c zs W h h' hl8 hset
    rw [← hN]
    clear hf hset hl8 hN
    go_enter Tryd.func23, Tryd.ntmps23
    go_wp2_with fail
    refine (implFamilyIn_any _ _ _ zs _ (HA.out.mono (by simp)) hx).mono ?_
    rintro e w1 ⟨rfl, hb⟩
    rw [HF.out]
    have b0 : w1.heap[w.heap.size]? = some (.cells #[.int .i64 (k : Int), .slice a zs.length c] 25 (0, 0)) := (hb.block _ (by simp)).trans (alloc_new w _)
    have x0 := (blk_cell b0 0).trans (cell2_0 _ _)
    have x1 := (blk_cell b0 1).trans (cell2_1 _ _)
    have HB := Lib.hid (HB0.out.trans (hb.mono (by simp)))
    have HI1 := Lib.hid ((HA.out.below (hb.mono (by simp))).mono (show w.heap.size ≤ w1.heap.size by have := lt_of_some b0; omega))
    clear hb b0
    go_wp2_with fail
    refine (HRD.out _ HI1.out (HT.out.below HB.out HT.out.lt)).mono ?_
    rintro e w2 ⟨a2, c2, rfl, ho2, hb2⟩
    have HR := Lib.hid (HB.out.trans (hb2.mono HB.out.size))
    clear ho2 hb2
    have HLE : Hid (decide ((N.length : Int) ≤ 1) = Nat.ble N.length 1) := Lib.hid (by rw [Bool.eq_iff_iff, decide_eq_true_eq, Nat.ble_eq]; omega)
    have hff := field_fam
    go_wp2
    all_goals
      go_ret
      exact ⟨by rw [← HLE.out]; simp, HR.out⟩

end Go.Proofs.YtphddemilibooaaDoor
