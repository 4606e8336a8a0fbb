/- It is proved what the methods only, takenOut and greatest return; conditions: those of each statement. -/
import Derived.RowKit
import Derived.Laws.CopyRow
import Derived.Lib.SlBuf
import Derived.Deep.QuietTactic
import Derived.RangeFuncNested
import Derived.RangeFuncBound
import Derived.RangeFuncCalls
import Derived.RangeFuncLeaves
import Derived.RangeFuncBox
import Derived.RangeFuncWrites
import Derived.StillTailTactics
import Derived.Maps.OwnIn
import Derived.Maps.Ext
import Derived.DeepKeys4
import Derived.MapKept
import Derived.Test.YtacglafoahmcnaaDoorRows
import Derived.WalkKit
import Derived.WalkSpells
import Derived.ProofKit
import Derived.OpenShut
import Derived.ShutString
import Derived.ChangeOld
import Derived.Below
import Derived.Deep.RegionHeld3
import Derived.BigQuiet
import Derived.Lib.Hide
import Derived.Lib.SmallJoins
import Derived.Outline
import Derived.Laws.MakeOwn
import Derived.Laws.OwnMore
import Derived.IntWalk
import Derived.Lib.AppendZeros
import Derived.Maps.AppendAt
import Derived.Deep.AppendLies
import Derived.OwnWalk
import Derived.Lib.SlicesCompact
import Derived.Lib.OwnBridge
import Derived.OrdersIn
import Derived.TacticsIn
import Derived.Shelf.Sort.Plain
import Derived.Shelf.Slices.In.SortNone
import Derived.Shelf.Slices.CompactI
import Derived.Ground.Names2Prog
import Derived.Lib.SliceRun
import Derived.Shelf.Abstract
import Derived.Shelf.RegionOpen
import Derived.OwnWalkIn
import Derived.TacticsInMore
import Derived.LoopNIn
import Derived.LoopIn
import Derived.StillTail
import Derived.StillTactics
import Derived.Shelf.Spec.TrailingZeros
import Derived.Test.YtacglafoahmcnaaDoorRaah
import Derived.Test.YtacglafoahmcnaaDoorRaaa
import Derived.Test.YtacglafoahmcnaaDoorRaac
import Derived.Test.YtacglafoahmcnaaDoorRaag
import Derived.Test.YtacglafoahmcnaaDoorRaal
import Derived.Test.YtacglafoahmcnaaDoorRaam
import Derived.Test.YtacglafoahmcnaaDoorRabaxFnOrde
import Derived.Test.YtacglafoahmcnaaDoorRaad
import Derived.Test.YtacglafoahmcnaaDoorRaab
import Derived.Test.YtacglafoahmcnaaDoorYa
namespace Go.Proofs.YtacglafoahmcnaaDoor
open Go.RowKit

theorem onlyFn_any (z x : Int) (X : Nat) (W : World) (h : W.cell? ⟨X, 0, none⟩ = some (.int .i64 x)) :
    Calls Tryd.prog 97 #[.int .i64 z, .pointer (some ⟨X, 0, none⟩)] W fun e W' => e = .returned (.int .i64 (bits .and .i64 z x)) ∧ Below W.heap.size W W' := by
  go_enter Tryd.func97, Tryd.ntmps97
  go_wp2
  go_ret
  exact ⟨rfl, Below.refl _ _⟩

set_option maxRecDepth 100000 in
set_option maxHeartbeats 1600000 in
theorem only_any (m x : Int) (a : Option Addr) (c : Nat) (zs : List Int) (w : World) (ha : Ints w w.heap.size a zs) (hx : zs.length ≤ 1048576) :
    Calls Tryd.prog 64 #[.agg #[.int .i64 m, .slice a zs.length c], .int .i64 x] w (RetFam w m (zs.map fun z => bits .and .i64 z x)) := by
  have hmf : ∀ (fn : Fn) (first cap : Array Value) (w : World), (Instr.makeFunc fn first cap).run Tryd.prog w = .ok (.func fn first cap) w := fun _ _ _ _ => rfl
  obtain ⟨W3, hW3, q1, q2, hs3, hb3⟩ : ∃ W3, ((w.alloc (.cells #[.int .i64 m, .slice a zs.length c] 25)).alloc (.cells #[.int .i64 x] 50)).alloc (.cells #[.int .i64 0, .slice none 0 0] 25) = W3 ∧ HasBlk W3 (w.heap.size + 1) #[.int .i64 x] 50 ∧ HasBlk W3 (w.heap.size + 1 + 1) #[.int .i64 0, .slice none 0 0] 25 ∧ W3.heap.size = w.heap.size + 3 ∧ Below w.heap.size w W3 :=
    ⟨_, rfl, alloc3_1 w _ _ _, alloc3_2 w _ _ _, by simp, below3 w _ _ _⟩
  have hc := (blk_cell q1 0).trans (cell1_0 _)
  have HM : Hid (Calls Tryd.prog 96 #[.agg #[.int .i64 m, .slice a zs.length c], .func (.func 97) #[] #[.pointer (some ⟨w.heap.size + 1, 0, none⟩)]] W3 (RetFam W3 m (zs.map fun z => bits .and .i64 z x))) :=
    Lib.hid (mappedW (fun _ => True) m a c zs (w.heap.size + 1) (fun z => bits .and .i64 z x) W3 ((ha.below hb3).mono (by omega)) hx (fun _ _ => trivial)
      (fun p W _ hb => onlyFn_any p.2 x (w.heap.size + 1) W ((hb.cell (p := ⟨w.heap.size + 1, 0, none⟩) (by show w.heap.size + 1 < W3.heap.size; omega)).trans hc)))
  have Q2 := Lib.hid q2
  have HB3 := Lib.hid hb3
  have HSZ := Lib.hid hs3
  obtain ⟨ys, hys⟩ : ∃ ys, ys = zs.map fun z => bits .and .i64 z x := ⟨_, rfl⟩
  have Q0 : Hid (W3.cell? ⟨w.heap.size, 0, none⟩ = some (.int .i64 m) ∧ W3.cell? ⟨w.heap.size, 1, none⟩ = some (.slice a zs.length c)) := Lib.hid ⟨by rw [← hW3]; exact (blk_cell (alloc3_0 w _ _ _) 0).trans (cell2_0 _ _), by rw [← hW3]; exact (blk_cell (alloc3_0 w _ _ _) 1).trans (cell2_1 _ _)⟩
  rw [← hys] at HM ⊢
  clear ha q1 q2 hc hb3 hs3 hys
  go_enter Tryd.func64, Tryd.ntmps64
  obtain ⟨x0, x1⟩ := Q0.out
  go_wp2_with fail
  clear hW3
  refine HM.out.mono ?_
  rintro e w2 ⟨a2, c2, rfl, ho2, hb2⟩
  have b2' : w2.heap[w.heap.size + 1 + 1]? = some (.cells #[.int .i64 0, .slice none 0 0] 25 (0, 0)) := (hb2.block _ (by have := HSZ.out; omega)).trans Q2.out
  have d0 := (blk_cell b2' 0).trans (cell2_0 _ _)
  have d1 := (blk_cell b2' 1).trans (cell2_1 _ _)
  have f0 := blk_frozen b2' 0
  have f1 := blk_frozen b2' 1
  have HO2 := Lib.hid ho2
  have HB2 := Lib.hid (HB3.out.trans (hb2.mono (by have := HSZ.out; omega)))
  clear ho2 hb2 b2'
  go_wp2
  refine bodyPost_ret (v := .agg #[.int .i64 m, .slice a2 ys.length c2]) (by simp [results, Tryd.results64, go_sem, d0, d1]) rfl ?_
  have hz := HSZ.out
  refine ⟨a2, c2, rfl, ?_, ?_⟩
  · exact own_mono (ownsRow_setCell_below (ownsRow_setCell_below HO2.out (a := ⟨w.heap.size + 1 + 1, 0, none⟩) (by show w.heap.size + 1 + 1 < W3.heap.size; omega) _) (a := ⟨w.heap.size + 1 + 1, 1, none⟩) (by show w.heap.size + 1 + 1 < W3.heap.size; omega) _) (by omega)
  · exact (HB2.out.setCell (p := ⟨w.heap.size + 1 + 1, 0, none⟩) (by simp; omega) _).setCell (p := ⟨w.heap.size + 1 + 1, 1, none⟩) (by simp; omega) _

set_option maxRecDepth 100000 in
theorem and_wo_fin : ∀ k : Fin 7, ∀ s : Fin 64, ∀ v : Fin 6, s.val < 2 ^ k.val → bits .and .i64 (s.val : Int) ((woP (2 ^ k.val - 1) v.val : Nat) : Int) = ((woP s.val v.val : Nat) : Int) := by decide +kernel

theorem and_wo {k : Nat} (hk6 : k ≤ 6) {zs : List Int} (hz : Sets k zs) {v : Nat} (hv : v < 6) : (zs.map fun z => bits .and .i64 z ((woP (2 ^ k - 1) v : Nat) : Int)) = zs.map (woZ v) :=
  List.map_congr_left fun z hzm => by
    have h := and_wo_fin ⟨k, by omega⟩ ⟨z.toNat, p64 hk6 (hz z hzm).2⟩ ⟨v, hv⟩ (hz z hzm).2
    simp only [Int.toNat_of_nonneg (hz z hzm).1] at h
    exact h

theorem fullK (k : Nat) (hk1 : 1 ≤ k) (hk6 : k ≤ 6) : fullI (k : Int) = ((2 ^ k - 1 : Nat) : Int) := by
  match k, hk1, hk6 with
  | 1, _, _ => rfl
  | 2, _, _ => rfl
  | 3, _, _ => rfl
  | 4, _, _ => rfl
  | 5, _, _ => rfl
  | 6, _, _ => rfl

set_option maxRecDepth 100000 in
set_option maxHeartbeats 1600000 in
theorem takenOut_any (k : Nat) (hk1 : 1 ≤ k) (hk6 : k ≤ 6) (a : Option Addr) (c : Nat) (zs : List Int) (v : Nat) (hv : v < 6) (w : World) (ha : Ints w w.heap.size a zs) (hx : zs.length ≤ 1048576) (hz : Sets k zs) :
    Calls Tryd.prog 60 #[.agg #[.int .i64 (k : Int), .slice a zs.length c], .int .i64 (v : Int)] w (RetFam w (k : Int) (zs.map (woZ v))) := by
  have HB0 := Lib.hid (below2 w (.cells #[.int .i64 (k : Int), .slice a zs.length c] 25) (.cells #[.int .i64 0, .slice none 0 0] 25))
  have HON : Hid (∀ (b : Option Addr) (d : Nat) (W : World), Ints W W.heap.size b zs → Calls Tryd.prog 64 #[.agg #[.int .i64 (k : Int), .slice b zs.length d], .int .i64 ((woP (2 ^ k - 1) v : Nat) : Int)] W (RetFam W (k : Int) (zs.map (woZ v)))) :=
    Lib.hid fun b d W hi => by rw [← and_wo hk6 hz hv]; exact only_any _ _ b d zs W hi hx
  have HFU : Hid (∀ (b : Option Addr) (n d : Nat) (W : World), Calls Tryd.prog 57 #[.agg #[.int .i64 (k : Int), .slice b n d]] W fun e w' => e = .returned (.int .i64 ((2 ^ k - 1 : Nat) : Int)) ∧ Below W.heap.size W w') :=
    Lib.hid fun b n d W => by rw [← fullK k hk1 hk6]; exact full_b _ b n d W (by omega) (by omega)
  have hF64 : 2 ^ k - 1 < 64 := by have := Nat.pow_le_pow_right (n := 2) (by decide) hk6; omega
  obtain ⟨F, hF⟩ : ∃ F, F = 2 ^ k - 1 := ⟨_, rfl⟩
  obtain ⟨ys, hys⟩ : ∃ ys, ys = zs.map (woZ v) := ⟨_, rfl⟩
  rw [← hF] at HON HFU hF64
  rw [← hys] at HON ⊢
  obtain ⟨W2, hW2, q0, q1, hs2, hb2⟩ : ∃ W2, (w.alloc (.cells #[.int .i64 (k : Int), .slice a zs.length c] 25)).alloc (.cells #[.int .i64 0, .slice none 0 0] 25) = W2 ∧ HasBlk W2 w.heap.size #[.int .i64 (k : Int), .slice a zs.length c] 25 ∧ HasBlk W2 (w.heap.size + 1) #[.int .i64 0, .slice none 0 0] 25 ∧ W2.heap.size = w.heap.size + 2 ∧ Below w.heap.size w W2 :=
    ⟨_, rfl, alloc2_0 w _ _, alloc2_1 w _ _, by simp, below2 w _ _⟩
  have x0 := (blk_cell q0 0).trans (cell2_0 _ _)
  have x1 := (blk_cell q0 1).trans (cell2_1 _ _)
  have HI2 := Lib.hid ((ha.below hb2).mono (show w.heap.size ≤ W2.heap.size by omega))
  have Q1 := Lib.hid q1
  have HB := Lib.hid hb2
  have hH1 : w.heap.size < W2.heap.size := by omega
  have hH2 : w.heap.size + 1 < W2.heap.size := by omega
  clear ha hz hys hF q0 q1 hb2 hs2
  go_enter Tryd.func60, Tryd.ntmps60
  go_wp2_with fail
  clear hW2
  go_region_held3 (fun w' => w'.cell? ⟨w.heap.size, 0, none⟩ = some (.int .i64 (k : Int)) ∧ w'.cell? ⟨w.heap.size, 1, none⟩ = some (.slice a zs.length c))
    (first
      | exact ⟨x0, x1⟩
      | exact ⟨(hb4.cell (p := ⟨w.heap.size, 0, none⟩) hH1).trans x0, (hb4.cell (p := ⟨w.heap.size, 1, none⟩) hH1).trans x1⟩
      | exact ⟨((hb4.trans (hb5.mono hb4.size)).cell (p := ⟨w.heap.size, 0, none⟩) hH1).trans x0, ((hb4.trans (hb5.mono hb4.size)).cell (p := ⟨w.heap.size, 1, none⟩) hH1).trans x1⟩
      | exact two_far (((hb4.trans (hb5.mono hb4.size)).cell (p := ⟨w.heap.size, 0, none⟩) hH1).trans x0) (((hb4.trans (hb5.mono hb4.size)).cell (p := ⟨w.heap.size, 1, none⟩) hH1).trans x1))
    (first
      | (go_at_call 57; refine (HFU.out _ _ _ _).mono ?_; rintro e w4 ⟨rfl, hb4'⟩; have hb4 : Below W2.heap.size W2 w4 := (Below.drew (Below.refl _ _)).trans hb4')
      | (go_at_call 59; refine (without_any F v hF64 hv _).mono ?_; rintro e w' ⟨rfl, rfl⟩)
      | (go_at_call 64; refine (HON.out _ _ _ ((HI2.out.below hb4).mono hb4.size)).mono ?_; rintro e w5 ⟨a5, c5, rfl, ho5, hb5⟩; have e2 := ((hb4.trans (hb5.mono hb4.size)).block _ hH2).trans Q1.out; have d0 := (blk_cell e2 0).trans (cell2_0 _ _); have d1 := (blk_cell e2 1).trans (cell2_1 _ _); have f0 := blk_frozen e2 0; have f1 := blk_frozen e2 1))
  have HO5 := Lib.hid ho5
  have hz4 : W2.heap.size ≤ w4.heap.size := hb4.size
  have HB5 := Lib.hid (HB.out.trans ((hb4.trans (hb5.mono hb4.size)).mono (by omega)))
  rename_i hHeldX
  clear hHeldX hb4 hb5 e2 ho5 hb4'
  go_wp2
  refine bodyPost_ret (v := .agg #[.int .i64 (k : Int), .slice a5 ys.length c5]) (by simp [results, Tryd.results60, go_sem, d0, d1]) rfl ?_
  refine ⟨_, c5, rfl, ?_, ?_⟩
  · have h1 := ownsRow_setCell_below (ownsRow_setCell_below HO5.out (a := ⟨w.heap.size + 1, 0, none⟩) (by show w.heap.size + 1 < w4.heap.size; omega) (.int .i64 (k : Int))) (a := ⟨w.heap.size + 1, 1, none⟩) (by show w.heap.size + 1 < w4.heap.size; omega) (.slice a5 ys.length c5)
    unfold OwnI
    simpa using ownsRow_base h1 (B := w.heap.size) (by omega)
  · simpa using (HB5.out.setCell (p := ⟨w.heap.size + 1, 0, none⟩) (by simp) (.int .i64 (k : Int))).setCell (p := ⟨w.heap.size + 1, 1, none⟩) (by simp) (.slice a5 ys.length c5)

set_option maxRecDepth 100000 in
set_option maxHeartbeats 1600000 in
theorem greatest_any (m : Int) (a : Option Addr) (c : Nat) (zs : List Int) (w : World) (ha : Ints w w.heap.size a zs) (hx : zs.length ≤ 1048576) :
    Calls Tryd.prog 98 #[.agg #[.int .i64 m, .slice a zs.length c]] w (RetFam w m (grZ zs)) := by
  have HB0 := Lib.hid (below2 w (.cells #[.int .i64 m, .slice a zs.length c] 25) (.cells #[.int .i64 0, .slice none 0 0] 25))
  have HA := Lib.hid ((ha.below HB0.out).mono (B' := ((w.alloc (.cells #[.int .i64 m, .slice a zs.length c] 25)).alloc (.cells #[.int .i64 0, .slice none 0 0] 25)).heap.size) (by simp; omega))
  have HG : Hid (∀ W, Ints W W.heap.size a zs → Calls Tryd.prog 128 #[.agg #[.int .i64 m, .slice a zs.length c], .func (.func 129) #[] #[]] W (RetFam W m (grZ zs))) := Lib.hid fun W h => without69 m a c zs W h hx
  clear ha
  go_enter Tryd.func98, Tryd.ntmps98
  go_wp2_with fail
  refine (HG.out _ HA.out).mono ?_
  rintro e w2 ⟨a2, c2, rfl, ho2, hb2⟩
  have b2' : w2.heap[w.heap.size + 1]? = some (.cells #[.int .i64 0, .slice none 0 0] 25 (0, 0)) := (hb2.block _ (by simp)).trans (alloc2_1 w _ _)
  have d0 := (blk_cell b2' 0).trans (cell2_0 _ _)
  have d1 := (blk_cell b2' 1).trans (cell2_1 _ _)
  have f0 := blk_frozen b2' 0
  have f1 := blk_frozen b2' 1
  have HO2 := Lib.hid ho2
  have HB2 := Lib.hid (HB0.out.trans (hb2.mono (by simp; omega)))
  clear ho2 hb2 b2'
  go_wp2
  refine bodyPost_ret (v := .agg #[.int .i64 m, .slice a2 (grZ zs).length c2]) (by simp [results, Tryd.results98, go_sem, d0, d1]) rfl ?_
  refine ⟨a2, c2, rfl, ?_, ?_⟩
  · exact own_mono (ownsRow_setCell_below (ownsRow_setCell_below HO2.out (a := ⟨w.heap.size + 1, 0, none⟩) (by simp) _) (a := ⟨w.heap.size + 1, 1, none⟩) (by simp) _) (by simp; omega)
  · exact (HB2.out.setCell (p := ⟨w.heap.size + 1, 0, none⟩) (by simp) _).setCell (p := ⟨w.heap.size + 1, 1, none⟩) (by simp) _

end Go.Proofs.YtacglafoahmcnaaDoor

/- It is proved what a round of reducing does to a list of sets; conditions: those of each statement. -/
namespace Go.Proofs.YtacglafoahmcnaaDoor
open Go.RowKit

def mbN (zs : List Int) : Nat := (List.range 6).countP fun v => zs.any (Bt v)
theorem mbN_le (zs : List Int) : mbN zs ≤ 6 := by
  have := List.countP_le_length (p := fun v => zs.any (Bt v)) (l := List.range 6)
  simpa [mbN] using this

theorem cnt6 (p q : Nat → Bool) (v : Nat) (hv : v < 6) (hp : p v = true) (hq : q v = false) (h : ∀ u, u < 6 → u ≠ v → q u = p u) : (List.range 6).countP q + 1 = (List.range 6).countP p := by
  have h0 := h 0 (by omega)
  have h1 := h 1 (by omega)
  have h2 := h 2 (by omega)
  have h3 := h 3 (by omega)
  have h4 := h 4 (by omega)
  have h5 := h 5 (by omega)
  rw [show List.range 6 = [0, 1, 2, 3, 4, 5] from rfl]
  simp only [List.countP_cons, List.countP_nil]
  match v, hv with
  | 0, _ => rw [hp, hq, h1 (by omega), h2 (by omega), h3 (by omega), h4 (by omega), h5 (by omega)]; simp
  | 1, _ => rw [hp, hq, h0 (by omega), h2 (by omega), h3 (by omega), h4 (by omega), h5 (by omega)]; simp; omega
  | 2, _ => rw [hp, hq, h0 (by omega), h1 (by omega), h3 (by omega), h4 (by omega), h5 (by omega)]; simp; omega
  | 3, _ => rw [hp, hq, h0 (by omega), h1 (by omega), h2 (by omega), h4 (by omega), h5 (by omega)]; simp; omega
  | 4, _ => rw [hp, hq, h0 (by omega), h1 (by omega), h2 (by omega), h3 (by omega), h5 (by omega)]; simp; omega
  | 5, _ => rw [hp, hq, h0 (by omega), h1 (by omega), h2 (by omega), h3 (by omega), h4 (by omega)]; simp; omega

theorem mb_ext {zs ys : List Int} (h : ∀ v, v < 6 → zs.any (Bt v) = ys.any (Bt v)) : mbN zs = mbN ys := by
  unfold mbN
  exact List.countP_congr fun v hv => by rw [h v (List.mem_range.1 hv)]

theorem mb_gr {m : Nat} (hm : m ≤ 6) {zs : List Int} (hS : Sets m zs) : mbN (grZ zs) = mbN zs := mb_ext fun v _ => by
  rw [Bool.eq_iff_iff, List.any_eq_true, List.any_eq_true]
  constructor
  · rintro ⟨x, hx, h⟩
    exact ⟨x, gr_sub hx, h⟩
  · rintro ⟨x, hx, h⟩
    obtain ⟨o, ho, hs⟩ := gr_above hm hS _ x rfl hx
    exact ⟨o, ho, subZ_bit hs h⟩

theorem mb_cut {m v : Nat} (hm : m ≤ 6) (hv : v < 6) {zs : List Int} (hS : Sets m zs) (h : zs.any (Bt v) = true) : mbN (zs.map (woZ v)) + 1 = mbN zs := by
  have hl : ∀ z ∈ zs, z.toNat < 64 := fun z hz => p64 hm (hS z hz).2
  unfold mbN
  refine cnt6 _ _ v hv h ?_ fun u hu hne => ?_
  · rw [List.any_eq_false]
    intro y hy hb
    obtain ⟨x, hx, rfl⟩ := List.mem_map.1 hy
    rw [woZ_bit (hl x hx) hv hv] at hb
    simp at hb
  · show (zs.map (woZ v)).any (Bt u) = zs.any (Bt u)
    rw [List.any_map, Bool.eq_iff_iff, List.any_eq_true, List.any_eq_true]
    constructor
    · rintro ⟨x, hx, hb⟩
      rw [Function.comp_apply, woZ_bit (hl x hx) hu hv, Bool.and_eq_true] at hb
      exact ⟨x, hx, hb.1⟩
    · rintro ⟨x, hx, hb⟩
      refine ⟨x, hx, ?_⟩
      rw [Function.comp_apply, woZ_bit (hl x hx) hu hv, hb, decide_eq_true hne]; rfl

theorem idx_one {p : Int → Bool} : ∀ {l : List Int}, l.countP p = 1 → ∀ {i j : Nat} {x y : Int}, l[i]? = some x → l[j]? = some y → p x = true → p y = true → i = j
  | [], h, _, _, _, _, _, _, _, _ => by simp at h
  | a :: l, h, 0, 0, _, _, _, _, _, _ => rfl
  | a :: l, h, 0, j + 1, x, y, hx, hy, px, py => by
      simp only [List.getElem?_cons_zero, Option.some.injEq] at hx
      simp only [List.getElem?_cons_succ] at hy
      subst hx
      rw [List.countP_cons, if_pos px] at h
      have := List.countP_eq_zero.1 (by omega : l.countP p = 0) y (List.mem_of_getElem? hy)
      exact (this py).elim
  | a :: l, h, i + 1, 0, x, y, hx, hy, px, py => by
      simp only [List.getElem?_cons_zero, Option.some.injEq] at hy
      simp only [List.getElem?_cons_succ] at hx
      subst hy
      rw [List.countP_cons, if_pos py] at h
      have := List.countP_eq_zero.1 (by omega : l.countP p = 0) x (List.mem_of_getElem? hx)
      exact (this px).elim
  | a :: l, h, i + 1, j + 1, x, y, hx, hy, px, py => by
      simp only [List.getElem?_cons_succ] at hx hy
      rw [List.countP_cons] at h
      have h1 : 1 ≤ l.countP p := List.countP_pos_iff.2 ⟨x, List.mem_of_getElem? hx, px⟩
      by_cases e : p a = true
      · rw [if_pos e] at h; omega
      · rw [if_neg e] at h
        have := idx_one h hx hy px py
        omega

theorem set_map {l : List Int} {p : Int → Bool} {f : Int → Int} (hc : l.countP p = 1) {i : Nat} {x : Int} (hx : l[i]? = some x) (px : p x = true) (hf : ∀ z ∈ l, p z = false → f z = z) : l.set i (f x) = l.map f := by
  refine List.ext_getElem? fun j => ?_
  rw [List.getElem?_set, List.getElem?_map]
  have hi : i < l.length := (List.getElem?_eq_some_iff.1 hx).1
  by_cases e : i = j
  · subst e
    rw [if_pos rfl, if_pos hi, hx]; rfl
  · rw [if_neg e]
    cases hy : l[j]? with
    | none => rfl
    | some y =>
      show some y = some (f y)
      cases hp : p y
      · rw [hf y (List.mem_of_getElem? hy) hp]
      · exact (e (idx_one hc hx hy px hp)).elim

theorem erase_mem {l : List Int} {i : Nat} {z : Int} : z ∈ l.eraseIdx i ↔ ∃ j, j ≠ i ∧ l[j]? = some z := by
  rw [List.mem_eraseIdx_iff_getElem?]

theorem erase_sets {m i : Nat} {l : List Int} (hS : Sets m l) : Sets m (l.eraseIdx i) := fun z h => by
  obtain ⟨j, _, hj⟩ := erase_mem.1 h
  exact hS z (List.mem_of_getElem? hj)

theorem gr_erase {m : Nat} (hm : m ≤ 6) {l : List Int} (hS : Sets m l) {i k : Nat} {x y : Int} (hne : i ≠ k) (hx : l[i]? = some x) (hy : l[k]? = some y) (hs : subZ x y) : grZ (l.eraseIdx i) = grZ l := by
  have hxm := List.mem_of_getElem? hx
  have hym := List.mem_of_getElem? hy
  have he : ∀ z ∈ l, z ∈ l.eraseIdx i ∨ z = x := fun z hz => by
    obtain ⟨j, hj⟩ := List.mem_iff_getElem?.1 hz
    by_cases e : j = i
    · subst e; rw [hx] at hj; exact .inr (Option.some.inj hj).symm
    · exact .inl (erase_mem.2 ⟨j, e, hj⟩)
  have hye : y ∈ l.eraseIdx i := erase_mem.2 ⟨k, fun e => hne e.symm, hy⟩
  have hin : ∀ z ∈ l.eraseIdx i, z ∈ l := fun z h => by
    obtain ⟨j, _, hj⟩ := erase_mem.1 h
    exact List.mem_of_getElem? hj
  refine gr_ext hm (erase_sets hS) hS fun z => ?_
  constructor
  · rintro ⟨h1, h2⟩
    refine ⟨hin z h1, fun o ho hso => ?_⟩
    rcases he o ho with h | rfl
    · exact h2 o h hso
    · have e := h2 y hye (subZ_trans hso hs)
      subst e
      exact subZ_anti (hS _ hxm).1 (hS _ hym).1 hs hso
  · rintro ⟨h1, h2⟩
    refine ⟨?_, fun o ho => h2 o (hin o ho)⟩
    rcases he z h1 with h | rfl
    · exact h
    · rw [← h2 y hym hs]; exact hye

theorem mb_erase {m : Nat} (hm : m ≤ 6) {l : List Int} (hS : Sets m l) {i k : Nat} {x y : Int} (hne : i ≠ k) (hx : l[i]? = some x) (hy : l[k]? = some y) (hs : subZ x y) : mbN (l.eraseIdx i) = mbN l := by
  rw [← mb_gr hm (erase_sets hS), gr_erase hm hS hne hx hy hs, mb_gr hm hS]

/-- What the model's reducing keeps: its list and its steps. -/
def RedS (m : Nat) (zs out : List Int) (st : Nat) : Prop := Sets m out ∧ Red m (grZ zs) (grZ out) ∧ st + mbN out + out.length = mbN zs + zs.length

theorem bt_lt {m v : Nat} {z : Int} (h : z.toNat < 2 ^ m) (hb : Bt v z = true) : v < m := by
  by_cases e : v < m
  · exact e
  · unfold Bt at hb
    rw [Nat.testBit_lt_two_pow (Nat.lt_of_lt_of_le h (Nat.pow_le_pow_right (by decide) (by omega)))] at hb
    cases hb

theorem d1_gr {m v : Nat} (hm : m ≤ 6) {l : List Int} (hS : Sets m l) (hc : l.countP (Bt v) = 1) {i : Nat} {x : Int} (hx : l[i]? = some x) (hb : Bt v x = true) : D1 v (grZ l) := by
  have one : ∀ y ∈ l, Bt v y = true → y = x := fun y hy h => by
    obtain ⟨j, hj⟩ := List.mem_iff_getElem?.1 hy
    have := idx_one hc hx hj hb h
    subst this
    rw [hx] at hj
    exact (Option.some.inj hj).symm
  exact ⟨x, (gr_mem hm hS x).2 ⟨List.mem_of_getElem? hx, fun o ho hs => one o ho (subZ_bit hs hb)⟩, hb, fun y hy h => one y (gr_sub hy) h⟩

theorem RedS.cut {m : Nat} (hm : m ≤ 6) {zs out : List Int} {st : Nat} (h : RedS m zs out st) {v : Nat} (hv : v < 6) (hc : out.countP (Bt v) = 1) {i : Nat} {x : Int} (hx : out[i]? = some x) (hb : Bt v x = true) :
    RedS m zs (out.set i (woZ v x)) (st + 1) := by
  obtain ⟨hS, hr, he⟩ := h
  have hl : ∀ z ∈ out, z.toNat < 64 := fun z hz => p64 hm (hS z hz).2
  have hxm := List.mem_of_getElem? hx
  rw [set_map (f := woZ v) hc hx hb (fun z hz hp => woZ_same (hS z hz).1 (hl z hz) hv hp)]
  refine ⟨woZ_sets hS, hr.trans ?_, ?_⟩
  · have h2 : stepZ v (grZ out) = grZ (out.map (woZ v)) := gr_map hm hS (woZ v) (woZ_sets hS) fun x _ y _ h => woZ_mono v h
    rw [← h2]
    exact .one (bt_lt (hS x hxm).2 hb) (d1_gr hm hS hc hx hb)
  · have := mb_cut hm hv hS (List.any_eq_true.2 ⟨x, hxm, hb⟩)
    rw [List.length_map]
    omega

theorem RedS.drop {m : Nat} (hm : m ≤ 6) {zs out : List Int} {st : Nat} (h : RedS m zs out st) {i k : Nat} {x y : Int} (hne : i ≠ k) (hx : out[i]? = some x) (hy : out[k]? = some y) (hs : subZ x y) :
    RedS m zs (out.eraseIdx i) (st + 1) := by
  obtain ⟨hS, hr, he⟩ := h
  have hi : i < out.length := (List.getElem?_eq_some_iff.1 hx).1
  refine ⟨erase_sets hS, ?_, ?_⟩
  · rw [gr_erase hm hS hne hx hy hs]; exact hr
  · rw [mb_erase hm hS hne hx hy hs, List.length_eraseIdx, if_pos hi]
    omega

theorem RedS.start {m : Nat} {zs : List Int} (hS : Sets m zs) : RedS m zs zs 0 := ⟨hS, .refl _, by omega⟩
/-- No set is a part of one at another place. -/
def Apart (l : List Int) (n : Nat) : Prop := ∀ i, i < n → ∀ k x y, i ≠ k → l[i]? = some x → l[k]? = some y → subZ x y → x = y ∧ i ≤ k

theorem Apart.ne {l : List Int} (h : Apart l l.length) {i k : Nat} {x y : Int} (hne : i ≠ k) (hx : l[i]? = some x) (hy : l[k]? = some y) : ¬ subZ x y := fun hs => by
  have hi : i < l.length := (List.getElem?_eq_some_iff.1 hx).1
  have hk : k < l.length := (List.getElem?_eq_some_iff.1 hy).1
  obtain ⟨e, h1⟩ := h i hi k x y hne hx hy hs
  subst e
  have := (h k hk i x x (fun e => hne e.symm) hy hx hs).2
  omega

theorem apart_gr {m : Nat} (hm : m ≤ 6) {l : List Int} (hS : Sets m l) (h : Apart l l.length) : (∀ z, z ∈ grZ l ↔ z ∈ l) ∧ l.Nodup ∧ simpZ l = grZ l := by
  have h1 : ∀ z, z ∈ grZ l ↔ z ∈ l := fun z => by
    rw [gr_mem hm hS]
    refine ⟨fun h => h.1, fun hz => ⟨hz, fun o ho hs => ?_⟩⟩
    obtain ⟨i, hi⟩ := List.mem_iff_getElem?.1 hz
    obtain ⟨k, hk⟩ := List.mem_iff_getElem?.1 ho
    by_cases e : i = k
    · subst e; rw [hi] at hk; exact (Option.some.inj hk).symm
    · exact (h.ne e hi hk hs).elim
  refine ⟨h1, ?_, ?_⟩
  · unfold List.Nodup
    rw [List.pairwise_iff_getElem]
    intro i j hi hj hij e
    exact h.ne (x := l[i]) (y := l[j]) (by omega) (List.getElem?_eq_getElem hi) (List.getElem?_eq_getElem hj) (by rw [e]; exact subZ_refl _)
  · exact asc_ext _ _ (simpZ_asc l) (unbeaten_asc _ _) fun z => by rw [simpZ_mem]; exact (h1 z).symm

theorem d1_cnt {v : Nat} {l G : List Int} (hn : l.Nodup) (h : ∀ z, z ∈ G ↔ z ∈ l) : D1 v G ↔ l.countP (Bt v) = 1 := by
  constructor
  · rintro ⟨x, hx, hb, hq⟩
    have e : l.countP (Bt v) = l.countP (fun z => decide (z = x)) := List.countP_congr fun z hz => by
      rw [decide_eq_true_eq]
      exact ⟨fun hz' => hq z ((h z).2 hz) hz', fun e => e ▸ hb⟩
    rw [e]
    have h2 : l.countP (fun z => decide (z = x)) = l.count x := by
      rw [List.count]
      exact List.countP_congr fun z _ => by rw [decide_eq_true_eq, beq_iff_eq]
    rw [h2, List.Nodup.count hn, if_pos ((h x).1 hx)]
  · intro hc
    obtain ⟨x, hx, hb⟩ := List.countP_pos_iff.1 (by omega : 0 < l.countP (Bt v))
    obtain ⟨i, hi⟩ := List.mem_iff_getElem?.1 hx
    refine ⟨x, (h x).2 hx, hb, fun y hy hyb => ?_⟩
    obtain ⟨j, hj⟩ := List.mem_iff_getElem?.1 ((h y).1 hy)
    have := idx_one hc hi hj hb hyb
    subst this
    rw [hi] at hj
    exact (Option.some.inj hj).symm

theorem gr_nodup (zs : List Int) : (grZ zs).Nodup := (unbeaten_asc geG zs).imp (fun h => by omega)
/-- What is left, told by reducing the first such member again and again. -/
def redF : Nat → Nat → List Int → List Int
  | 0, _, G => G
  | f + 1, m, G => match (List.range m).find? fun v => decide (G.countP (Bt v) = 1) with
    | none => G
    | some v => redF f m (stepZ v G)

def redZ (m : Nat) (zs : List Int) : List Int := redF 7 m (grZ zs)
theorem redF_is {m : Nat} (hm : m ≤ 6) : ∀ (f : Nat) (G : List Int), G.Nodup → Sets m G → mbN G < f → Red m G (redF f m G) ∧ Done m (redF f m G) := by
  intro f
  induction f with
  | zero => intro G _ _ h; omega
  | succ f ih =>
    intro G hn hS hlt
    rw [redF]
    cases hf : (List.range m).find? fun v => decide (G.countP (Bt v) = 1) with
    | none =>
      refine ⟨.refl _, fun v hv hd => ?_⟩
      rw [List.find?_eq_none] at hf
      exact hf v (List.mem_range.2 hv) (by rw [decide_eq_true_eq]; exact (d1_cnt hn (fun _ => Iff.rfl)).1 hd)
    | some v =>
      have hc := List.find?_some hf
      have hv := List.mem_range.1 (List.mem_of_find?_eq_some hf)
      rw [decide_eq_true_eq] at hc
      have hd : D1 v G := (d1_cnt hn (fun _ => Iff.rfl)).2 hc
      have hlt2 : mbN (stepZ v G) < f := by
        obtain ⟨x, hx, hb, _⟩ := hd
        have := mb_cut hm (by omega : v < 6) hS (List.any_eq_true.2 ⟨x, hx, hb⟩)
        unfold stepZ
        rw [mb_gr hm (woZ_sets hS)]
        omega
      obtain ⟨h1, h2⟩ := ih (stepZ v G) (gr_nodup _) (stepZ_sets hS) hlt2
      exact ⟨.head v hv hd h1, h2⟩

theorem redZ_is {m : Nat} (hm : m ≤ 6) {zs N : List Int} (hS : Sets m zs) (h : Red m (grZ zs) N) (hd : Done m N) : N = redZ m zs := by
  obtain ⟨h1, h2⟩ := redF_is hm 7 (grZ zs) (gr_nodup _) (gr_sets hS) (by have := mbN_le (grZ zs); omega)
  exact h.unique hm hd h1 h2 (gr_sets hS)

/-- The model is through: nothing changed in a round. -/
theorem RedS.done {m : Nat} (hm : m ≤ 6) {zs out : List Int} {st : Nat} (h : RedS m zs out st) (hz : Sets m zs) (ha : Apart out out.length) (hc : ∀ v, v < 6 → out.countP (Bt v) ≠ 1) :
    simpZ out = redZ m zs ∧ out.length = (redZ m zs).length ∧ (∀ z, z ∈ out ↔ z ∈ redZ m zs) ∧ st + mbN (redZ m zs) + (redZ m zs).length = mbN zs + zs.length := by
  obtain ⟨hS, hr, he⟩ := h
  obtain ⟨h1, h2, h3⟩ := apart_gr hm hS ha
  have hd : Done m (grZ out) := fun v hv h => hc v (by omega) ((d1_cnt h2 h1).1 h)
  have e := redZ_is hm hz hr hd
  have hl : out.length = (grZ out).length := by
    have hp : out.Perm (grZ out) := (List.perm_ext_iff_of_nodup h2 (gr_nodup _)).2 fun z => (h1 z).symm
    exact hp.length_eq
  rw [← e]
  refine ⟨h3, hl, fun z => (h1 z).symm, ?_⟩
  rw [mb_gr hm hS, ← hl]
  exact he

end Go.Proofs.YtacglafoahmcnaaDoor
