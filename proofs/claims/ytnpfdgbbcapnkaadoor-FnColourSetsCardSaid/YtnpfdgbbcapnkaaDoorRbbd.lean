/- It is proved what the FamilySizes of the program returns; conditions: those of each statement. -/
import Derived.Test.YtnpfdgbbcapnkaaDoorRows
import Derived.WalkKit
import Derived.WalkSpells
import Derived.ProofKit
import Derived.OpenShut
import Derived.ShutString
import Derived.ChangeOld
import Derived.Below
import Derived.Deep.RegionHeld3
import Derived.Deep.QuietTactic
import Derived.BigQuiet
import Derived.Lib.Hide
import Derived.Lib.SmallJoins
import Derived.Outline
import Derived.Laws.MakeOwn
import Derived.Laws.OwnMore
import Derived.IntWalk
import Derived.RangeFuncNested
import Derived.RangeFuncBound
import Derived.RangeFuncCalls
import Derived.RangeFuncLeaves
import Derived.RangeFuncBox
import Derived.Shelf.Abstract
import Derived.Shelf.RegionOpen
import Derived.OwnWalkIn
import Derived.TacticsInMore
import Derived.LoopNIn
import Derived.LoopIn
import Derived.Maps.AppendAt
import Derived.Deep.AppendLies
import Derived.OwnWalk
import Derived.Test.YtnpfdgbbcapnkaaDoorRbaa
import Derived.Test.YtnpfdgbbcapnkaaDoorRbab
import Derived.Test.YtnpfdgbbcapnkaaDoorRbap
import Derived.Test.YtnpfdgbbcapnkaaDoorRbbc
import Derived.Test.YtnpfdgbbcapnkaaDoorRbag
import Derived.RowKit
import Derived.Laws.CopyRow
import Derived.Lib.SlBuf
import Derived.RangeFuncWrites
import Derived.StillTailTactics
import Derived.Maps.OwnIn
import Derived.Maps.Ext
import Derived.DeepKeys4
import Derived.MapKept
import Derived.Sort.MapsRangeIn
import Derived.Deep.RegionLaw
import Derived.Deep.RegionWith
import Derived.Lib.AppendZeros
import Derived.Lib.SlicesCompact
import Derived.Lib.OwnBridge
import Derived.OrdersIn
import Derived.TacticsIn
import Derived.Shelf.Sort.Plain
import Derived.Shelf.Slices.In.SortNone
import Derived.Shelf.Slices.CompactI
import Derived.Ground.Names2Prog
import Derived.Lib.SliceRun
import Derived.StillTail
import Derived.StillTactics
import Derived.Shelf.Spec.TrailingZeros
import Derived.Deep.LoopGhost
import Derived.Test.YtnpfdgbbcapnkaaDoorRbai
import Derived.Test.YtnpfdgbbcapnkaaDoorRbaj
import Derived.Test.YtnpfdgbbcapnkaaDoorRbaq
import Derived.Test.YtnpfdgbbcapnkaaDoorRbba
import Derived.Test.YtnpfdgbbcapnkaaDoorRbbb
import Derived.Test.YtnpfdgbbcapnkaaDoorRbaf
import Derived.Test.YtnpfdgbbcapnkaaDoorRbah
import Derived.Test.YtnpfdgbbcapnkaaDoorRbas
import Derived.Lib.LaidTab
import Derived.LaidMore
import Derived.Stop.Joined
namespace Go.Proofs.YtnpfdgbbcapnkaaDoor
open Go.RowKit Go.Shelf

attribute [local go_sem] Oper.semAt_some

theorem sizes_end {w W w2 : World} {f : Int → Int} {n M G B b0 t0 : Nat} {c0 : Array Value} {pre : List (Nat × Int)} {x : Nat × Int} (hWs : w.heap.size ≤ W.heap.size) (hGM : G < M) (hG : w.heap.size ≤ G) (hlt : pre.length < n)
    (hb2 : Below W.drew.heap.size W.drew w2) (hv : Boxed W M 23 (.slice (some ⟨G, 0, none⟩) pre.length n))
    (hrow : W.ownsRow w.heap.size 3 1 (.slice (some ⟨G, 0, none⟩) pre.length n) pre.length ((pre.map fun p => f p.2).map (Value.int .i64))) (hB : Below w.heap.size w W)
    (q0 : HasBlk W b0 c0 t0) (h0 : b0 < G) :
    KeepsFrom B W (((w2.setCell ⟨G, pre.length, none⟩ (.int .i64 (f x.2))).setCell ⟨M, 0, none⟩ (.slice (some ⟨G, 0, none⟩) (pre.length + 1) n)).alloc (.cells #[.int .i64 (f x.2)] 3)) ∧
    Below w.heap.size W (((w2.setCell ⟨G, pre.length, none⟩ (.int .i64 (f x.2))).setCell ⟨M, 0, none⟩ (.slice (some ⟨G, 0, none⟩) (pre.length + 1) n)).alloc (.cells #[.int .i64 (f x.2)] 3)) ∧
    ((∃ v, Boxed (((w2.setCell ⟨G, pre.length, none⟩ (.int .i64 (f x.2))).setCell ⟨M, 0, none⟩ (.slice (some ⟨G, 0, none⟩) (pre.length + 1) n)).alloc (.cells #[.int .i64 (f x.2)] 3)) M 23 v ∧
      (((w2.setCell ⟨G, pre.length, none⟩ (.int .i64 (f x.2))).setCell ⟨M, 0, none⟩ (.slice (some ⟨G, 0, none⟩) (pre.length + 1) n)).alloc (.cells #[.int .i64 (f x.2)] 3)).ownsRow w.heap.size 3 1 v (pre ++ [x]).length (((pre ++ [x]).map fun p => f p.2).map (Value.int .i64)) ∧
      v = .slice (some ⟨G, 0, none⟩) (pre ++ [x]).length n) ∧
      HasBlk (((w2.setCell ⟨G, pre.length, none⟩ (.int .i64 (f x.2))).setCell ⟨M, 0, none⟩ (.slice (some ⟨G, 0, none⟩) (pre.length + 1) n)).alloc (.cells #[.int .i64 (f x.2)] 3)) b0 c0 t0) ∧
    Below w.heap.size w (((w2.setCell ⟨G, pre.length, none⟩ (.int .i64 (f x.2))).setCell ⟨M, 0, none⟩ (.slice (some ⟨G, 0, none⟩) (pre.length + 1) n)).alloc (.cells #[.int .i64 (f x.2)] 3)) := by
  obtain ⟨k1, k2, ⟨k3, k4, _⟩, k5⟩ := mapped_end (B := B) (x := x) (f := f) hWs hGM hG hlt hb2 hv hrow hB q0 h0 q0 h0 q0 h0
  exact ⟨k1, k2, ⟨k3, k4⟩, k5⟩

theorem made1_0 {w w1 : World} (hg : w.grownBy w1 none) {b : Nat} {o : Obj} (h : w.heap[b]? = some o) : w1.heap[b]? = some o := (hg.block b (lt_of_some h) (by simp)).trans h
set_option maxRecDepth 100000 in
set_option maxHeartbeats 1600000 in
theorem implSizes_no (m : Int) (a : Option Addr) (c : Nat) (zs : List Int) (w : World) (ha : Ints w w.heap.size a zs) (hx : zs.length ≤ 1048576) (hf : famIn m zs = false) :
    Calls Tryd.prog 26 #[.agg #[.int .i64 m, .slice a zs.length c]] w (RetSB w [] false) := by
  have HB0 := Lib.hid (below1 w (.cells #[.int .i64 m, .slice a zs.length c] 25))
  have HA := Lib.hid (ha.below HB0.out)
  have HF := Lib.hid hf
  clear hf ha
  go_enter Tryd.func26, Tryd.ntmps26
  go_wp2_with fail
  refine (implFamilyIn_any _ _ _ zs _ (HA.out.mono (by simp)) hx).mono ?_
  rintro e w1 ⟨rfl, hb⟩
  rw [HF.out]
  have HB := Lib.hid (HB0.out.trans (hb.mono (by simp)))
  clear hb
  go_wp2
  go_ret2
  exact ⟨_, _, rfl, own_nil _ _, HB.out⟩

set_option maxRecDepth 100000 in
set_option maxHeartbeats 4000000 in
theorem implSizes_yes (m : Int) (a : Option Addr) (c : Nat) (zs : List Int) (w : World) (ha : Ints w w.heap.size a zs) (hx : zs.length ≤ 1048576) (hf : famIn m zs = true) :
    Calls Tryd.prog 26 #[.agg #[.int .i64 m, .slice a zs.length c]] w (RetSB w (zs.map pop) true) := by
  obtain ⟨i0, hi0, hz0, hz1, hz2⟩ := info_parts Tryd.info3
  obtain ⟨g, hgK, hgP⟩ := size_fn
  have hmapg : zs.map g = zs.map pop := by
    obtain ⟨hm1, hm6, -, hz⟩ := famIn_out hf
    have hfu := fullI_63 hm1 hm6
    exact List.map_congr_left fun z hzm => hgP z (hz z hzm).1 (by have := (hz z hzm).2; omega)
  have HMAP := Lib.hid hmapg
  have HB0 := Lib.hid (below1 w (.cells #[.int .i64 m, .slice a zs.length c] 25))
  have HA := Lib.hid (ha.below HB0.out)
  have HIN := Lib.hid ha
  have HF := Lib.hid hf
  have HK := Lib.hid hgK
  clear hf ha hgK hgP hmapg
  refine (callsIn_wide (n := 6)).1 ?_
  refine callsIn_of_wp_marks Tryd.func26 rfl trivial ?_ rfl
  simp only [Tryd.ntmps26, List.size_toArray, List.length_cons, List.length_nil, Nat.reduceAdd, Nat.reduceSub, Array.replicate_succ, Array.replicate_zero, List.push_toArray, List.append_toArray, List.nil_append, List.cons_append]
  gi_wp2_with fail
  refine ⟨trivial, (callsIn_wide.2 (implFamilyIn_any _ _ _ zs _ (HA.out.mono (by simp)) hx)).mono ?_⟩
  rintro e w0 ⟨rfl, hb⟩
  rw [HF.out]
  have p0 : w0.heap[w.heap.size]? = some (.cells #[.int .i64 m, .slice a zs.length c] 25 (0, 0)) := (hb.block _ (by simp)).trans (alloc_new w _)
  have x1 := blk_cell p0 1
  simp only [cell2_1] at x1
  have hs0 : w.heap.size + 1 ≤ w0.heap.size := by have := hb.size; simpa using this
  have HB1 := Lib.hid (HB0.out.trans (hb.mono (by simp)))
  have HA1 := Lib.hid (HA.out.below (hb.mono (by simp)))
  have P0 := Lib.hid p0
  clear hb p0
  gi_wp2_with (gi_at_make; refine mark_make ?_)
  refine unmark_make ?_
  refine wpListIn_make_own _ rfl _ _ 23 rfl w0.heap.size 3 i0 (.int .i64 0) 1 Tryd.underlying23 hi0 hz0 hz1 .i64 .i64 _ zs.length rfl rfl rfl (by rw [hz2]; omega) (by simp only [maxLen]; omega) (Nat.le_refl _) ?_
  intro w1 hown hg
  have q0 := made1_0 hg P0.out
  have y0 := blk_cell (w := w1.alloc (.cells #[.slice (some ⟨w0.heap.size, 0, none⟩) 0 zs.length] 23)) ((alloc_old _ _ _ (lt_of_some q0)).trans q0) 0
  have y1 := blk_cell (w := w1.alloc (.cells #[.slice (some ⟨w0.heap.size, 0, none⟩) 0 zs.length] 23)) ((alloc_old _ _ _ (lt_of_some q0)).trans q0) 1
  have hGl : w0.heap.size < w1.heap.size := (World.ownsRow.lt hown _ rfl).2
  have HQ0 := Lib.hid q0
  have HO := Lib.hid hown
  have HG := Lib.hid (HB1.out.trans (((Below.refl w0.heap.size w0).grown hg (Nat.le_refl _) (by simp)).mono (by omega)))
  clear q0 hown hg x1
  simp only [cell2_0, cell2_1] at y0 y1
  gi_wp2_with (refine ⟨trivial, ?_⟩; gi_at_call 66; refine (callsIn_wide.2 (clubs_any _ _ _ _ _)).mono ?_; rintro e w' ⟨rfl, rfl⟩)
  have hle : w.heap.size ≤ w1.heap.size := by omega
  have h16 : 1 ≤ 6 := by omega
  have hmx : Tryd.prog.follows .mixedOrders = true := by kernel_rfl
  have bA := Boxed.new w1 23 (.slice (some ⟨w0.heap.size, 0, none⟩) 0 zs.length)
  have HBB : Hid (Below w.heap.size w ((w1.alloc (.cells #[.slice (some ⟨w0.heap.size, 0, none⟩) 0 zs.length] 23)).alloc (.cells #[.int .i64 m, .slice a zs.length c] 25))) := Lib.hid (HG.out.trans ((below2 w1 _ _).mono (by omega)))
  have hst := clubs_stops (6 - 1) (by omega) (w1.heap.size + 1) w.heap.size a c zs hx ((w1.alloc (.cells #[.slice (some ⟨w0.heap.size, 0, none⟩) 0 zs.length] 23)).alloc (.cells #[.int .i64 m, .slice a zs.length c] 25)) (by simp) (by simp; omega)
    (by have := blk_cell (alloc_new (w1.alloc (.cells #[.slice (some ⟨w0.heap.size, 0, none⟩) 0 zs.length] 23)) (.cells #[.int .i64 m, .slice a zs.length c] 25)) 1; simp) (HIN.out.below HBB.out)
  refine wpIn_rangeFunc_ownG rfl h16 (gf := 105) (lb := #[.pointer (some ⟨w1.heap.size + 1, 0, none⟩)]) rfl trivial (enters_of Tryd.func105 (by kernel_rfl) rfl)
    hst belowK_t (belowK_b (by simp; omega)) (Below.refl _ _) (fun _ => rfl)
    (fun pre W => ((∃ v, Boxed W w1.heap.size 23 v ∧ W.ownsRow w.heap.size 3 1 v pre.length ((pre.map fun p => g p.2).map (Value.int .i64)) ∧ v = .slice (some ⟨w0.heap.size, 0, none⟩) pre.length zs.length) ∧ HasBlk W w.heap.size #[.int .i64 m, .slice a zs.length c] 25) ∧ Below w.heap.size w W)
    (fun _ _ _ => False)
    (OwnFrom.and (OwnFrom.and (Own.from (holdsRow_own w.heap.size w1.heap.size 23 3 1 (fun (pre : List (Nat × Int)) => pre.length) (fun (pre : List (Nat × Int)) => (pre.map fun p => g p.2).map (Value.int .i64)) (fun (pre : List (Nat × Int)) v => v = .slice (some ⟨w0.heap.size, 0, none⟩) pre.length zs.length)) _) (Own.from (hasBlk_own _ _ _) _)) (ownFrom_below (Nat.le_refl _) (by simp; omega)))
    (fun _ _ _ _ _ hs _ _ => hs)
    ⟨⟨⟨_, bA.alloc _, by have := ownsRow_base HO.out (B := w.heap.size) (by omega); simpa using (this.alloc _).alloc _, rfl⟩, (HasBlk.alloc HQ0.out _).alloc _⟩, HBB.out⟩
    (fun x => { tmps := #[.agg #[.int .i64 m, .slice a zs.length c], .pointer (some ⟨w.heap.size, 0, none⟩), .slice none 0 0, .bool false, .pointer (some ⟨w1.heap.size, 0, none⟩), undef, .int .i64 x.2, .agg #[.int .i64 m, .slice a zs.length c], .bool true, .bool false, .pointer (some ⟨w.heap.size, 1, none⟩), .slice a zs.length c, .int .i64 zs.length, .slice (some ⟨w0.heap.size, 0, none⟩) 0 zs.length, .agg #[.int .i64 m, .slice a zs.length c], .func (.func 105) #[] #[.pointer (some ⟨w1.heap.size + 1, 0, none⟩)], .int .i64 (x.1 : Int), .int .i64 x.2, undef, undef, undef, undef, undef, undef], defers := [] }) ?assign ?body ?done ?stop
  case assign =>
    intro l x W K hK
    gi_wp2
    exact hK
  case body =>
    rintro l pre x W ⟨⟨⟨v, hv, hrow, rfl⟩, q0⟩, hB⟩ hlt
    have hc := hv.cell
    have HV := Lib.hid hv
    have HR := Lib.hid hrow
    have hWs : w.heap.size ≤ W.heap.size := hB.size
    have HB := Lib.hid hB
    have HQ0' := Lib.hid q0
    clear hv hrow hB q0
    have hGlt : w0.heap.size < w1.heap.size := hGl
    have hMB : w1.heap.size < W.drew.heap.size := HV.out.lt
    gi_wp2
    gi_region_with_o (refine ⟨trivial, ?_⟩; gi_at_call 67; refine (CallsIn.inRound l (callsIn_wide.2 (HK.out _ _))).mono ?_; rintro e w2 ⟨rfl, hb2⟩; obtain ⟨u, hcu, hfu⟩ := spare_cell (own_after HR.out hb2) pre.length hlt; have hlt2 := lt_of_cell hcu; have hcu' := (World.cell?_alloc_lt w2 (.cells #[.int .i64 (g x.2)] 3) _ hlt2).trans hcu; have hc2 := (hb2.cell (p := ⟨w1.heap.size, 0, none⟩) hMB).trans hc; have hf2 := (hb2.frozen (p := ⟨w1.heap.size, 0, none⟩) hMB).trans HV.out.frozen; have hMB2 := lt_of_cell hc2; have hc3 := after_spare (y := .int .i64 (g x.2)) (k := pre.length) (o := .cells #[.int .i64 (g x.2)] 3) hGlt hMB2 hc2; have hf3 := after_spare_f (y := .int .i64 (g x.2)) (k := pre.length) (o := .cells #[.int .i64 (g x.2)] 3) hGlt hMB2 hf2)
    all_goals exact sizes_end (x := x) (f := g) hWs hGlt (by omega) hlt hb2 HV.out HR.out HB.out HQ0'.out (by omega)
  case done =>
    rintro D ys W hD rfl ⟨⟨⟨v, hv, hrow, rfl⟩, q0⟩, hB⟩ hK
    rw [pairs_length] at hv hrow
    have hmap : (pairs zs zs.length).map (fun p => g p.2) = zs.map pop := by
      rw [show (fun p : Nat × Int => g p.2) = g ∘ (fun p => p.2) from rfl, ← List.map_map, pairs_all, HMAP.out]
    rw [hmap] at hrow
    have hc := hv.cell
    have HR := Lib.hid hrow
    have HB := Lib.hid hB
    clear hv hrow hB q0 hmap
    gi_wp2
    refine ⟨by simp, .inl ⟨_, _, rfl, run_takeDeferred hK, ?_⟩⟩
    refine ⟨_, results_tmp2 rfl _ _ _, _, _, by rw [List.length_map]; rfl, ?_, ?_⟩
    · rw [List.length_map]
      unfold OwnI
      rw [List.length_map]
      exact ownsRow_putObj HR.out _ hK rfl
    · exact HB.out.trans (belowK_b (w := w) (Nat.le_refl _) W D _ _ (by simp at hD; omega) hK rfl rfl)
  case stop =>
    rintro D c pre W _ _ h _
    exact h.elim

theorem implSizes_any (m : Int) (a : Option Addr) (c : Nat) (zs : List Int) (w : World) (ha : Ints w w.heap.size a zs) (hx : zs.length ≤ 1048576) :
    Calls Tryd.prog 26 #[.agg #[.int .i64 m, .slice a zs.length c]] w (RetSB w (sizesZ m zs) (famIn m zs)) := by
  unfold sizesZ
  cases hf : famIn m zs
  · exact implSizes_no m a c zs w ha hx hf
  · exact implSizes_yes m a c zs w ha hx hf

end Go.Proofs.YtnpfdgbbcapnkaaDoor

/- It is proved that the call of the law FnColourMany returns true; conditions: those of each statement. -/
namespace Go.Proofs.YtnpfdgbbcapnkaaDoor
open Go.RowKit

theorem popZ_mem {z : Int} (h0 : 0 ≤ z) (h : z.toNat < 64) : pop z = ((mem z.toNat).length : Int) := by
  have := pop_fin ⟨z.toNat, h⟩
  dsimp only at this
  rw [Int.toNat_of_nonneg h0] at this
  rw [this, mem8 h]

theorem many_rem {m k : Nat} (hm1 : 1 ≤ m) (hm : m ≤ 6) {zs : List Int} (hz : Sets m zs) : cntCM m zs k % k = 0 := by
  obtain ⟨n, rfl⟩ : ∃ n, m = n + 1 := ⟨m - 1, by omega⟩
  unfold cntCM
  rw [swap_cnt (mix_swaps hm hz)]
  exact Nat.mul_mod_right _ _

theorem proper_rem {m k : Nat} (hm1 : 1 ≤ m) (hm : m ≤ 6) {zs : List Int} (hz : Sets m zs) : cntCP m zs k % k = 0 := by
  obtain ⟨n, rfl⟩ : ∃ n, m = n + 1 := ⟨m - 1, by omega⟩
  unfold cntCP
  rw [swap_cnt (pro_swaps hm hz)]
  exact Nat.mul_mod_right _ _

theorem pro_mix {zs c : List Int} (h2 : ∀ z ∈ zs, 2 ≤ (mem z.toNat).length) (h : proB zs c = true) : mixB zs c = true := by
  unfold proB at h
  unfold mixB
  rw [List.all_eq_true] at h ⊢
  intro z hz
  have hp := propZ_iff.1 (h z hz)
  rw [mixZ_iff]
  have := h2 z hz
  match hmm : mem z.toNat with
  | [] => rw [hmm] at this; simp at this
  | [_] => rw [hmm] at this; simp at this
  | v :: w :: t =>
    have hnd := mem_nodS z.toNat
    rw [hmm] at hnd hp
    refine ⟨v, by simp, w, by simp, fun e => ?_⟩
    have := hp v (by simp) w (by simp) e
    subst this
    simp at hnd

theorem many_proper {m k : Nat} {zs : List Int} (h2 : ∀ z ∈ zs, 2 ≤ (mem z.toNat).length) : cntCP m zs k ≤ cntCM m zs k := by
  unfold cntCP cntCM
  exact List.countP_mono_left fun c _ h => pro_mix h2 h

theorem many_none (m k : Nat) : cntCM m [] k = k ^ m := by
  unfold cntCM
  rw [← palI_len k, ← wordsL_card, palI_len]
  exact List.countP_eq_length.2 fun c _ => rfl

/-- All of the first numbers are above 1. -/
def twoTo (ys : List Int) (i : Nat) : Bool := (ys.take i).all fun y => decide (1 < y)

theorem twoTo_succ {ys : List Int} {i : Nat} (h : i < ys.length) : twoTo ys (i + 1) = (twoTo ys i && decide (1 < ys[i]?.getD 0)) := by
  unfold twoTo
  rw [List.take_succ_eq_append_getElem h, List.all_append]
  simp [h]

theorem two_all {zs : List Int} (hz : ∀ z ∈ zs, 0 ≤ z ∧ z.toNat < 64) (h : twoTo (zs.map pop) (zs.map pop).length = true) : ∀ z ∈ zs, 2 ≤ (mem z.toNat).length := fun z hzz => by
  unfold twoTo at h
  rw [List.take_length, List.all_eq_true] at h
  have := h (pop z) (List.mem_map.2 ⟨z, hzz, rfl⟩)
  rw [decide_eq_true_eq, popZ_mem (hz z hzz).1 (hz z hzz).2] at this
  omega

set_option maxRecDepth 100000 in
set_option maxHeartbeats 8000000 in
theorem walkFnColourMany (a : Option Addr) (n cap : Nat) (w : World) (hb : Bys w w.heap.size a n) (hT : Tab w) (hn : n ≤ 1048576) (hc : n ≤ cap) (hc2 : cap ≤ 9223372036854775807) :
    Calls Tryd.prog 5 #[.slice a n cap] w fun e w' => e = .returned (.bool true) ∧ Below w.heap.size w w' := by
  have HBy := Lib.hid hb
  have HT := Lib.hid hT
  clear hb hT
  go_enter Tryd.func5, Tryd.ntmps5
  go_wp2_with fail
  refine (drawColourMany_any a n cap w HBy.out hn hc hc2).mono ?_
  rintro e w1 ⟨m, a1, zs, c1, q, rfl, hl, ho1, hb1⟩
  have F1 := FB.start (m := m) (c := c1) (own_ints ho1)
  have B1 := Lib.hid (hb1.trans ((below1 w1 (.cells #[.int .i64 m, .slice a1 zs.length c1] 25)).mono hb1.size))
  have hln : zs.length ≤ 1048576 := by omega
  have f_f_1 := Lib.hid F1
  clear F1 ho1 hb1
  have f_0 := f_f_1.out.x0
  have f_1 := f_f_1.out.x1
  obtain ⟨O, hO⟩ : ∃ O, O = outCM m zs q := ⟨_, rfl⟩
  obtain ⟨K, hK⟩ : ∃ K, K = okCM m zs q := ⟨_, rfl⟩
  have HI := Lib.hid (fun W hi hT => implColourMany_any m q a1 c1 zs W hi hT hln)
  have HSP := Lib.hid (fun W hi => specColourMany_any m q a1 c1 zs W hi hln)
  have HPI := Lib.hid (fun W hi hT => implColourProper_any m q a1 c1 zs W hi hT hln)
  have HSZ := Lib.hid (fun W hi => implSizes_any m a1 c1 zs W hi hln)
  rw [← hO, ← hK] at HI HSP
  have HO := Lib.hid hO
  have HK := Lib.hid hK
  clear hO hK
  go_wp2_with fail
  refine (HI.out _ f_f_1.out.ints (HT.out.below B1.out HT.out.lt)).mono ?_
  rintro e w2 ⟨rfl, hb2⟩
  have B2 := Lib.hid (B1.out.trans (hb2.mono B1.out.size))
  have f_f_2 := Lib.hid (f_f_1.out.step hb2)
  clear hb2 B1 f_f_1
  clear f_0 f_1
  have f_0 := f_f_2.out.x0
  have f_1 := f_f_2.out.x1
  go_wp2_with fail
  refine (HSP.out _ f_f_2.out.ints).mono ?_
  rintro e w3 ⟨rfl, hb3⟩
  have B3 := Lib.hid (B2.out.trans (hb3.mono B2.out.size))
  have f_f_3 := Lib.hid (f_f_2.out.step hb3)
  clear hb3 B2 f_f_2
  clear f_0 f_1
  have f_0 := f_f_3.out.x0
  have f_1 := f_f_3.out.x1
  clear HI HSP
  cases K
  · clear HK HO HPI HSZ
    go_wp2
    go_ret
    exact ⟨rfl, B3.out⟩
  · have hok := HK.out
    unfold okCM at hok
    obtain ⟨hfm, hcl⟩ : famIn m zs = true ∧ colIn q 0 = true := by
      have := hok.symm
      rwa [Bool.and_eq_true] at this
    obtain ⟨q, rfl, hq4, -⟩ := colIn_nat (Int.le_refl 0) hcl
    obtain ⟨k, hmk, hk1, hk6, hset, hl8⟩ := fam_nat2 hfm
    subst hmk
    have hz64 : ∀ z ∈ zs, 0 ≤ z ∧ z.toNat < 64 := fun z h => ⟨(hset z h).1, p64 hk6 (hset z h).2⟩
    have hOe : O = ((cntCM k zs q : Nat) : Int) := by rw [HO.out]; unfold outCM; rw [hfm, hcl]; rfl
    have hXe : outCP (k : Int) zs (q : Int) = ((cntCP k zs q : Nat) : Int) := by unfold outCP; rw [hfm, hcl]; rfl
    have hPe : okCP (k : Int) zs (q : Int) = true := by unfold okCP; rw [hfm, hcl]; rfl
    rw [hXe, hPe] at HPI
    rw [hfm, show sizesZ (k : Int) zs = zs.map pop by unfold sizesZ; rw [hfm]; rfl] at HSZ
    obtain ⟨ys, hys⟩ : ∃ ys, ys = zs.map pop := ⟨_, rfl⟩
    have hyl : ys.length = zs.length := by rw [hys, List.length_map]
    have HTW : Hid (twoTo ys ys.length = true → cntCP k zs q ≤ cntCM k zs q) := Lib.hid fun h => many_proper (two_all hz64 (by rw [← hys]; exact h))
    have HNO : Hid (ys.length = 0 → cntCM k zs q = q ^ k) := Lib.hid fun h => by
      have : zs = [] := List.eq_nil_of_length_eq_zero (by omega)
      rw [this]; exact many_none k q
    have hrm : cntCM k zs q % q = 0 := many_rem hk1 hk6 hset
    have hYB : ∀ y ∈ ys, 0 ≤ y ∧ y ≤ 8 := by rw [hys]; exact pop_bound hz64
    rw [← hys] at HSZ
    have hMle := cntCM_le k zs q
    have hPle := cntCP_le k zs q
    have hpw : q ^ k ≤ 4096 := Nat.le_trans (Nat.pow_le_pow_left hq4 k) (Nat.le_trans (Nat.pow_le_pow_right (n := 4) (by decide) hk6) (by decide))
    have HPW : Hid (∀ i, i ≤ k → q ^ i ≤ 4096) := Lib.hid fun i hi => Nat.le_trans (Nat.pow_le_pow_left hq4 i) (Nat.le_trans (Nat.pow_le_pow_right (n := 4) (by decide) (show i ≤ 6 by omega)) (by decide))
    obtain ⟨A, hA⟩ : ∃ A, A = cntCM k zs q := ⟨_, rfl⟩
    obtain ⟨X, hX⟩ : ∃ X, X = cntCP k zs q := ⟨_, rfl⟩
    rw [← hX] at HPI hPle HTW
    rw [← hA] at hOe hMle hrm HTW HNO
    have hA4 : (A : Int) ≤ 4096 := by omega
    have hX4 : (X : Int) ≤ 4096 := by omega
    have hA0 : (0 : Int) ≤ (A : Int) := by omega
    have hX0 : (0 : Int) ≤ (X : Int) := by omega
    have hq0 : (0 : Int) ≤ (q : Int) := by omega
    have hq4I : (q : Int) ≤ 4 := by omega
    have hremI : Int.tmod (A : Int) (q : Int) = 0 := by rw [← Int.ofNat_tmod, hrm]; rfl
    have HYB := Lib.hid hYB
    subst hOe
    clear hok hfm hcl hset hz64 hXe hPe hys hA hX HK HO hrm hYB
    go_wp2_with fail
    refine (HPI.out _ f_f_3.out.ints (HT.out.below B3.out HT.out.lt)).mono ?_
    rintro e w4 ⟨rfl, hb4⟩
    have B4 := Lib.hid (B3.out.trans (hb4.mono B3.out.size))
    have f_f_4 := Lib.hid (f_f_3.out.step hb4)
    clear hb4 B3 f_f_3 HPI
    clear f_0 f_1
    have f_0 := f_f_4.out.x0
    have f_1 := f_f_4.out.x1
    go_wp2_with fail
    refine (HSZ.out _ f_f_4.out.ints).mono ?_
    rintro e w5 ⟨a5, c5, rfl, ho5, hb5⟩
    have B5 := Lib.hid (B4.out.trans (hb5.mono B4.out.size))
    have f_f_5 := Lib.hid (f_f_4.out.step hb5)
    have HY5 := Lib.hid (own_ints ho5)
    clear hb5 B4 f_f_4 HSZ ho5
    clear f_0 f_1
    have f_0 := f_f_5.out.x0
    have f_1 := f_f_5.out.x1
    obtain ⟨L, hL⟩ : ∃ L, L = ys.length := ⟨_, rfl⟩
    have HL := Lib.hid hL
    rw [← hL]
    rw [← hL] at hyl HTW HNO
    have hL8 : L ≤ 8 := by omega
    clear hyl
    have HT0 : Hid (twoTo ys 0 = true) := Lib.hid rfl
    clear hL
    go_wp2
    go_loop [13, 14] (fun s13 s14 => ∃ i : Nat, i ≤ L ∧ s14 = .int .i64 (i : Int) ∧ s13 = .bool (twoTo ys i)) (fun _ s14 => L - (intOf s14).toNat)
    case atStart => exact ⟨0, Nat.zero_le _, rfl, by rw [HT0.out]⟩
    case round =>
      obtain ⟨i, hi, rfl, rfl⟩ := hrel
      by_cases hlt : i < L
      · have hiI : (i : Int) < (L : Int) := by omega
        have hi0 : (0 : Int) ≤ (i : Int) := by omega
        obtain ⟨b9, o9, rfl, hb9, hc9⟩ := HY5.out.at_ (k := i) (by rw [← HL.out]; exact hlt)
        have HSU := Lib.hid (twoTo_succ (ys := ys) (i := i) (by rw [← HL.out]; exact hlt))
        obtain ⟨y, hy⟩ : ∃ y, y = ys[i]?.getD 0 := ⟨_, rfl⟩
        rw [← hy] at hc9 HSU
        clear hy
        obtain ⟨T, hTT⟩ : ∃ T, T = twoTo ys i := ⟨_, rfl⟩
        rw [← hTT] at HSU ⊢
        clear hTT
        cases T
        · have HE : Hid (twoTo ys (i + 1) = false) := Lib.hid (by rw [HSU.out]; rfl)
          go_wp2
          go_round
          case rel => exact ⟨i + 1, by omega, by go_num, by rw [HE.out]⟩
          case measure => simp [intOf]; omega
        · have HE : Hid (twoTo ys (i + 1) = decide (1 < y)) := Lib.hid (by rw [HSU.out]; rfl)
          go_wp2
          go_round
          case rel => exact ⟨i + 1, by omega, by go_num, by rw [HE.out]⟩
          case measure => simp [intOf]; omega
      · obtain rfl : i = L := by omega
        obtain ⟨T, hTT⟩ : ∃ T, T = twoTo ys i := ⟨_, rfl⟩
        rw [← hTT] at HTW ⊢
        clear hTT
        go_wp2
        go_loop [15, 16] (fun s15 s16 => ∃ j : Nat, j ≤ k ∧ s16 = .int .i64 (j : Int) ∧ s15 = .int .i64 ((q ^ j : Nat) : Int)) (fun _ s16 => k - (intOf s16).toNat)
        case atStart => exact ⟨0, Nat.zero_le _, rfl, by simp⟩
        case round =>
          obtain ⟨j, hj, rfl, rfl⟩ := hrel
          have hP := HPW.out j hj
          by_cases hlt2 : j < k
          · have hji : (j : Int) < (k : Int) := by omega
            have hj0 : (0 : Int) ≤ (j : Int) := by omega
            have hP2 := HPW.out (j + 1) hlt2
            have hmul : ((q ^ j : Nat) : Int) * (q : Int) = ((q ^ (j + 1) : Nat) : Int) := by rw [Nat.pow_succ]; norm_cast
            obtain ⟨P, hPP⟩ : ∃ P, P = q ^ j := ⟨_, rfl⟩
            obtain ⟨P2, hPP2⟩ : ∃ P2, P2 = q ^ (j + 1) := ⟨_, rfl⟩
            rw [← hPP, ← hPP2] at hmul
            rw [← hPP] at hP ⊢
            rw [← hPP2] at hP2
            have HPP2 := Lib.hid hPP2
            have hP2I : (P2 : Int) ≤ 4096 := by omega
            have hP20 : (0 : Int) ≤ (P2 : Int) := by omega
            clear hPP hPP2
            go_wp2
            go_round
            case rel => exact ⟨j + 1, by omega, by go_num, by rw [← HPP2.out]⟩
            case measure => simp [intOf]; omega
          · obtain rfl : j = k := by omega
            obtain ⟨P, hPP⟩ : ∃ P, P = q ^ j := ⟨_, rfl⟩
            rw [← hPP] at HNO hP ⊢
            clear hPP
            by_cases hq1 : (q : Int) = 0
            · by_cases hL1 : i = 0
              · obtain rfl : A = P := HNO.out hL1
                have hi0 : (i : Int) = 0 := by omega
                cases T
                · go_wp2
                  all_goals (go_ret; exact ⟨rfl, B5.out⟩)
                · have hAX : (X : Int) ≤ (A : Int) := by have := HTW.out rfl; omega
                  go_wp2
                  all_goals (go_ret; exact ⟨rfl, B5.out⟩)
              · have hi0 : 0 < (i : Int) := by omega
                cases T
                · go_wp2
                  all_goals (go_ret; exact ⟨rfl, B5.out⟩)
                · have hAX : (X : Int) ≤ (A : Int) := by have := HTW.out rfl; omega
                  go_wp2
                  all_goals (go_ret; exact ⟨rfl, B5.out⟩)
            · have hq2 : 0 < (q : Int) := by omega
              by_cases hL1 : i = 0
              · obtain rfl : A = P := HNO.out hL1
                have hi0 : (i : Int) = 0 := by omega
                cases T
                · go_wp2
                  all_goals (go_ret; exact ⟨rfl, B5.out⟩)
                · have hAX : (X : Int) ≤ (A : Int) := by have := HTW.out rfl; omega
                  go_wp2
                  all_goals (go_ret; exact ⟨rfl, B5.out⟩)
              · have hi0 : 0 < (i : Int) := by omega
                cases T
                · go_wp2
                  all_goals (go_ret; exact ⟨rfl, B5.out⟩)
                · have hAX : (X : Int) ≤ (A : Int) := by have := HTW.out rfl; omega
                  go_wp2
                  all_goals (go_ret; exact ⟨rfl, B5.out⟩)

end Go.Proofs.YtnpfdgbbcapnkaaDoor

/- It is proved that what a row lists of the library's tables is what the walks ask of them; conditions: none but the row's. -/
namespace Go.Proofs.YtnpfdgbbcapnkaaDoor
open Go.ChangeShapes Go.WideShapes Go.ChangeAt Go.RowKit Go.Joins

def laidL : List (String × DataW Unit) := [("math/bits.deBruijn32tab", Rows.laid_math_bits_deBruijn32tab), ("math/bits.deBruijn64tab", Rows.laid_math_bits_deBruijn64tab)]
theorem Tryd.g0 : Tryd.prog.globalNamed "math/bits.deBruijn32tab" = some 0 := by kernel_rfl
theorem Tryd.g1 : Tryd.prog.globalNamed "math/bits.deBruijn64tab" = some 1 := by kernel_rfl
theorem Tryd.tg0 : (Tryd.prog.globals[0]?).map (·.type) = some 115 := by kernel_rfl
theorem Tryd.tg1 : (Tryd.prog.globals[1]?).map (·.type) = some 116 := by kernel_rfl
theorem tab_is : (Rows.laid_math_bits_deBruijn64tab : DataW Unit) = Lib.tabData .u8 (Lib.deBruijn64tab.map fun (n : Nat) => (n : Int)) := rfl
/-- The door's own heap meets the condition: closed facts. -/
theorem door_met (os : Os) (args : Array Value) : laidMetH Tryd.prog laidL ((World.doorLaid Tryd.prog 40 os).forCall (fun _ _ => 0) ⟨#[], args, []⟩).memory :=
  laidMetH_of_parts3 (fuel := 8) (laidMet_of_run' 8 (by kernel_rfl) (by kernel_rfl)) (by kernel_rfl) (by kernel_rfl)

set_option maxRecDepth 100000 in
theorem tab_of_laid {W : World} (h : laidMetH Tryd.prog laidL W) : Tab W := by
  rw [MakeChecks.laidMetH_plain _ _ _ (by kernel_rfl)] at h
  obtain ⟨ps, ⟨g0, t0, cs0, f0, p0, q0, hg0, ht0, hv0, hd0, ⟨g1, t1, cs1, f1, p1, q1, hg1, ht1, hv1, hd1, _, _⟩, _⟩, _, _⟩ := h
  obtain rfl := Option.some.inj (Tryd.g1.symm.trans hg1)
  obtain rfl := Option.some.inj (Tryd.tg1.symm.trans ht1)
  rw [tab_is] at hd1
  have hcs := Lib.cells_of_tab (n := 64) (e := 5) Tryd.underlying116 Tryd.underlying5 (by kernel_rfl) (by kernel_rfl) hd1
  intro j hj
  have h1 := World.var?_cell hg1 hv1 j
  rw [h1, ← Array.getElem?_toList, hcs]
  simp [List.getD, hj]

end Go.Proofs.YtnpfdgbbcapnkaaDoor
