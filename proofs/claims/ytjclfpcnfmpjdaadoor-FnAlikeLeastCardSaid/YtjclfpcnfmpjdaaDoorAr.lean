/- It is proved what ownNames and keeping return; conditions: those of each statement. -/
import Derived.RowKit
import Derived.Laws.CopyRow
import Derived.Lib.SlBuf
import Derived.Deep.QuietTactic
import Derived.RangeFuncNested
import Derived.RangeFuncBound
import Derived.RangeFuncCalls
import Derived.RangeFuncLeaves
import Derived.RangeFuncBox
import Derived.RangeFuncWrites
import Derived.StillTailTactics
import Derived.Maps.OwnIn
import Derived.Maps.Ext
import Derived.DeepKeys4
import Derived.MapKept
import Derived.Test.YtjclfpcnfmpjdaaDoorRows
import Derived.WalkKit
import Derived.WalkSpells
import Derived.ProofKit
import Derived.OpenShut
import Derived.ShutString
import Derived.ChangeOld
import Derived.Below
import Derived.Deep.RegionHeld3
import Derived.BigQuiet
import Derived.Lib.Hide
import Derived.Lib.SmallJoins
import Derived.Outline
import Derived.Laws.MakeOwn
import Derived.Laws.OwnMore
import Derived.IntWalk
import Derived.Lib.AppendZeros
import Derived.Maps.AppendAt
import Derived.Deep.AppendLies
import Derived.OwnWalk
import Derived.Lib.SlicesCompact
import Derived.Lib.OwnBridge
import Derived.OrdersIn
import Derived.TacticsIn
import Derived.Shelf.Sort.Plain
import Derived.Shelf.Slices.In.SortNone
import Derived.Shelf.Slices.CompactI
import Derived.Ground.Names2Prog
import Derived.Shelf.Abstract
import Derived.Shelf.RegionOpen
import Derived.OwnWalkIn
import Derived.TacticsInMore
import Derived.LoopNIn
import Derived.LoopIn
import Derived.StillTail
import Derived.StillTactics
import Derived.Shelf.Spec.TrailingZeros
import Derived.Test.YtjclfpcnfmpjdaaDoorMo
namespace Go.Proofs.YtjclfpcnfmpjdaaDoor
open Go.RowKit Go.Shelf Go.Maps

attribute [local go_sem] Oper.semAt_some

set_option maxRecDepth 100000 in
set_option maxHeartbeats 2000000 in
theorem appendSeq_any (s Bs : Nat) (hs : s < 64) (w : World) (hBs : Bs < w.heap.size) (hc : w.cell? ⟨Bs, 0, none⟩ = some (.int .i64 (s : Int))) (hT : Tab w) :
    Calls Tryd.prog 111 #[.slice none 0 0, .func (.func 88) #[] #[.pointer (some ⟨Bs, 0, none⟩)]] w fun e w' => ∃ v, e = .returned v ∧
      w'.ownsRow w.heap.size 3 1 v (mem s).length ((nI (mem s)).map (Value.int .i64)) ∧ Below w.heap.size w w' := by
  obtain ⟨i0, hi, hz0, hz1, hz2⟩ := info_parts Tryd.info3
  have h16 : 1 ≤ 6 := by omega
  have hT1 := hT.lt
  have bO := Boxed.new w 23 (.slice none 0 0)
  have hB0 : Below w.heap.size w (w.alloc (.cells #[.slice none 0 0] 23)) := below1 w _
  have hst := membersS_stops (6 - 1) (by omega) Bs w.heap.size s hs (w.alloc (.cells #[.slice none 0 0] 23)) (by simp; omega) (by simp) (by omega) ((hB0.cell (p := ⟨Bs, 0, none⟩) hBs).trans hc) (hT.below hB0 hT1)
  refine (callsIn_wide (n := 6)).1 ?_
  refine callsIn_of_wp_marks Tryd.func111 rfl trivial ?_ rfl
  simp only [Tryd.ntmps111, List.size_toArray, List.length_cons, List.length_nil, Nat.reduceAdd, Nat.reduceSub, Array.replicate_succ, Array.replicate_zero, List.push_toArray, List.append_toArray, List.nil_append, List.cons_append]
  clear hc
  gi_wp2
  refine wpIn_rangeFunc_ownG rfl h16 (gf := 88) (lb := #[.pointer (some ⟨Bs, 0, none⟩)]) rfl trivial (enters_of Tryd.func88 (by kernel_rfl) rfl)
    hst belowK_t (belowK_b (by simp)) (Below.refl _ _) (fun _ => rfl)
    (fun pre W => (∃ v, Boxed W w.heap.size 23 v ∧ W.ownsRow w.heap.size 3 1 v pre.length ((nI (valsS pre)).map (Value.int .i64)) ∧ True) ∧ Below w.heap.size w W)
    (fun _ _ _ => False)
    (OwnFrom.and (Own.from (holdsRow_own w.heap.size w.heap.size 23 3 1 (fun pre : List (MemS s) => pre.length) (fun pre => (nI (valsS pre)).map (Value.int .i64)) (fun pre v => True)) _) (ownFrom_below (Nat.le_refl _) (by simp)))
    (fun _ _ _ _ _ hs _ _ => hs)
    ⟨⟨_, bO, World.ownsRow_nil _ _ _ _, trivial⟩, hB0⟩
    (fun x => { tmps := #[.slice none 0 0, .func (.func 88) #[] #[.pointer (some ⟨Bs, 0, none⟩)], .pointer (some ⟨w.heap.size, 0, none⟩), undef, .slice none 0 0, .int .i64 (x.1 : Int), .func (.func 88) #[] #[.pointer (some ⟨Bs, 0, none⟩)], .int .i64 (x.1 : Int), undef, undef, undef, undef, undef], defers := [] }) ?assign ?body ?done ?stop
  case assign =>
    intro l x W K hK
    gi_wp2
    exact hK
  case body =>
    rintro l pre x W ⟨⟨v, hv, hrow, -⟩, hB⟩ hlt
    have hc := hv.cell
    gi_wp2_with (gi_at_builtin; refine wpListIn_append_own _ rfl _ _ 23 rfl w.heap.size 3 i0 (.int .i64 0) 1 8 Tryd.underlying23 hi hz0 hz1 hz2 rfl (by decide) _ _ _ rfl (hrow.alloc _) ⟨W.heap.size, 0, none⟩ 1 1 [.int .i64 (x.1 : Int)] rfl rfl (cell_one_new _ _ _) (by simp [Value.oneCell']) (by simp only [maxLen]; omega) (by omega) (by have := hB.size; simp; omega) ?_; intro v' w1 hown' hgrow _; obtain ⟨g', cap', rfl⟩ := ownsRow_succ hown'; obtain ⟨hv1, hv2, hr2, hk2, hb2⟩ := hv.appended (by decide) hrow hB.size (Nat.le_refl _) hown' hgrow; have hc1 := hv1.cell; have hf1 := hv1.frozen)
    exact ⟨hk2.from _, hb2, ⟨_, hv2, by rw [valsS_snoc, nI_snoc, List.map_append, List.length_append]; exact hr2, trivial⟩, hB.trans hb2⟩
  case done =>
    rintro D ys W hD hys ⟨⟨v, hv, hrow, -⟩, hB⟩ hK
    rw [hys, show ys.length = (mem s).length from by rw [← hys]; simp [valsS]] at hrow
    have hc := hv.cell
    gi_wp2
    refine ⟨by simp, .inl ⟨_, _, rfl, run_takeDeferred hK, ?_⟩⟩
    exact ⟨_, results_tmp rfl _ _ _, v, rfl, ownsRow_putObj hrow _ hK rfl, hB.trans (belowK_b (w := w) (Nat.le_refl _) W D _ _ (by simp at hD; omega) hK rfl rfl)⟩
  case stop =>
    rintro D c pre W _ _ h _
    exact h.elim

theorem slice_form {w' : World} {B k : Nat} {v : Value} {ys : List Value} (h : w'.ownsRow B 3 1 v k ys) : ∃ a c, v = .slice a k c := by
  rcases h.2 with ⟨rfl, rfl⟩ | ⟨g, cap, cur, rfl, _⟩
  · exact ⟨none, 0, rfl⟩
  · exact ⟨_, _, rfl⟩

set_option maxRecDepth 100000 in
set_option maxHeartbeats 2000000 in
theorem ownNames_any (m : Nat) (hm0 : 1 ≤ m) (hm : m ≤ 6) (a : Option Addr) (n c : Nat) (w : World) (hT : Tab w) :
    Calls Tryd.prog 92 #[.agg #[.int .i64 (m : Int), .slice a n c]] w fun e w' => ∃ pa pc, e = .returned (.slice pa m pc) ∧ OwnN w' w.heap.size pa m pc (nI (List.range m)) ∧ Below w.heap.size w w' := by
  have hm1I : 1 ≤ (m : Int) := by omega
  have hm6I : (m : Int) ≤ 6 := by omega
  have HF := Lib.hid (full_nat m)
  have hT1 := hT.lt
  have h63 : 2 ^ m - 1 < 64 := by have := Nat.pow_le_pow_right (n := 2) (by decide) hm; omega
  have hC : ∀ (W : World), Tab W → ∀ Bs, Bs < W.heap.size → W.cell? ⟨Bs, 0, none⟩ = some (.int .i64 ((2 ^ m - 1 : Nat) : Int)) → Calls Tryd.prog 104 #[.func (.func 88) #[] #[.pointer (some ⟨Bs, 0, none⟩)]] W fun e w' => ∃ pa pc, e = .returned (.slice pa m pc) ∧ OwnN w' W.heap.size pa m pc (nI (List.range m)) ∧ Below W.heap.size W w' := by
    intro W hTW Bs hBs hc
    have hA := appendSeq_any (2 ^ m - 1) Bs h63 W hBs hc hTW
    rw [mem_fullR m hm, List.length_range] at hA
    clear hc hTW
    go_enter Tryd.func104, Tryd.ntmps104
    go_wp2_with (go_at_call 111; refine hA.mono ?_; rintro e w' ⟨v, rfl, ho, hb⟩)
    go_ret
    obtain ⟨pa, pc, rfl⟩ := slice_form ho
    exact ⟨pa, pc, rfl, ho, hb⟩
  have hb3 := below3 w (.cells #[.int .i64 (m : Int), .slice a n c] 25) (.cells #[.int .i64 (m : Int), .slice a n c] 25) (.cells #[.int .i64 ((2 ^ m - 1 : Nat) : Int)] 64)
  have q2 := alloc3_2 w (.cells #[.int .i64 (m : Int), .slice a n c] 25) (.cells #[.int .i64 (m : Int), .slice a n c] 25) (.cells #[.int .i64 ((2 ^ m - 1 : Nat) : Int)] 64)
  have hCW := hC _ (hT.below hb3 hT1) (w.heap.size + 1 + 1) (by simp) ((blk_cell q2 0).trans (cell1_0 _))
  clear hC q2 hT
  go_enter Tryd.func92, Tryd.ntmps92
  go_wp2_with (first
    | (go_at_call 56; refine (full_any _ _ _ _ _ hm1I hm6I).mono ?_; rintro e w' ⟨rfl, rfl⟩; rw [HF.out])
    | (go_at_call 53; refine (members_any _ _).mono ?_; rintro e w' ⟨rfl, rfl⟩)
    | (go_at_call 104; refine hCW.mono ?_; rintro e w' ⟨pa, pc, rfl, ho, hb⟩))
  go_ret
  exact ⟨pa, pc, rfl, ho.base (by simp; omega), hb3.trans (hb.mono (by simp; omega))⟩

end Go.Proofs.YtjclfpcnfmpjdaaDoor
