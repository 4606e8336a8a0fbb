/- It is proved what slices.AppendSeq of the map's keys returns; conditions: those of each statement. -/
import Derived.RowKit
import Derived.Laws.CopyRow
import Derived.Lib.SlBuf
import Derived.Deep.QuietTactic
import Derived.RangeFuncNested
import Derived.RangeFuncBound
import Derived.RangeFuncCalls
import Derived.RangeFuncLeaves
import Derived.RangeFuncBox
import Derived.RangeFuncWrites
import Derived.StillTailTactics
import Derived.Maps.OwnIn
import Derived.Maps.Ext
import Derived.DeepKeys4
import Derived.MapKept
import Derived.Test.YtjclfpcnfmpjdaaDoorRows
import Derived.WalkKit
import Derived.WalkSpells
import Derived.ProofKit
import Derived.OpenShut
import Derived.ShutString
import Derived.ChangeOld
import Derived.Below
import Derived.Deep.RegionHeld3
import Derived.BigQuiet
import Derived.Lib.Hide
import Derived.Lib.SmallJoins
import Derived.Outline
import Derived.Laws.MakeOwn
import Derived.Laws.OwnMore
import Derived.IntWalk
import Derived.Sort.MapsRangeIn
import Derived.Lib.AppendZeros
import Derived.Maps.AppendAt
import Derived.Deep.AppendLies
import Derived.OwnWalk
import Derived.Lib.SlicesCompact
import Derived.Lib.OwnBridge
import Derived.OrdersIn
import Derived.TacticsIn
import Derived.Shelf.Sort.Plain
import Derived.Shelf.Slices.In.SortNone
import Derived.Shelf.Slices.CompactI
import Derived.Ground.Names2Prog
import Derived.Shelf.Abstract
import Derived.Shelf.RegionOpen
import Derived.OwnWalkIn
import Derived.TacticsInMore
import Derived.LoopNIn
import Derived.LoopIn
import Derived.StillTail
import Derived.StillTactics
import Derived.Shelf.Spec.TrailingZeros
import Derived.Test.YtjclfpcnfmpjdaaDoorMsa
import Derived.Test.YtjclfpcnfmpjdaaDoorMsb
import Derived.Test.YtjclfpcnfmpjdaaDoorBq
namespace Go.Proofs.YtjclfpcnfmpjdaaDoor
open Go.RowKit Go.Shelf Go.Maps

theorem Tryd.infoList : (Tryd.prog.info? 57).map (fun i => (i.zero, i.size, i.bytes)) = some (some (.agg (iv z8)), 8, 64) := by kernel_rfl
theorem underList : Tryd.prog.underlying 94 = some (.slice 57) := by kernel_rfl
def cellsK (ys : List KeyS) : List Value := ys.flatMap fun y => y.1.map (Value.int .i64)
theorem cellsK_snoc (ys : List KeyS) (y : KeyS) : cellsK (ys ++ [y]) = cellsK ys ++ y.1.map (Value.int .i64) := by simp [cellsK]
attribute [local go_sem] Oper.semAt_some

set_option maxRecDepth 100000 in
set_option maxHeartbeats 4000000 in
theorem appendKeys_any (Bm b nn : Nat) (D0 : DataW Unit) (zs : List Int) (L : List (List Nat)) (hTab : TabD zs D0 L) (hwf : ∀ p ∈ L, WfK (keyL zs (nI p))) (hsz : Maps.size D0 ≤ 100000) (w : World) (hBm : Bm < w.heap.size)
    (hm : w.cell? ⟨Bm, 0, none⟩ = some (.map (some b))) (hown : OwnT w b nn D0) :
    Calls Tryd.prog 96 #[.slice none 0 0, .func (.func 97) #[] #[.pointer (some ⟨Bm, 0, none⟩)]] w fun e w' => ∃ v ys, e = .returned v ∧ CollE D0 (valsK ys) ∧
      w'.ownsRow w.heap.size 57 8 v ys.length (cellsK ys) ∧ Below w.heap.size w w' := by
  obtain ⟨i0, hi, hz0, hz1, hz2⟩ := info_parts Tryd.infoList
  have h16 : 1 ≤ 6 := by omega
  have bO := Boxed.new w 94 (.slice none 0 0)
  have hB0 : Below w.heap.size w (w.alloc (.cells #[.slice none 0 0] 94)) := below1 w _
  have hown1 : OwnT (w.alloc (.cells #[.slice none 0 0] 94)) b nn D0 := hown.alloc _
  have hst := keysK_stops (6 - 1) (by omega) Bm b nn D0 zs L hTab hwf (w.alloc (.cells #[.slice none 0 0] 94)) (by simp; omega) ((hB0.cell (p := ⟨Bm, 0, none⟩) hBm).trans hm) hown1
  refine (callsIn_wide (n := 6)).1 ?_
  refine callsIn_of_wp_marks Tryd.func96 rfl trivial ?_ rfl
  simp only [Tryd.ntmps96, List.size_toArray, List.length_cons, List.length_nil, Nat.reduceAdd, Nat.reduceSub, Array.replicate_succ, Array.replicate_zero, List.push_toArray, List.append_toArray, List.nil_append, List.cons_append]
  clear hm hown hown1
  gi_wp2
  refine wpIn_rangeFunc_ownH rfl h16 (gf := 97) (lb := #[.pointer (some ⟨Bm, 0, none⟩)]) rfl trivial (enters_of Tryd.func97 (by kernel_rfl) rfl)
    hst KeepsWalks.trans (fun W l o o' _ hl _ hw => KeepsWalks.putObj o' hl hw) (Below.refl _ _) (fun _ => rfl)
    (fun pre W => (∃ v, Boxed W w.heap.size 94 v ∧ W.ownsRow w.heap.size 57 8 v pre.length (cellsK pre) ∧ True) ∧ Below w.heap.size w W)
    (fun _ _ _ => False)
    (OwnFrom.and (Own.from (holdsRow_own w.heap.size w.heap.size 94 57 8 (fun pre : List KeyS => pre.length) (fun pre => cellsK pre) (fun pre v => True)) _) (ownFrom_below (Nat.le_refl _) (by simp)))
    (fun _ _ _ _ _ hs _ _ => hs)
    ⟨⟨_, bO, World.ownsRow_nil _ _ _ _, trivial⟩, hB0⟩
    (fun x a' W => ∃ p, a' = { tmps := #[.slice none 0 0, .func (.func 97) #[] #[.pointer (some ⟨Bm, 0, none⟩)], .pointer (some ⟨w.heap.size, 0, none⟩), undef, .slice none 0 0, .pointer (some ⟨p, 0, none⟩), .func (.func 97) #[] #[.pointer (some ⟨Bm, 0, none⟩)], .agg (iv x.1), undef, undef, undef, undef, undef], defers := [] } ∧ HasBlk W p (iv x.1) 57)
    ?ax ?assign ?body ?done ?stop
  case ax =>
    rintro x a' _ A C row ⟨p, e, hp⟩ hg hr
    refine ⟨p, e, HasBlk.kept hp hg (fun e' => ?_)⟩
    obtain ⟨o, ho, hc⟩ := (hr p e').2
    rw [show A.heap[p]? = _ from hp] at ho; cases ho; cases hc
  case assign =>
    rintro l pre ⟨K, hKw⟩ W Q ⟨⟨v, hv, hrow, -⟩, hB⟩ hQ
    obtain ⟨u0, u1, u2, u3, u4, u5, u6, u7, rfl⟩ := eight hKw.1
    have hfin := hQ _ (W.alloc (.cells (iv [u0, u1, u2, u3, u4, u5, u6, u7]) 57)) (KeepsFrom.of_grownBy (World.grownBy_alloc _ _ none) (by simp)) (KeepsWalks.alloc _ _) ⟨⟨v, hv.alloc _, hrow.alloc _, trivial⟩, hB.alloc hB.size _⟩ ⟨W.heap.size, rfl, alloc_new W _⟩
    rw [show iv [u0, u1, u2, u3, u4, u5, u6, u7] = #[.int .i64 u0, .int .i64 u1, .int .i64 u2, .int .i64 u3, .int .i64 u4, .int .i64 u5, .int .i64 u6, .int .i64 u7] from rfl] at hfin
    clear hQ hrow hv hB
    dsimp only [iv]
    gi_wp2
    exact hfin
  case body =>
    rintro l pre ⟨K, hKw⟩ a' W - - ⟨⟨v, hv, hrow, -⟩, hB⟩ ⟨p, rfl, hp⟩ hlt
    obtain ⟨u0, u1, u2, u3, u4, u5, u6, u7, rfl⟩ := eight hKw.1
    rw [show iv [u0, u1, u2, u3, u4, u5, u6, u7] = #[.int .i64 u0, .int .i64 u1, .int .i64 u2, .int .i64 u3, .int .i64 u4, .int .i64 u5, .int .i64 u6, .int .i64 u7] from rfl] at hp
    have hc := hv.cell
    have k0 := blk_cell hp 0
    have k1 := blk_cell hp 1
    have k2 := blk_cell hp 2
    have k3 := blk_cell hp 3
    have k4 := blk_cell hp 4
    have k5 := blk_cell hp 5
    have k6 := blk_cell hp 6
    have k7 := blk_cell hp 7
    have hnews : ∀ j u, [.int .i64 u0, .int .i64 u1, .int .i64 u2, .int .i64 u3, .int .i64 u4, .int .i64 u5, .int .i64 u6, .int .i64 u7][j]? = some u → (W.alloc (.cells #[.int .i64 u0, .int .i64 u1, .int .i64 u2, .int .i64 u3, .int .i64 u4, .int .i64 u5, .int .i64 u6, .int .i64 u7] 57)).cell? ((⟨W.heap.size, 0, none⟩ : Addr).add j) = some u := fun j u hu => by
      rw [show (⟨W.heap.size, 0, none⟩ : Addr).add j = ⟨W.heap.size, j, none⟩ from by simp [Addr.add]; omega]
      exact (blk_cell (alloc_new W (.cells #[.int .i64 u0, .int .i64 u1, .int .i64 u2, .int .i64 u3, .int .i64 u4, .int .i64 u5, .int .i64 u6, .int .i64 u7] 57)) j).trans (by simpa using hu)
    clear hp
    dsimp only [iv]
    gi_wp2_with (gi_at_builtin; refine wpListIn_append_own _ rfl _ _ 94 rfl w.heap.size 57 i0 (.agg (iv z8)) 8 64 underList hi hz0 hz1 hz2 rfl (by decide) _ _ _ rfl (hrow.alloc _) ⟨W.heap.size, 0, none⟩ 1 1 [.int .i64 u0, .int .i64 u1, .int .i64 u2, .int .i64 u3, .int .i64 u4, .int .i64 u5, .int .i64 u6, .int .i64 u7] rfl rfl hnews (by simp [Value.oneCell']) (by simp only [maxLen]; omega) (by omega) (by have := hB.size; simp; omega) ?_; intro v' w1 hown' hgrow _; obtain ⟨g', cap', rfl⟩ := ownsRow_succ hown'; obtain ⟨hv1, hv2, hr2, hk2, hb2⟩ := hv.appended (by decide) hrow hB.size (Nat.le_refl _) hown' hgrow; have hc1 := hv1.cell; have hf1 := hv1.frozen)
    exact ⟨hk2.from _, hk2.walks, ⟨_, hv2, by rw [cellsK_snoc, List.length_append]; exact hr2, trivial⟩, hB.trans hb2⟩
  case done =>
    rintro D ys W hD hys ⟨⟨v, hv, hrow, -⟩, hB⟩ hK
    have hc := hv.cell
    gi_wp2
    refine ⟨by simp, .inl ⟨_, _, rfl, run_takeDeferred hK, ?_⟩⟩
    exact ⟨_, results_tmp rfl _ _ _, v, ys, rfl, hys, ownsRow_putObj hrow _ hK rfl, hB.trans (belowK_b (w := w) (Nat.le_refl _) W D _ _ (by simp at hD; omega) hK rfl rfl)⟩
  case stop =>
    rintro D c pre W _ _ h _
    exact h.elim

end Go.Proofs.YtjclfpcnfmpjdaaDoor
