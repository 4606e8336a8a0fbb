/- It is proved what slices.AppendSeq of the map's keys returns; conditions: those of each statement. -/
import Derived.RowKit
import Derived.Laws.CopyRow
import Derived.Lib.SlBuf
import Derived.Deep.QuietTactic
import Derived.RangeFuncNested
import Derived.RangeFuncBound
import Derived.RangeFuncCalls
import Derived.RangeFuncLeaves
import Derived.RangeFuncBox
import Derived.RangeFuncWrites
import Derived.StillTailTactics
import Derived.Maps.OwnIn
import Derived.Maps.Ext
import Derived.DeepKeys4
import Derived.MapKept
import Derived.Test.YtgpgocijacgkhaaDoorRows
import Derived.WalkKit
import Derived.WalkSpells
import Derived.ProofKit
import Derived.OpenShut
import Derived.ShutString
import Derived.ChangeOld
import Derived.Below
import Derived.Deep.RegionHeld3
import Derived.BigQuiet
import Derived.Lib.Hide
import Derived.Lib.SmallJoins
import Derived.Outline
import Derived.Laws.MakeOwn
import Derived.Laws.OwnMore
import Derived.IntWalk
import Derived.Sort.MapsRangeIn
import Derived.Deep.RegionLaw
import Derived.Deep.AppendLies
import Derived.Lib.AppendZeros
import Derived.Maps.AppendAt
import Derived.OwnWalk
import Derived.Lib.SlicesCompact
import Derived.Lib.OwnBridge
import Derived.OrdersIn
import Derived.TacticsIn
import Derived.Shelf.Sort.Plain
import Derived.Shelf.Slices.In.SortNone
import Derived.Shelf.Slices.CompactI
import Derived.Ground.Names2Prog
import Derived.Shelf.Abstract
import Derived.Shelf.RegionOpen
import Derived.OwnWalkIn
import Derived.TacticsInMore
import Derived.LoopNIn
import Derived.LoopIn
import Derived.StillTail
import Derived.StillTactics
import Derived.Shelf.Spec.TrailingZeros
import Derived.Test.YtgpgocijacgkhaaDoorRabdxFnAlik
import Derived.Test.YtgpgocijacgkhaaDoorRabexFnAlik
import Derived.Test.YtgpgocijacgkhaaDoorRabjxFnAlik
import Derived.Test.YtgpgocijacgkhaaDoorRabgxFnAlik
import Derived.Test.YtgpgocijacgkhaaDoorRablxFnAlik
import Derived.Test.YtgpgocijacgkhaaDoorRabmxFnAlik
import Derived.Test.YtgpgocijacgkhaaDoorRaaa
import Derived.Test.YtgpgocijacgkhaaDoorRaab
import Derived.Test.YtgpgocijacgkhaaDoorRaao
import Derived.Test.YtgpgocijacgkhaaDoorRabixFnAlik
import Derived.Test.YtgpgocijacgkhaaDoorRaah
import Derived.Test.YtgpgocijacgkhaaDoorRaac
import Derived.Test.YtgpgocijacgkhaaDoorRaae
namespace Go.Proofs.YtgpgocijacgkhaaDoor
open Go.RowKit Go.Shelf Go.Maps

theorem Tryd.infoList : (Tryd.prog.info? 77).map (fun i => (i.zero, i.size, i.bytes)) = some (some (.agg (iv z8)), 8, 64) := by kernel_rfl
theorem underList : Tryd.prog.underlying 94 = some (.slice 77) := by kernel_rfl
def cellsK (ys : List KeyS) : List Value := ys.flatMap fun y => y.1.map (Value.int .i64)
theorem cellsK_snoc (ys : List KeyS) (y : KeyS) : cellsK (ys ++ [y]) = cellsK ys ++ y.1.map (Value.int .i64) := by simp [cellsK]
attribute [local go_sem] Oper.semAt_some

set_option maxRecDepth 100000 in
set_option maxHeartbeats 4000000 in
theorem appendKeys_any (Bm b nn : Nat) (D0 : DataW Unit) (zs : List Int) (L : List (List Nat)) (hTab : TabD zs D0 L) (hwf : ∀ p ∈ L, WfK (keyL zs (nI p))) (hsz : Maps.size D0 ≤ 100000) (w : World) (hBm : Bm < w.heap.size)
    (hm : w.cell? ⟨Bm, 0, none⟩ = some (.map (some b))) (hown : OwnT w b nn D0) :
    Calls Tryd.prog 101 #[.slice none 0 0, .func (.func 102) #[] #[.pointer (some ⟨Bm, 0, none⟩)]] w fun e w' => ∃ v ys, e = .returned v ∧ CollE D0 (valsK ys) ∧
      w'.ownsRow w.heap.size 77 8 v ys.length (cellsK ys) ∧ Below w.heap.size w w' := by
  obtain ⟨i0, hi, hz0, hz1, hz2⟩ := info_parts Tryd.infoList
  have h16 : 1 ≤ 6 := by omega
  have bO := Boxed.new w 94 (.slice none 0 0)
  have hB0 : Below w.heap.size w (w.alloc (.cells #[.slice none 0 0] 94)) := below1 w _
  have hown1 : OwnT (w.alloc (.cells #[.slice none 0 0] 94)) b nn D0 := hown.alloc _
  have hst := keysK_stops (6 - 1) (by omega) Bm b nn D0 zs L hTab hwf (w.alloc (.cells #[.slice none 0 0] 94)) (by simp; omega) ((hB0.cell (p := ⟨Bm, 0, none⟩) hBm).trans hm) hown1
  refine (callsIn_wide (n := 6)).1 ?_
  refine callsIn_of_wp_marks Tryd.func101 rfl trivial ?_ rfl
  simp only [Tryd.ntmps101, List.size_toArray, List.length_cons, List.length_nil, Nat.reduceAdd, Nat.reduceSub, Array.replicate_succ, Array.replicate_zero, List.push_toArray, List.append_toArray, List.nil_append, List.cons_append]
  clear hm hown hown1
  gi_wp2
  refine wpIn_rangeFunc_ownH rfl h16 (gf := 102) (lb := #[.pointer (some ⟨Bm, 0, none⟩)]) rfl trivial (enters_of Tryd.func102 (by kernel_rfl) rfl)
    hst KeepsWalks.trans (fun W l o o' _ hl _ hw => KeepsWalks.putObj o' hl hw) (Below.refl _ _) (fun _ => rfl)
    (fun pre W => (∃ v, Boxed W w.heap.size 94 v ∧ W.ownsRow w.heap.size 77 8 v pre.length (cellsK pre) ∧ True) ∧ Below w.heap.size w W)
    (fun _ _ _ => False)
    (OwnFrom.and (Own.from (holdsRow_own w.heap.size w.heap.size 94 77 8 (fun pre : List KeyS => pre.length) (fun pre => cellsK pre) (fun pre v => True)) _) (ownFrom_below (Nat.le_refl _) (by simp)))
    (fun _ _ _ _ _ hs _ _ => hs)
    ⟨⟨_, bO, World.ownsRow_nil _ _ _ _, trivial⟩, hB0⟩
    (fun x a' W => ∃ p, a' = { tmps := #[.slice none 0 0, .func (.func 102) #[] #[.pointer (some ⟨Bm, 0, none⟩)], .pointer (some ⟨w.heap.size, 0, none⟩), undef, .slice none 0 0, .pointer (some ⟨p, 0, none⟩), .func (.func 102) #[] #[.pointer (some ⟨Bm, 0, none⟩)], .agg (iv x.1), undef, undef, undef, undef, undef], defers := [] } ∧ HasBlk W p (iv x.1) 77)
    ?ax ?assign ?body ?done ?stop
  case ax =>
    rintro x a' _ A C row ⟨p, e, hp⟩ hg hr
    refine ⟨p, e, HasBlk.kept hp hg (fun e' => ?_)⟩
    obtain ⟨o, ho, hc⟩ := (hr p e').2
    rw [show A.heap[p]? = _ from hp] at ho; cases ho; cases hc
  case assign =>
    rintro l pre ⟨K, hKw⟩ W Q ⟨⟨v, hv, hrow, -⟩, hB⟩ hQ
    obtain ⟨u0, u1, u2, u3, u4, u5, u6, u7, rfl⟩ := eight hKw.1
    have hfin := hQ _ (W.alloc (.cells (iv [u0, u1, u2, u3, u4, u5, u6, u7]) 77)) (KeepsFrom.of_grownBy (World.grownBy_alloc _ _ none) (by simp)) (KeepsWalks.alloc _ _) ⟨⟨v, hv.alloc _, hrow.alloc _, trivial⟩, hB.alloc hB.size _⟩ ⟨W.heap.size, rfl, alloc_new W _⟩
    rw [show iv [u0, u1, u2, u3, u4, u5, u6, u7] = #[.int .i64 u0, .int .i64 u1, .int .i64 u2, .int .i64 u3, .int .i64 u4, .int .i64 u5, .int .i64 u6, .int .i64 u7] from rfl] at hfin
    clear hQ hrow hv hB
    dsimp only [iv]
    gi_wp2
    exact hfin
  case body =>
    rintro l pre ⟨K, hKw⟩ a' W - - ⟨⟨v, hv, hrow, -⟩, hB⟩ ⟨p, rfl, hp⟩ hlt
    obtain ⟨u0, u1, u2, u3, u4, u5, u6, u7, rfl⟩ := eight hKw.1
    rw [show iv [u0, u1, u2, u3, u4, u5, u6, u7] = #[.int .i64 u0, .int .i64 u1, .int .i64 u2, .int .i64 u3, .int .i64 u4, .int .i64 u5, .int .i64 u6, .int .i64 u7] from rfl] at hp
    have hc := hv.cell
    have k0 := blk_cell hp 0
    have k1 := blk_cell hp 1
    have k2 := blk_cell hp 2
    have k3 := blk_cell hp 3
    have k4 := blk_cell hp 4
    have k5 := blk_cell hp 5
    have k6 := blk_cell hp 6
    have k7 := blk_cell hp 7
    have hnews : ∀ j u, [.int .i64 u0, .int .i64 u1, .int .i64 u2, .int .i64 u3, .int .i64 u4, .int .i64 u5, .int .i64 u6, .int .i64 u7][j]? = some u → (W.alloc (.cells #[.int .i64 u0, .int .i64 u1, .int .i64 u2, .int .i64 u3, .int .i64 u4, .int .i64 u5, .int .i64 u6, .int .i64 u7] 77)).cell? ((⟨W.heap.size, 0, none⟩ : Addr).add j) = some u := fun j u hu => by
      rw [show (⟨W.heap.size, 0, none⟩ : Addr).add j = ⟨W.heap.size, j, none⟩ from by simp [Addr.add]; omega]
      exact (blk_cell (alloc_new W (.cells #[.int .i64 u0, .int .i64 u1, .int .i64 u2, .int .i64 u3, .int .i64 u4, .int .i64 u5, .int .i64 u6, .int .i64 u7] 77)) j).trans (by simpa using hu)
    clear hp
    dsimp only [iv]
    gi_wp2_with (gi_at_builtin; refine wpListIn_append_own _ rfl _ _ 94 rfl w.heap.size 77 i0 (.agg (iv z8)) 8 64 underList hi hz0 hz1 hz2 rfl (by decide) _ _ _ rfl (hrow.alloc _) ⟨W.heap.size, 0, none⟩ 1 1 [.int .i64 u0, .int .i64 u1, .int .i64 u2, .int .i64 u3, .int .i64 u4, .int .i64 u5, .int .i64 u6, .int .i64 u7] rfl rfl hnews (by simp [Value.oneCell']) (by simp only [maxLen]; omega) (by omega) (by have := hB.size; simp; omega) ?_; intro v' w1 hown' hgrow _; obtain ⟨g', cap', rfl⟩ := ownsRow_succ hown'; obtain ⟨hv1, hv2, hr2, hk2, hb2⟩ := hv.appended (by decide) hrow hB.size (Nat.le_refl _) hown' hgrow; have hc1 := hv1.cell; have hf1 := hv1.frozen)
    exact ⟨hk2.from _, hk2.walks, ⟨_, hv2, by rw [cellsK_snoc, List.length_append]; exact hr2, trivial⟩, hB.trans hb2⟩
  case done =>
    rintro D ys W hD hys ⟨⟨v, hv, hrow, -⟩, hB⟩ hK
    have hc := hv.cell
    gi_wp2
    refine ⟨by simp, .inl ⟨_, _, rfl, run_takeDeferred hK, ?_⟩⟩
    exact ⟨_, results_tmp rfl _ _ _, v, ys, rfl, hys, ownsRow_putObj hrow _ hK rfl, hB.trans (belowK_b (w := w) (Nat.le_refl _) W D _ _ (by simp at hD; omega) hK rfl rfl)⟩
  case stop =>
    rintro D c pre W _ _ h _
    exact h.elim

end Go.Proofs.YtgpgocijacgkhaaDoor

/- It is proved what the least of the map's keys is when a family is asked about; conditions: those of each statement. -/
namespace Go.Proofs.YtgpgocijacgkhaaDoor
open Go.RowKit Go.Shelf Go.Maps

theorem cellsK_at : ∀ (ys : List KeyS) (i j : Nat), i < ys.length → j < 8 → (cellsK ys)[i * 8 + j]? = some (.int .i64 (((valsK ys)[i]?.getD [])[j]?.getD 0))
  | [], i, j, h, _ => by simp at h
  | y :: ys, 0, j, _, hj => by
    have h1 : (cellsK (y :: ys)) = y.1.map (Value.int .i64) ++ cellsK ys := by simp [cellsK]
    have h8 := y.2.1
    rw [h1, Nat.zero_mul, Nat.zero_add, List.getElem?_append_left (by rw [List.length_map]; omega), List.getElem?_map]
    have : (valsK (y :: ys))[0]?.getD [] = y.1 := by simp [valsK]
    rw [this, List.getElem?_eq_getElem (by omega)]
    rfl
  | y :: ys, i + 1, j, hi, hj => by
    have h1 : (cellsK (y :: ys)) = y.1.map (Value.int .i64) ++ cellsK ys := by simp [cellsK]
    have h8 := y.2.1
    rw [h1, List.getElem?_append_right (by rw [List.length_map]; omega), List.length_map, h8, show (i + 1) * 8 + j - 8 = i * 8 + j from by omega, cellsK_at ys i j (by simpa using hi) hj]
    simp [valsK]

theorem arr_of_row {W : World} {B : Nat} {v : Value} {ys : List KeyS} (h : W.ownsRow B 77 8 v ys.length (cellsK ys)) (hn : 0 < ys.length) : ∃ g c, v = .slice (some ⟨g, 0, none⟩) ys.length c ∧ B ≤ g ∧ g < W.heap.size ∧ Arr8 W g (valsK ys) := by
  obtain ⟨g, c, rfl, -, -⟩ := World.ownsRow.form h hn
  obtain ⟨h1, h2⟩ := World.ownsRow.lt h g rfl
  refine ⟨g, c, rfl, h1, h2, fun i hi => ?_⟩
  have hil : i < ys.length := by simpa [valsK] using hi
  refine ⟨by simp only [valsK]; rw [List.getElem?_map, List.getElem?_eq_getElem hil]; exact ys[i].2.1, fun j hj => ?_⟩
  rw [World.ownsRow.cellAt h (i * 8 + j) (by omega), cellsK_at ys i j hil hj]

theorem ownT_same {W W' : World} {b n : Nat} {D : DataW Unit} (h : OwnT W b n D) (e : W'.heap[b]? = W.heap[b]?) : OwnT W' b n D := by
  obtain ⟨es, clock, hb, Ft, hs, hD⟩ := h
  exact ⟨es, clock, e.trans hb, Ft, hs, hD⟩

set_option maxRecDepth 100000 in
theorem keys_any (b : Nat) (w : World) : Calls Tryd.prog 86 #[.map (some b)] w fun e w' =>
    e = .returned (.func (.func 102) #[] #[.pointer (some ⟨w.heap.size, 0, none⟩)]) ∧ w' = w.alloc (.cells #[.map (some b)] 75) := by
  go_enter Tryd.func86, Tryd.ntmps86
  go_wp2
  go_ret
  exact ⟨rfl, rfl⟩

set_option maxRecDepth 100000 in
set_option maxHeartbeats 1000000 in
theorem collectKeys_any (Bm b nn : Nat) (D0 : DataW Unit) (zs : List Int) (L : List (List Nat)) (hTab : TabD zs D0 L) (hwf : ∀ p ∈ L, WfK (keyL zs (nI p))) (hsz : Maps.size D0 ≤ 100000) (w : World) (hBm : Bm < w.heap.size)
    (hm : w.cell? ⟨Bm, 0, none⟩ = some (.map (some b))) (hown : OwnT w b nn D0) :
    Calls Tryd.prog 85 #[.func (.func 102) #[] #[.pointer (some ⟨Bm, 0, none⟩)]] w fun e w' => ∃ v ys, e = .returned v ∧ CollE D0 (valsK ys) ∧
      w'.ownsRow w.heap.size 77 8 v ys.length (cellsK ys) ∧ Below w.heap.size w w' := by
  have hA := appendKeys_any Bm b nn D0 zs L hTab hwf hsz w hBm hm hown
  clear hm hown
  go_enter Tryd.func85, Tryd.ntmps85
  go_wp2_with (go_at_call 101; refine hA.mono ?_; rintro e w' ⟨v, ys, rfl, hC, ho, hb⟩)
  go_ret
  exact ⟨v, ys, rfl, hC, ho, hb⟩

end Go.Proofs.YtgpgocijacgkhaaDoor

/- It is proved what leastOf returns; conditions: those of each statement. -/
namespace Go.Proofs.YtgpgocijacgkhaaDoor
open Go.RowKit Go.Shelf Go.Maps

/-- The first names that make the least list of a family. -/
def firstN (m : Nat) (zs : List Int) : List Nat := (bestG zs (lvlL m m) ((lvlL m m).length - 1)).2

set_option maxRecDepth 100000 in
set_option maxHeartbeats 4000000 in
theorem leastOf_any (m : Nat) (hm0 : 1 ≤ m) (hm : m ≤ 6) (a : Option Addr) (c : Nat) (zs : List Int) (w : World) (ha : Ints w w.heap.size a zs) (hT : Tab w) (hf : famIn (m : Int) zs = true) (b n0 : Nat) (D0 : DataW Unit) (hb1 : 1 < b) (hown : OwnT w b n0 D0) :
    Calls Tryd.prog 65 #[.map (some b), .agg #[.int .i64 (m : Int), .slice a zs.length c]] w fun e w' => e = .returned (.agg (iv (keyL zs (nI (firstN m zs))))) ∧
      (∃ n D, OwnT w' b n D ∧ TabD zs D (permsL m (List.range m))) ∧ But (fun k => k = b) w w' := by
  have hbw : b < w.heap.size := hown.lt
  obtain ⟨hm1, hm6, hl8, hz4⟩ := famIn_out hf
  have hown2 : OwnT ((w.alloc (.cells #[.int .i64 (m : Int), .slice a zs.length c] 25)).alloc (.cells (iv z8) 77)) b n0 D0 := (hown.alloc _).alloc _
  have hb2 := below2 w (.cells #[.int .i64 (m : Int), .slice a zs.length c] 25) (.cells (iv z8) 77)
  have q0 := alloc2_0 w (.cells #[.int .i64 (m : Int), .slice a zs.length c] 25) (.cells (iv z8) 77)
  have q1 := alloc2_1 w (.cells #[.int .i64 (m : Int), .slice a zs.length c] 25) (.cells (iv z8) 77)
  have hsz2 : ((w.alloc (.cells #[.int .i64 (m : Int), .slice a zs.length c] 25)).alloc (.cells (iv z8) 77)).heap.size = w.heap.size + 1 + 1 := by simp
  obtain ⟨W2, hW2⟩ : ∃ W2, (w.alloc (.cells #[.int .i64 (m : Int), .slice a zs.length c] 25)).alloc (.cells (iv z8) 77) = W2 := ⟨_, rfl⟩
  rw [hW2] at hown2 hb2 q0 q1 hsz2
  have hASK := ask_any m hm0 hm a c zs W2 ((ha.below hb2).mono hb2.size) (hT.below hb2 hT.lt) hf b n0 D0 hb1 hown2
  have hz8 : zs.length ≤ 8 := by omega
  have hz : ∀ z ∈ zs, z.toNat < 2 ^ m := fun z hz => by
    have h1 := hz4 z hz
    have h3 : fullI (m : Int) = ((2 ^ m - 1 : Nat) : Int) := full_nat m
    have h4 : 1 ≤ 2 ^ m := Nat.one_le_two_pow
    omega
  have HWF : Hid (∀ p ∈ permsL m (List.range m), WfK (keyL zs (nI p))) := Lib.hid (fun p hp => by
    rw [← lvlL_perms] at hp
    exact wfK_key hm hz8 hz (okp_nI hm (lvlL_in hp) (lvlL_lt hp)))
  have HLN : Hid ((permsL m (List.range m)).length ≤ 46656 ∧ 0 < (permsL m (List.range m)).length) := Lib.hid (by
    rw [← lvlL_perms]; exact ⟨lvlL_small hm (Nat.le_refl m), lvlL_pos hm⟩)
  have HFN : Hid (keyL zs (nI (firstN m zs)) = keyL zs (nI (bestG zs (permsL m (List.range m)) ((permsL m (List.range m)).length - 1)).2)) := Lib.hid (by rw [firstN, lvlL_perms])
  obtain ⟨n, hn⟩ : ∃ n, n = zs.length := ⟨_, rfl⟩
  have HB2 := Lib.hid hb2
  have HQ1 : Hid (HasBlk W2 (w.heap.size + 1) (iv z8) 77) := Lib.hid q1
  have HS2 := Lib.hid hsz2
  have y0 := (blk_cell q0 0).trans (cell2_0 _ _)
  have y1 := (blk_cell q0 1).trans (cell2_1 _ _)
  rw [show iv z8 = #[.int .i64 0, .int .i64 0, .int .i64 0, .int .i64 0, .int .i64 0, .int .i64 0, .int .i64 0, .int .i64 0] from rfl] at hW2
  rw [← hn] at hW2 hASK y1 ⊢
  clear ha hT hf hb2 q0 q1 hsz2 hown hown2 hz hn hz4
  go_enter Tryd.func65, Tryd.ntmps65
  go_wp2_with fail
  refine hASK.mono ?_
  rintro e w3 ⟨rfl, ⟨n1, D1, hO1, hT1⟩, hb3⟩
  have hbs : w.heap.size + 1 + 1 ≤ w3.heap.size := by have := HS2.out; have := hb3.size; omega
  have q3 : HasBlk w3 (w.heap.size + 1) (iv z8) 77 := hb3.keep (by omega) HQ1.out
  have hbw3 : But (fun k => k = b) w w3 := (But.of_below HB2.out).trans hb3
  have hkey := keys_any b w3
  have hOa : OwnT (w3.alloc (.cells #[.map (some b)] 75)) b n1 D1 := hO1.alloc _
  have hba := below1 w3 (.cells #[.map (some b)] 75)
  have hsa : (w3.alloc (.cells #[.map (some b)] 75)).heap.size = w3.heap.size + 1 := by simp
  have qa : (w3.alloc (.cells #[.map (some b)] 75)).cell? ⟨w3.heap.size, 0, none⟩ = some (.map (some b)) := (blk_cell (alloc_new w3 _) 0).trans (cell1_0 _)
  obtain ⟨wa, hwa⟩ : ∃ wa, wa = w3.alloc (.cells #[.map (some b)] 75) := ⟨_, rfl⟩
  rw [← hwa] at hkey hOa hba hsa qa
  have hcol := collectKeys_any w3.heap.size b n1 D1 zs _ hT1 HWF.out (Nat.le_trans (tab_size hO1 hT1) (Nat.le_trans HLN.out.1 (by decide))) wa (by omega) qa hOa
  have HO1 := Lib.hid hO1
  have HT1 := Lib.hid hT1
  have HB3 := Lib.hid hbw3
  have HQ3 := Lib.hid q3
  have HBA := Lib.hid hba
  clear y0 y1 hW2 hASK hO1 hT1 hb3 q3 hbw3 hOa hba qa hwa
  go_wp2_with fail
  refine hkey.mono ?_
  rintro e w4 ⟨rfl, rfl⟩
  go_wp2_with fail
  refine hcol.mono ?_
  rintro e w5 ⟨v, ys, rfl, hC, ho, hb5⟩
  obtain ⟨hpos, hmin⟩ := min_best HT1.out HLN.out.2 HWF.out hC
  have hlen := coll_len HT1.out HWF.out hC
  obtain ⟨g, gc, rfl, hg1, hg2, hA⟩ := arr_of_row ho hpos
  have hMF := minFunc_any g gc ys.length (valsK ys) w5 (by simp [valsK]) hpos (by have := HLN.out.1; omega) hg2 hA
  rw [hmin, ← HFN.out] at hMF
  obtain ⟨K, hK⟩ : ∃ K, K = keyL zs (nI (firstN m zs)) := ⟨_, rfl⟩
  have hK8 : K.length = 8 := by rw [hK]; exact keyL_len _ _ hz8
  rw [← hK] at hMF
  obtain ⟨v0, v1, v2, v3, v4, v5, v6, v7, rfl⟩ := eight hK8
  rw [show iv [v0, v1, v2, v3, v4, v5, v6, v7] = #[.int .i64 v0, .int .i64 v1, .int .i64 v2, .int .i64 v3, .int .i64 v4, .int .i64 v5, .int .i64 v6, .int .i64 v7] from rfl] at hMF
  have HKV := Lib.hid hK
  obtain ⟨T, hTl⟩ : ∃ T, T = ys.length := ⟨_, rfl⟩
  rw [← hTl] at hMF ⊢
  have hb35 : Below w3.heap.size w3 w5 := HBA.out.trans (hb5.mono (by omega))
  have HB35 := Lib.hid hb35
  clear hC ho hb5 hkey hcol hmin hA hK hK8 hTl hb35
  go_wp2_with fail
  refine hMF.mono ?_
  rintro e w6 ⟨rfl, hb6⟩
  have hb36 : Below w3.heap.size w3 w6 := HB35.out.trans (hb6.mono HB35.out.size)
  have hqr : HasBlk w6 (w.heap.size + 1) (iv z8) 77 := (hb36.block _ (by omega)).trans HQ3.out
  have hqr' := hqr
  rw [show iv z8 = #[.int .i64 0, .int .i64 0, .int .i64 0, .int .i64 0, .int .i64 0, .int .i64 0, .int .i64 0, .int .i64 0] from rfl] at hqr'
  have g0 := blk_cell hqr' 0
  have z0' := blk_frozen hqr 0
  have g1 := blk_cell hqr' 1
  have z1' := blk_frozen hqr 1
  have g2 := blk_cell hqr' 2
  have z2' := blk_frozen hqr 2
  have g3 := blk_cell hqr' 3
  have z3' := blk_frozen hqr 3
  have g4 := blk_cell hqr' 4
  have z4' := blk_frozen hqr 4
  have g5 := blk_cell hqr' 5
  have z5' := blk_frozen hqr 5
  have g6 := blk_cell hqr' 6
  have z6' := blk_frozen hqr 6
  have g7 := blk_cell hqr' 7
  have z7' := blk_frozen hqr 7
  obtain ⟨Wf, hWf, hF, hBf⟩ := store8u (K := z8) rfl hqr v0 v1 v2 v3 v4 v5 v6 v7
  have HWf := Lib.hid hWf
  have h4 := hBf (w.heap.size + 1) (Nat.le_refl _)
  have h13 : But (fun k => k = b) w w6 := HB3.out.trans (But.of_below hb36)
  have HFB : Hid (But (fun k => k = b) w Wf) := Lib.hid ⟨h4.os.trans h13.os, h4.tape.trans h13.tape, h4.output.trans h13.output, Nat.le_trans h13.size h4.size, fun i hi hX => (h4.block i (by omega)).trans (h13.same i hi hX)⟩
  have HOF : Hid (OwnT Wf b n1 D1) := Lib.hid (ownT_same HO1.out ((h4.block b (by omega)).trans (hb36.block b (by omega))))
  have r0 : Wf.cell? ⟨w.heap.size + 1, 0, none⟩ = some (.int .i64 v0) := by have := hF.cell 0 (by simp); simpa using this
  have r1 : Wf.cell? ⟨w.heap.size + 1, 1, none⟩ = some (.int .i64 v1) := by have := hF.cell 1 (by simp); simpa using this
  have r2 : Wf.cell? ⟨w.heap.size + 1, 2, none⟩ = some (.int .i64 v2) := by have := hF.cell 2 (by simp); simpa using this
  have r3 : Wf.cell? ⟨w.heap.size + 1, 3, none⟩ = some (.int .i64 v3) := by have := hF.cell 3 (by simp); simpa using this
  have r4 : Wf.cell? ⟨w.heap.size + 1, 4, none⟩ = some (.int .i64 v4) := by have := hF.cell 4 (by simp); simpa using this
  have r5 : Wf.cell? ⟨w.heap.size + 1, 5, none⟩ = some (.int .i64 v5) := by have := hF.cell 5 (by simp); simpa using this
  have r6 : Wf.cell? ⟨w.heap.size + 1, 6, none⟩ = some (.int .i64 v6) := by have := hF.cell 6 (by simp); simpa using this
  have r7 : Wf.cell? ⟨w.heap.size + 1, 7, none⟩ = some (.int .i64 v7) := by have := hF.cell 7 (by simp); simpa using this
  clear hqr hqr' hb6 hb36 hWf hF hBf h4 h13 hMF
  go_wp2
  rw [HWf.out]
  refine bodyPost_ret (v := .agg #[.int .i64 v0, .int .i64 v1, .int .i64 v2, .int .i64 v3, .int .i64 v4, .int .i64 v5, .int .i64 v6, .int .i64 v7]) (by simp [results, Tryd.results65, go_sem, r0, r1, r2, r3, r4, r5, r6, r7]) rfl ⟨by rw [← HKV.out]; rfl, ⟨_, _, HOF.out, HT1.out⟩, HFB.out⟩

end Go.Proofs.YtgpgocijacgkhaaDoor

/- It is proved which names a map keeps as the first of a list, and that those of the least list are the first names; conditions: those of each statement. -/
namespace Go.Proofs.YtgpgocijacgkhaaDoor
open Go.RowKit Go.Shelf Go.Maps

theorem keyL_lst (zs : List Int) (p : List Nat) : keyL zs (nI p) = lstP zs p ++ List.replicate (8 - zs.length) 0 := rfl
end Go.Proofs.YtgpgocijacgkhaaDoor

/- It is proved when two families are alike, as one value, and that arrays of clubs are compared by their numbers; conditions: those of each statement. -/
namespace Go.Proofs.YtgpgocijacgkhaaDoor
open Go.RowKit Go.Shelf Go.Maps

/-- Two families are alike. -/
def alikeB (m : Int) (zs : List Int) (k : Int) (ys : List Int) : Bool :=
  famIn m zs && (famIn k ys && (decide (m = k) && (decide (zs.length = ys.length) && decide (lstP zs (firstN m.toNat zs) = lstP ys (firstN m.toNat ys)))))

/-- They may be compared. -/
def sizesB (m : Int) (zs : List Int) (k : Int) (ys : List Int) : Bool :=
  famIn m zs && (famIn k ys && (decide (m = k) && decide (zs.length = ys.length)))

theorem alike_eq (m k : Int) (zs ys : List Int) : alikeB m zs k ys = (sizesB m zs k ys && decide (lstP zs (firstN m.toNat zs) = lstP ys (firstN m.toNat ys))) := by
  simp only [alikeB, sizesB, Bool.and_assoc]

theorem alike_no {m k : Int} {zs ys : List Int} (h : sizesB m zs k ys = false) : alikeB m zs k ys = false := by
  rw [alike_eq, h]; rfl

theorem alike_yes {m k : Int} {zs ys : List Int} (h : sizesB m zs k ys = true) : famIn m zs = true ∧ famIn k ys = true ∧ m = k ∧ zs.length = ys.length ∧ alikeB m zs k ys = decide (lstP zs (firstN m.toNat zs) = lstP ys (firstN m.toNat ys)) := by
  have h' := h
  unfold sizesB at h
  simp only [Bool.and_eq_true, decide_eq_true_eq] at h
  obtain ⟨h1, h2, h3, h4⟩ := h
  exact ⟨h1, h2, h3, h4, by rw [alike_eq, h']; rfl⟩

theorem eq_key {L M : List Int} (hL : WfK L) (hM : WfK M) (w : World) : (binOp BinOp.eql 77 (.agg (iv L)) (.agg (iv M))).run Tryd.prog w = .ok (.bool (decide (L = M))) w := by
  obtain ⟨r, hr, hiff⟩ := run_equal_deep (P := Tryd.prog) w (m := 2) (by omega) (k := 77) (by kernel_rfl) (by kernel_rfl) (keyLit_key hL) (keyLit_key hM)
  have hd : r = decide (L = M) := by
    by_cases h : L = M
    · subst h
      rw [decide_eq_true rfl]
      exact hiff.2 rfl
    · rw [decide_eq_false h]
      cases r
      · rfl
      · exact absurd (keyLit_inj hL hM (hiff.1 rfl)) h
  subst hd
  simp [binOp, hr, go_sem]

theorem wfK_first {k : Nat} (hk : k ≤ 6) {zs : List Int} (hf : famIn (k : Int) zs = true) : WfK (keyL zs (nI (firstN k zs))) := by
  obtain ⟨h1, h2, h3, h4⟩ := famIn_out hf
  have hp : firstN k zs ∈ lvlL k k := bestG_in zs (lvlL k k) _ (by have := lvlL_pos hk; omega)
  refine wfK_key hk h3 (fun z hz => ?_) (okp_nI hk (lvlL_in hp) (fun v hv => lvlL_lt hp v hv))
  have h5 := h4 z hz
  have h6 : fullI (k : Int) = ((2 ^ k - 1 : Nat) : Int) := full_nat k
  have h7 : 1 ≤ 2 ^ k := Nat.one_le_two_pow
  omega

theorem lst_eq {zs ys : List Int} {p q : List Nat} (h : zs.length = ys.length) : (keyL zs (nI p) = keyL ys (nI q)) ↔ lstP zs p = lstP ys q := by
  rw [keyL_lst, keyL_lst, h]
  constructor
  · intro e
    exact (List.append_inj e (by rw [lstP_len, lstP_len, h])).1
  · intro e
    rw [e]

end Go.Proofs.YtgpgocijacgkhaaDoor
