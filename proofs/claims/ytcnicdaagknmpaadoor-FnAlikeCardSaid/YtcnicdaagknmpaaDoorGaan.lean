/- It is proved what slices.AppendSeq of the map's keys returns; conditions: those of each statement. -/
import Derived.RowKit
import Derived.Laws.CopyRow
import Derived.Lib.SlBuf
import Derived.Deep.QuietTactic
import Derived.RangeFuncNested
import Derived.RangeFuncBound
import Derived.RangeFuncCalls
import Derived.RangeFuncLeaves
import Derived.RangeFuncBox
import Derived.RangeFuncWrites
import Derived.StillTailTactics
import Derived.Maps.OwnIn
import Derived.Maps.Ext
import Derived.DeepKeys4
import Derived.MapKept
import Derived.Test.YtcnicdaagknmpaaDoorRows
import Derived.WalkKit
import Derived.WalkSpells
import Derived.ProofKit
import Derived.OpenShut
import Derived.ShutString
import Derived.ChangeOld
import Derived.Below
import Derived.Deep.RegionHeld3
import Derived.BigQuiet
import Derived.Lib.Hide
import Derived.Lib.SmallJoins
import Derived.Outline
import Derived.Laws.MakeOwn
import Derived.Laws.OwnMore
import Derived.IntWalk
import Derived.Sort.MapsRangeIn
import Derived.Lib.AppendZeros
import Derived.Maps.AppendAt
import Derived.Deep.AppendLies
import Derived.OwnWalk
import Derived.Lib.SlicesCompact
import Derived.Lib.OwnBridge
import Derived.OrdersIn
import Derived.TacticsIn
import Derived.Shelf.Sort.Plain
import Derived.Shelf.Slices.In.SortNone
import Derived.Shelf.Slices.CompactI
import Derived.Ground.Names2Prog
import Derived.Shelf.Abstract
import Derived.Shelf.RegionOpen
import Derived.OwnWalkIn
import Derived.TacticsInMore
import Derived.LoopNIn
import Derived.LoopIn
import Derived.StillTail
import Derived.StillTactics
import Derived.Shelf.Spec.TrailingZeros
import Derived.Test.YtcnicdaagknmpaaDoorGaad
import Derived.Test.YtcnicdaagknmpaaDoorGaae
import Derived.Test.YtcnicdaagknmpaaDoorGaaj
import Derived.Test.YtcnicdaagknmpaaDoorGaah
import Derived.Test.YtcnicdaagknmpaaDoorGaal
import Derived.Test.YtcnicdaagknmpaaDoorGaam
import Derived.Test.YtcnicdaagknmpaaDoorGaaa
import Derived.Test.YtcnicdaagknmpaaDoorGaab
import Derived.Test.YtcnicdaagknmpaaDoorGaaf
import Derived.Test.YtcnicdaagknmpaaDoorGaag
import Derived.Test.YtcnicdaagknmpaaDoorGaac
namespace Go.Proofs.YtcnicdaagknmpaaDoor
open Go.RowKit Go.Shelf Go.Maps

theorem Tryd.infoList : (Tryd.prog.info? 47).map (fun i => (i.zero, i.size, i.bytes)) = some (some (.agg (iv z8)), 8, 64) := by kernel_rfl
theorem underList : Tryd.prog.underlying 68 = some (.slice 47) := by kernel_rfl
def cellsK (ys : List KeyS) : List Value := ys.flatMap fun y => y.1.map (Value.int .i64)
theorem cellsK_snoc (ys : List KeyS) (y : KeyS) : cellsK (ys ++ [y]) = cellsK ys ++ y.1.map (Value.int .i64) := by simp [cellsK]
attribute [local go_sem] Oper.semAt_some

set_option maxRecDepth 100000 in
set_option maxHeartbeats 4000000 in
theorem appendKeys_any (Bm b nn : Nat) (D0 : DataW Unit) (zs : List Int) (L : List (List Nat)) (hTab : TabD zs D0 L) (hwf : ∀ p ∈ L, WfK (keyL zs (nI p))) (hsz : Maps.size D0 ≤ 100000) (w : World) (hBm : Bm < w.heap.size)
    (hm : w.cell? ⟨Bm, 0, none⟩ = some (.map (some b))) (hown : OwnT w b nn D0) :
    Calls Tryd.prog 53 #[.slice none 0 0, .func (.func 54) #[] #[.pointer (some ⟨Bm, 0, none⟩)]] w fun e w' => ∃ v ys, e = .returned v ∧ CollE D0 (valsK ys) ∧
      w'.ownsRow w.heap.size 47 8 v ys.length (cellsK ys) ∧ Below w.heap.size w w' := by
  obtain ⟨i0, hi, hz0, hz1, hz2⟩ := info_parts Tryd.infoList
  have h16 : 1 ≤ 6 := by omega
  have bO := Boxed.new w 68 (.slice none 0 0)
  have hB0 : Below w.heap.size w (w.alloc (.cells #[.slice none 0 0] 68)) := below1 w _
  have hown1 : OwnT (w.alloc (.cells #[.slice none 0 0] 68)) b nn D0 := hown.alloc _
  have hst := keysK_stops (6 - 1) (by omega) Bm b nn D0 zs L hTab hwf (w.alloc (.cells #[.slice none 0 0] 68)) (by simp; omega) ((hB0.cell (p := ⟨Bm, 0, none⟩) hBm).trans hm) hown1
  refine (callsIn_wide (n := 6)).1 ?_
  refine callsIn_of_wp_marks Tryd.func53 rfl trivial ?_ rfl
  simp only [Tryd.ntmps53, List.size_toArray, List.length_cons, List.length_nil, Nat.reduceAdd, Nat.reduceSub, Array.replicate_succ, Array.replicate_zero, List.push_toArray, List.append_toArray, List.nil_append, List.cons_append]
  clear hm hown hown1
  gi_wp2
  refine wpIn_rangeFunc_ownH rfl h16 (gf := 54) (lb := #[.pointer (some ⟨Bm, 0, none⟩)]) rfl trivial (enters_of Tryd.func54 (by kernel_rfl) rfl)
    hst KeepsWalks.trans (fun W l o o' _ hl _ hw => KeepsWalks.putObj o' hl hw) (Below.refl _ _) (fun _ => rfl)
    (fun pre W => (∃ v, Boxed W w.heap.size 68 v ∧ W.ownsRow w.heap.size 47 8 v pre.length (cellsK pre) ∧ True) ∧ Below w.heap.size w W)
    (fun _ _ _ => False)
    (OwnFrom.and (Own.from (holdsRow_own w.heap.size w.heap.size 68 47 8 (fun pre : List KeyS => pre.length) (fun pre => cellsK pre) (fun pre v => True)) _) (ownFrom_below (Nat.le_refl _) (by simp)))
    (fun _ _ _ _ _ hs _ _ => hs)
    ⟨⟨_, bO, World.ownsRow_nil _ _ _ _, trivial⟩, hB0⟩
    (fun x a' W => ∃ p, a' = { tmps := #[.slice none 0 0, .func (.func 54) #[] #[.pointer (some ⟨Bm, 0, none⟩)], .pointer (some ⟨w.heap.size, 0, none⟩), undef, .slice none 0 0, .pointer (some ⟨p, 0, none⟩), .func (.func 54) #[] #[.pointer (some ⟨Bm, 0, none⟩)], .agg (iv x.1), undef, undef, undef, undef, undef], defers := [] } ∧ HasBlk W p (iv x.1) 47)
    ?ax ?assign ?body ?done ?stop
  case ax =>
    rintro x a' _ A C row ⟨p, e, hp⟩ hg hr
    refine ⟨p, e, HasBlk.kept hp hg (fun e' => ?_)⟩
    obtain ⟨o, ho, hc⟩ := (hr p e').2
    rw [show A.heap[p]? = _ from hp] at ho; cases ho; cases hc
  case assign =>
    rintro l pre ⟨K, hKw⟩ W Q ⟨⟨v, hv, hrow, -⟩, hB⟩ hQ
    obtain ⟨u0, u1, u2, u3, u4, u5, u6, u7, rfl⟩ := eight hKw.1
    have hfin := hQ _ (W.alloc (.cells (iv [u0, u1, u2, u3, u4, u5, u6, u7]) 47)) (KeepsFrom.of_grownBy (World.grownBy_alloc _ _ none) (by simp)) (KeepsWalks.alloc _ _) ⟨⟨v, hv.alloc _, hrow.alloc _, trivial⟩, hB.alloc hB.size _⟩ ⟨W.heap.size, rfl, alloc_new W _⟩
    rw [show iv [u0, u1, u2, u3, u4, u5, u6, u7] = #[.int .i64 u0, .int .i64 u1, .int .i64 u2, .int .i64 u3, .int .i64 u4, .int .i64 u5, .int .i64 u6, .int .i64 u7] from rfl] at hfin
    clear hQ hrow hv hB
    dsimp only [iv]
    gi_wp2
    exact hfin
  case body =>
    rintro l pre ⟨K, hKw⟩ a' W - - ⟨⟨v, hv, hrow, -⟩, hB⟩ ⟨p, rfl, hp⟩ hlt
    obtain ⟨u0, u1, u2, u3, u4, u5, u6, u7, rfl⟩ := eight hKw.1
    rw [show iv [u0, u1, u2, u3, u4, u5, u6, u7] = #[.int .i64 u0, .int .i64 u1, .int .i64 u2, .int .i64 u3, .int .i64 u4, .int .i64 u5, .int .i64 u6, .int .i64 u7] from rfl] at hp
    have hc := hv.cell
    have k0 := blk_cell hp 0
    have k1 := blk_cell hp 1
    have k2 := blk_cell hp 2
    have k3 := blk_cell hp 3
    have k4 := blk_cell hp 4
    have k5 := blk_cell hp 5
    have k6 := blk_cell hp 6
    have k7 := blk_cell hp 7
    have hnews : ∀ j u, [.int .i64 u0, .int .i64 u1, .int .i64 u2, .int .i64 u3, .int .i64 u4, .int .i64 u5, .int .i64 u6, .int .i64 u7][j]? = some u → (W.alloc (.cells #[.int .i64 u0, .int .i64 u1, .int .i64 u2, .int .i64 u3, .int .i64 u4, .int .i64 u5, .int .i64 u6, .int .i64 u7] 47)).cell? ((⟨W.heap.size, 0, none⟩ : Addr).add j) = some u := fun j u hu => by
      rw [show (⟨W.heap.size, 0, none⟩ : Addr).add j = ⟨W.heap.size, j, none⟩ from by simp [Addr.add]; omega]
      exact (blk_cell (alloc_new W (.cells #[.int .i64 u0, .int .i64 u1, .int .i64 u2, .int .i64 u3, .int .i64 u4, .int .i64 u5, .int .i64 u6, .int .i64 u7] 47)) j).trans (by simpa using hu)
    clear hp
    dsimp only [iv]
    gi_wp2_with (gi_at_builtin; refine wpListIn_append_own _ rfl _ _ 68 rfl w.heap.size 47 i0 (.agg (iv z8)) 8 64 underList hi hz0 hz1 hz2 rfl (by decide) _ _ _ rfl (hrow.alloc _) ⟨W.heap.size, 0, none⟩ 1 1 [.int .i64 u0, .int .i64 u1, .int .i64 u2, .int .i64 u3, .int .i64 u4, .int .i64 u5, .int .i64 u6, .int .i64 u7] rfl rfl hnews (by simp [Value.oneCell']) (by simp only [maxLen]; omega) (by omega) (by have := hB.size; simp; omega) ?_; intro v' w1 hown' hgrow _; obtain ⟨g', cap', rfl⟩ := ownsRow_succ hown'; obtain ⟨hv1, hv2, hr2, hk2, hb2⟩ := hv.appended (by decide) hrow hB.size (Nat.le_refl _) hown' hgrow; have hc1 := hv1.cell; have hf1 := hv1.frozen)
    exact ⟨hk2.from _, hk2.walks, ⟨_, hv2, by rw [cellsK_snoc, List.length_append]; exact hr2, trivial⟩, hB.trans hb2⟩
  case done =>
    rintro D ys W hD hys ⟨⟨v, hv, hrow, -⟩, hB⟩ hK
    have hc := hv.cell
    gi_wp2
    refine ⟨by simp, .inl ⟨_, _, rfl, run_takeDeferred hK, ?_⟩⟩
    exact ⟨_, results_tmp rfl _ _ _, v, ys, rfl, hys, ownsRow_putObj hrow _ hK rfl, hB.trans (belowK_b (w := w) (Nat.le_refl _) W D _ _ (by simp at hD; omega) hK rfl rfl)⟩
  case stop =>
    rintro D c pre W _ _ h _
    exact h.elim

end Go.Proofs.YtcnicdaagknmpaaDoor

/- It is proved what the least of the map's keys is when a family is asked about; conditions: those of each statement. -/
namespace Go.Proofs.YtcnicdaagknmpaaDoor
open Go.RowKit Go.Shelf Go.Maps

theorem cellsK_at : ∀ (ys : List KeyS) (i j : Nat), i < ys.length → j < 8 → (cellsK ys)[i * 8 + j]? = some (.int .i64 (((valsK ys)[i]?.getD [])[j]?.getD 0))
  | [], i, j, h, _ => by simp at h
  | y :: ys, 0, j, _, hj => by
    have h1 : (cellsK (y :: ys)) = y.1.map (Value.int .i64) ++ cellsK ys := by simp [cellsK]
    have h8 := y.2.1
    rw [h1, Nat.zero_mul, Nat.zero_add, List.getElem?_append_left (by rw [List.length_map]; omega), List.getElem?_map]
    have : (valsK (y :: ys))[0]?.getD [] = y.1 := by simp [valsK]
    rw [this, List.getElem?_eq_getElem (by omega)]
    rfl
  | y :: ys, i + 1, j, hi, hj => by
    have h1 : (cellsK (y :: ys)) = y.1.map (Value.int .i64) ++ cellsK ys := by simp [cellsK]
    have h8 := y.2.1
    rw [h1, List.getElem?_append_right (by rw [List.length_map]; omega), List.length_map, h8, show (i + 1) * 8 + j - 8 = i * 8 + j from by omega, cellsK_at ys i j (by simpa using hi) hj]
    simp [valsK]

theorem arr_of_row {W : World} {B : Nat} {v : Value} {ys : List KeyS} (h : W.ownsRow B 47 8 v ys.length (cellsK ys)) (hn : 0 < ys.length) : ∃ g c, v = .slice (some ⟨g, 0, none⟩) ys.length c ∧ B ≤ g ∧ g < W.heap.size ∧ Arr8 W g (valsK ys) := by
  obtain ⟨g, c, rfl, -, -⟩ := World.ownsRow.form h hn
  obtain ⟨h1, h2⟩ := World.ownsRow.lt h g rfl
  refine ⟨g, c, rfl, h1, h2, fun i hi => ?_⟩
  have hil : i < ys.length := by simpa [valsK] using hi
  refine ⟨by simp only [valsK]; rw [List.getElem?_map, List.getElem?_eq_getElem hil]; exact ys[i].2.1, fun j hj => ?_⟩
  rw [World.ownsRow.cellAt h (i * 8 + j) (by omega), cellsK_at ys i j hil hj]

theorem ownT_same {W W' : World} {b n : Nat} {D : DataW Unit} (h : OwnT W b n D) (e : W'.heap[b]? = W.heap[b]?) : OwnT W' b n D := by
  obtain ⟨es, clock, hb, Ft, hs, hD⟩ := h
  exact ⟨es, clock, e.trans hb, Ft, hs, hD⟩

set_option maxRecDepth 100000 in
theorem keys_any (b : Nat) (w : World) : Calls Tryd.prog 34 #[.map (some b)] w fun e w' =>
    e = .returned (.func (.func 54) #[] #[.pointer (some ⟨w.heap.size, 0, none⟩)]) ∧ w' = w.alloc (.cells #[.map (some b)] 45) := by
  go_enter Tryd.func34, Tryd.ntmps34
  go_wp2
  go_ret
  exact ⟨rfl, rfl⟩

set_option maxRecDepth 100000 in
set_option maxHeartbeats 1000000 in
theorem collectKeys_any (Bm b nn : Nat) (D0 : DataW Unit) (zs : List Int) (L : List (List Nat)) (hTab : TabD zs D0 L) (hwf : ∀ p ∈ L, WfK (keyL zs (nI p))) (hsz : Maps.size D0 ≤ 100000) (w : World) (hBm : Bm < w.heap.size)
    (hm : w.cell? ⟨Bm, 0, none⟩ = some (.map (some b))) (hown : OwnT w b nn D0) :
    Calls Tryd.prog 33 #[.func (.func 54) #[] #[.pointer (some ⟨Bm, 0, none⟩)]] w fun e w' => ∃ v ys, e = .returned v ∧ CollE D0 (valsK ys) ∧
      w'.ownsRow w.heap.size 47 8 v ys.length (cellsK ys) ∧ Below w.heap.size w w' := by
  have hA := appendKeys_any Bm b nn D0 zs L hTab hwf hsz w hBm hm hown
  clear hm hown
  go_enter Tryd.func33, Tryd.ntmps33
  go_wp2_with (go_at_call 53; refine hA.mono ?_; rintro e w' ⟨v, ys, rfl, hC, ho, hb⟩)
  go_ret
  exact ⟨v, ys, rfl, hC, ho, hb⟩

end Go.Proofs.YtcnicdaagknmpaaDoor

/- It is proved what leastOf returns; conditions: those of each statement. -/
namespace Go.Proofs.YtcnicdaagknmpaaDoor
open Go.RowKit Go.Shelf Go.Maps

/-- The first names that make the least list of a family. -/
def firstN (m : Nat) (zs : List Int) : List Nat := (bestG zs (lvlL m m) ((lvlL m m).length - 1)).2

set_option maxRecDepth 100000 in
set_option maxHeartbeats 4000000 in
theorem leastOf_any (m : Nat) (hm0 : 1 ≤ m) (hm : m ≤ 6) (a : Option Addr) (c : Nat) (zs : List Int) (w : World) (ha : Ints w w.heap.size a zs) (hT : Tab w) (hf : famIn (m : Int) zs = true) (b n0 : Nat) (D0 : DataW Unit) (hb1 : 1 < b) (hown : OwnT w b n0 D0) :
    Calls Tryd.prog 19 #[.map (some b), .agg #[.int .i64 (m : Int), .slice a zs.length c]] w fun e w' => e = .returned (.agg (iv (keyL zs (nI (firstN m zs))))) ∧
      (∃ n D, OwnT w' b n D ∧ TabD zs D (permsL m (List.range m))) ∧ But (fun k => k = b) w w' := by
  have hbw : b < w.heap.size := hown.lt
  obtain ⟨hm1, hm6, hl8, hz4⟩ := famIn_out hf
  have hown2 : OwnT ((w.alloc (.cells #[.int .i64 (m : Int), .slice a zs.length c] 25)).alloc (.cells (iv z8) 47)) b n0 D0 := (hown.alloc _).alloc _
  have hb2 := below2 w (.cells #[.int .i64 (m : Int), .slice a zs.length c] 25) (.cells (iv z8) 47)
  have q0 := alloc2_0 w (.cells #[.int .i64 (m : Int), .slice a zs.length c] 25) (.cells (iv z8) 47)
  have q1 := alloc2_1 w (.cells #[.int .i64 (m : Int), .slice a zs.length c] 25) (.cells (iv z8) 47)
  have hsz2 : ((w.alloc (.cells #[.int .i64 (m : Int), .slice a zs.length c] 25)).alloc (.cells (iv z8) 47)).heap.size = w.heap.size + 1 + 1 := by simp
  obtain ⟨W2, hW2⟩ : ∃ W2, (w.alloc (.cells #[.int .i64 (m : Int), .slice a zs.length c] 25)).alloc (.cells (iv z8) 47) = W2 := ⟨_, rfl⟩
  rw [hW2] at hown2 hb2 q0 q1 hsz2
  have hASK := ask_any m hm0 hm a c zs W2 ((ha.below hb2).mono hb2.size) (hT.below hb2 hT.lt) hf b n0 D0 hb1 hown2
  have hz8 : zs.length ≤ 8 := by omega
  have hz : ∀ z ∈ zs, z.toNat < 2 ^ m := fun z hz => by
    have h1 := hz4 z hz
    have h3 : fullI (m : Int) = ((2 ^ m - 1 : Nat) : Int) := full_nat m
    have h4 : 1 ≤ 2 ^ m := Nat.one_le_two_pow
    omega
  have HWF : Hid (∀ p ∈ permsL m (List.range m), WfK (keyL zs (nI p))) := Lib.hid (fun p hp => by
    rw [← lvlL_perms] at hp
    exact wfK_key hm hz8 hz (okp_nI hm (lvlL_in hp) (lvlL_lt hp)))
  have HLN : Hid ((permsL m (List.range m)).length ≤ 46656 ∧ 0 < (permsL m (List.range m)).length) := Lib.hid (by
    rw [← lvlL_perms]; exact ⟨lvlL_small hm (Nat.le_refl m), lvlL_pos hm⟩)
  have HFN : Hid (keyL zs (nI (firstN m zs)) = keyL zs (nI (bestG zs (permsL m (List.range m)) ((permsL m (List.range m)).length - 1)).2)) := Lib.hid (by rw [firstN, lvlL_perms])
  obtain ⟨n, hn⟩ : ∃ n, n = zs.length := ⟨_, rfl⟩
  have HB2 := Lib.hid hb2
  have HQ1 : Hid (HasBlk W2 (w.heap.size + 1) (iv z8) 47) := Lib.hid q1
  have HS2 := Lib.hid hsz2
  have y0 := (blk_cell q0 0).trans (cell2_0 _ _)
  have y1 := (blk_cell q0 1).trans (cell2_1 _ _)
  rw [show iv z8 = #[.int .i64 0, .int .i64 0, .int .i64 0, .int .i64 0, .int .i64 0, .int .i64 0, .int .i64 0, .int .i64 0] from rfl] at hW2
  rw [← hn] at hW2 hASK y1 ⊢
  clear ha hT hf hb2 q0 q1 hsz2 hown hown2 hz hn hz4
  go_enter Tryd.func19, Tryd.ntmps19
  go_wp2_with fail
  refine hASK.mono ?_
  rintro e w3 ⟨rfl, ⟨n1, D1, hO1, hT1⟩, hb3⟩
  have hbs : w.heap.size + 1 + 1 ≤ w3.heap.size := by have := HS2.out; have := hb3.size; omega
  have q3 : HasBlk w3 (w.heap.size + 1) (iv z8) 47 := hb3.keep (by omega) HQ1.out
  have hbw3 : But (fun k => k = b) w w3 := (But.of_below HB2.out).trans hb3
  have hkey := keys_any b w3
  have hOa : OwnT (w3.alloc (.cells #[.map (some b)] 45)) b n1 D1 := hO1.alloc _
  have hba := below1 w3 (.cells #[.map (some b)] 45)
  have hsa : (w3.alloc (.cells #[.map (some b)] 45)).heap.size = w3.heap.size + 1 := by simp
  have qa : (w3.alloc (.cells #[.map (some b)] 45)).cell? ⟨w3.heap.size, 0, none⟩ = some (.map (some b)) := (blk_cell (alloc_new w3 _) 0).trans (cell1_0 _)
  obtain ⟨wa, hwa⟩ : ∃ wa, wa = w3.alloc (.cells #[.map (some b)] 45) := ⟨_, rfl⟩
  rw [← hwa] at hkey hOa hba hsa qa
  have hcol := collectKeys_any w3.heap.size b n1 D1 zs _ hT1 HWF.out (Nat.le_trans (tab_size hO1 hT1) (Nat.le_trans HLN.out.1 (by decide))) wa (by omega) qa hOa
  have HO1 := Lib.hid hO1
  have HT1 := Lib.hid hT1
  have HB3 := Lib.hid hbw3
  have HQ3 := Lib.hid q3
  have HBA := Lib.hid hba
  clear y0 y1 hW2 hASK hO1 hT1 hb3 q3 hbw3 hOa hba qa hwa
  go_wp2_with fail
  refine hkey.mono ?_
  rintro e w4 ⟨rfl, rfl⟩
  go_wp2_with fail
  refine hcol.mono ?_
  rintro e w5 ⟨v, ys, rfl, hC, ho, hb5⟩
  obtain ⟨hpos, hmin⟩ := min_best HT1.out HLN.out.2 HWF.out hC
  have hlen := coll_len HT1.out HWF.out hC
  obtain ⟨g, gc, rfl, hg1, hg2, hA⟩ := arr_of_row ho hpos
  have hMF := minFunc_any g gc ys.length (valsK ys) w5 (by simp [valsK]) hpos (by have := HLN.out.1; omega) hg2 hA
  rw [hmin, ← HFN.out] at hMF
  obtain ⟨K, hK⟩ : ∃ K, K = keyL zs (nI (firstN m zs)) := ⟨_, rfl⟩
  have hK8 : K.length = 8 := by rw [hK]; exact keyL_len _ _ hz8
  rw [← hK] at hMF
  obtain ⟨v0, v1, v2, v3, v4, v5, v6, v7, rfl⟩ := eight hK8
  rw [show iv [v0, v1, v2, v3, v4, v5, v6, v7] = #[.int .i64 v0, .int .i64 v1, .int .i64 v2, .int .i64 v3, .int .i64 v4, .int .i64 v5, .int .i64 v6, .int .i64 v7] from rfl] at hMF
  have HKV := Lib.hid hK
  obtain ⟨T, hTl⟩ : ∃ T, T = ys.length := ⟨_, rfl⟩
  rw [← hTl] at hMF ⊢
  have hb35 : Below w3.heap.size w3 w5 := HBA.out.trans (hb5.mono (by omega))
  have HB35 := Lib.hid hb35
  clear hC ho hb5 hkey hcol hmin hA hK hK8 hTl hb35
  go_wp2_with fail
  refine hMF.mono ?_
  rintro e w6 ⟨rfl, hb6⟩
  have hb36 : Below w3.heap.size w3 w6 := HB35.out.trans (hb6.mono HB35.out.size)
  have hqr : HasBlk w6 (w.heap.size + 1) (iv z8) 47 := (hb36.block _ (by omega)).trans HQ3.out
  have hqr' := hqr
  rw [show iv z8 = #[.int .i64 0, .int .i64 0, .int .i64 0, .int .i64 0, .int .i64 0, .int .i64 0, .int .i64 0, .int .i64 0] from rfl] at hqr'
  have g0 := blk_cell hqr' 0
  have z0' := blk_frozen hqr 0
  have g1 := blk_cell hqr' 1
  have z1' := blk_frozen hqr 1
  have g2 := blk_cell hqr' 2
  have z2' := blk_frozen hqr 2
  have g3 := blk_cell hqr' 3
  have z3' := blk_frozen hqr 3
  have g4 := blk_cell hqr' 4
  have z4' := blk_frozen hqr 4
  have g5 := blk_cell hqr' 5
  have z5' := blk_frozen hqr 5
  have g6 := blk_cell hqr' 6
  have z6' := blk_frozen hqr 6
  have g7 := blk_cell hqr' 7
  have z7' := blk_frozen hqr 7
  obtain ⟨Wf, hWf, hF, hBf⟩ := store8u (K := z8) rfl hqr v0 v1 v2 v3 v4 v5 v6 v7
  have HWf := Lib.hid hWf
  have h4 := hBf (w.heap.size + 1) (Nat.le_refl _)
  have h13 : But (fun k => k = b) w w6 := HB3.out.trans (But.of_below hb36)
  have HFB : Hid (But (fun k => k = b) w Wf) := Lib.hid ⟨h4.os.trans h13.os, h4.tape.trans h13.tape, h4.output.trans h13.output, Nat.le_trans h13.size h4.size, fun i hi hX => (h4.block i (by omega)).trans (h13.same i hi hX)⟩
  have HOF : Hid (OwnT Wf b n1 D1) := Lib.hid (ownT_same HO1.out ((h4.block b (by omega)).trans (hb36.block b (by omega))))
  have r0 : Wf.cell? ⟨w.heap.size + 1, 0, none⟩ = some (.int .i64 v0) := by have := hF.cell 0 (by simp); simpa using this
  have r1 : Wf.cell? ⟨w.heap.size + 1, 1, none⟩ = some (.int .i64 v1) := by have := hF.cell 1 (by simp); simpa using this
  have r2 : Wf.cell? ⟨w.heap.size + 1, 2, none⟩ = some (.int .i64 v2) := by have := hF.cell 2 (by simp); simpa using this
  have r3 : Wf.cell? ⟨w.heap.size + 1, 3, none⟩ = some (.int .i64 v3) := by have := hF.cell 3 (by simp); simpa using this
  have r4 : Wf.cell? ⟨w.heap.size + 1, 4, none⟩ = some (.int .i64 v4) := by have := hF.cell 4 (by simp); simpa using this
  have r5 : Wf.cell? ⟨w.heap.size + 1, 5, none⟩ = some (.int .i64 v5) := by have := hF.cell 5 (by simp); simpa using this
  have r6 : Wf.cell? ⟨w.heap.size + 1, 6, none⟩ = some (.int .i64 v6) := by have := hF.cell 6 (by simp); simpa using this
  have r7 : Wf.cell? ⟨w.heap.size + 1, 7, none⟩ = some (.int .i64 v7) := by have := hF.cell 7 (by simp); simpa using this
  clear hqr hqr' hb6 hb36 hWf hF hBf h4 h13 hMF
  go_wp2
  rw [HWf.out]
  refine bodyPost_ret (v := .agg #[.int .i64 v0, .int .i64 v1, .int .i64 v2, .int .i64 v3, .int .i64 v4, .int .i64 v5, .int .i64 v6, .int .i64 v7]) (by simp [results, Tryd.results19, go_sem, r0, r1, r2, r3, r4, r5, r6, r7]) rfl ⟨by rw [← HKV.out]; rfl, ⟨_, _, HOF.out, HT1.out⟩, HFB.out⟩

end Go.Proofs.YtcnicdaagknmpaaDoor

/- It is proved which names a map keeps as the first of a list, and that those of the least list are the first names; conditions: those of each statement. -/
namespace Go.Proofs.YtcnicdaagknmpaaDoor
open Go.RowKit Go.Shelf Go.Maps

theorem keyL_lst (zs : List Int) (p : List Nat) : keyL zs (nI p) = lstP zs p ++ List.replicate (8 - zs.length) 0 := rfl
end Go.Proofs.YtcnicdaagknmpaaDoor

/- It is proved when two families are alike, as one value, and that arrays of clubs are compared by their numbers; conditions: those of each statement. -/
namespace Go.Proofs.YtcnicdaagknmpaaDoor
open Go.RowKit Go.Shelf Go.Maps

/-- Two families are alike. -/
def alikeB (m : Int) (zs : List Int) (k : Int) (ys : List Int) : Bool :=
  famIn m zs && (famIn k ys && (decide (m = k) && (decide (zs.length = ys.length) && decide (lstP zs (firstN m.toNat zs) = lstP ys (firstN m.toNat ys)))))

/-- They may be compared. -/
def sizesB (m : Int) (zs : List Int) (k : Int) (ys : List Int) : Bool :=
  famIn m zs && (famIn k ys && (decide (m = k) && decide (zs.length = ys.length)))

theorem alike_eq (m k : Int) (zs ys : List Int) : alikeB m zs k ys = (sizesB m zs k ys && decide (lstP zs (firstN m.toNat zs) = lstP ys (firstN m.toNat ys))) := by
  simp only [alikeB, sizesB, Bool.and_assoc]

theorem alike_no {m k : Int} {zs ys : List Int} (h : sizesB m zs k ys = false) : alikeB m zs k ys = false := by
  rw [alike_eq, h]; rfl

theorem alike_yes {m k : Int} {zs ys : List Int} (h : sizesB m zs k ys = true) : famIn m zs = true ∧ famIn k ys = true ∧ m = k ∧ zs.length = ys.length ∧ alikeB m zs k ys = decide (lstP zs (firstN m.toNat zs) = lstP ys (firstN m.toNat ys)) := by
  have h' := h
  unfold sizesB at h
  simp only [Bool.and_eq_true, decide_eq_true_eq] at h
  obtain ⟨h1, h2, h3, h4⟩ := h
  exact ⟨h1, h2, h3, h4, by rw [alike_eq, h']; rfl⟩

theorem eq_key {L M : List Int} (hL : WfK L) (hM : WfK M) (w : World) : (binOp BinOp.eql 47 (.agg (iv L)) (.agg (iv M))).run Tryd.prog w = .ok (.bool (decide (L = M))) w := by
  obtain ⟨r, hr, hiff⟩ := run_equal_deep (P := Tryd.prog) w (m := 2) (by omega) (k := 47) (by kernel_rfl) (by kernel_rfl) (keyLit_key hL) (keyLit_key hM)
  have hd : r = decide (L = M) := by
    by_cases h : L = M
    · subst h
      rw [decide_eq_true rfl]
      exact hiff.2 rfl
    · rw [decide_eq_false h]
      cases r
      · rfl
      · exact absurd (keyLit_inj hL hM (hiff.1 rfl)) h
  subst hd
  simp [binOp, hr, go_sem]

theorem wfK_first {k : Nat} (hk : k ≤ 6) {zs : List Int} (hf : famIn (k : Int) zs = true) : WfK (keyL zs (nI (firstN k zs))) := by
  obtain ⟨h1, h2, h3, h4⟩ := famIn_out hf
  have hp : firstN k zs ∈ lvlL k k := bestG_in zs (lvlL k k) _ (by have := lvlL_pos hk; omega)
  refine wfK_key hk h3 (fun z hz => ?_) (okp_nI hk (lvlL_in hp) (fun v hv => lvlL_lt hp v hv))
  have h5 := h4 z hz
  have h6 : fullI (k : Int) = ((2 ^ k - 1 : Nat) : Int) := full_nat k
  have h7 : 1 ≤ 2 ^ k := Nat.one_le_two_pow
  omega

theorem lst_eq {zs ys : List Int} {p q : List Nat} (h : zs.length = ys.length) : (keyL zs (nI p) = keyL ys (nI q)) ↔ lstP zs p = lstP ys q := by
  rw [keyL_lst, keyL_lst, h]
  constructor
  · intro e
    exact (List.append_inj e (by rw [lstP_len, lstP_len, h])).1
  · intro e
    rw [e]

end Go.Proofs.YtcnicdaagknmpaaDoor

/- It is proved what the FamilyIn of the model returns; conditions: the bounds in each statement. -/
namespace Go.Proofs.YtcnicdaagknmpaaDoor
open Go.RowKit

theorem l1All_b (m : Int) (a : Option Addr) (n cap : Nat) (w : World) (h1 : 1 ≤ m) (h2 : m ≤ 6) :
    Calls Tryd.prog 37 #[.agg #[.int .i64 m, .slice a n cap]] w fun e w' => e = .returned (.int .i64 (fullI m)) ∧ Below w.heap.size w w' :=
  (l1All_any m a n cap w h1 h2).mono fun e w' ⟨he, hw⟩ => ⟨he, by rw [← hw]; exact below1 _ _⟩

set_option maxRecDepth 100000 in
set_option maxHeartbeats 800000 in
theorem specFamilyIn_any (m : Int) (a : Option Addr) (c : Nat) (zs : List Int) (w : World) (ha : Ints w w.heap.size a zs) (hx : zs.length ≤ 1048576) :
    Calls Tryd.prog 20 #[.agg #[.int .i64 m, .slice a zs.length c]] w fun e w' => e = .returned (.bool (famIn m zs)) ∧ Below w.heap.size w w' := by
  obtain ⟨n, hn⟩ : ∃ n, n = zs.length := ⟨_, rfl⟩
  have HN : Hid (n = zs.length) := Lib.hid hn
  rw [← hn]
  rw [← hn] at hx
  have HB := Lib.hid (below1 w (.cells #[.int .i64 m, .slice a n c] 25))
  cases h1 : inB m 1 6
  · have HF : Hid (famIn m zs = false) := Lib.hid (famIn_m h1)
    have H1 := Lib.hid h1
    clear hn h1
    go_enter Tryd.func20, Tryd.ntmps20
    go_wp2_with (go_at_call 36; refine (l6In_any _ _ _ _).mono ?_; rintro e w' ⟨rfl, rfl⟩; rw [H1.out])
    go_ret
    exact ⟨by rw [HF.out]; rfl, HB.out⟩
  · have H1 := Lib.hid h1
    obtain ⟨hm1, hm6⟩ := inB_out h1
    by_cases h3 : n ≤ 8
    · clear hn h1
      go_enter Tryd.func20, Tryd.ntmps20
      go_wp2_with (go_at_call 36; refine (l6In_any _ _ _ _).mono ?_; rintro e w' ⟨rfl, rfl⟩; rw [H1.out])
      go_loopw [3] (fun i wr => ∃ k : Nat, k ≤ n ∧ i = .int .i64 k ∧ (∀ j, j < k → inB (zs[j]?.getD 0) 0 (fullI m) = true) ∧ Below (w.heap.size + 1) (w.alloc (.cells #[.int .i64 m, .slice a n c] 25)) wr) (fun i _ => n - (intOf i).toNat)
      case atStart => exact ⟨0, Nat.zero_le _, rfl, fun j hj => by omega, Below.refl _ _⟩
      case round =>
        obtain ⟨k, hk, rfl, he, hb⟩ := hrel
        have x0 : wr.cell? ⟨w.heap.size, 0, none⟩ = some (.int .i64 m) := (hb.cell (p := ⟨w.heap.size, 0, none⟩) (by simp)).trans (blk_cell (alloc_new w _) 0)
        have x1 : wr.cell? ⟨w.heap.size, 1, none⟩ = some (.slice a n c) := (hb.cell (p := ⟨w.heap.size, 1, none⟩) (by simp)).trans (blk_cell (alloc_new w _) 1)
        have HBW := Lib.hid hb
        by_cases hlt : k < n
        · obtain ⟨b1, o1, rfl, hb1, hc1⟩ := ha.at_ (k := k) (by rw [← HN.out]; exact hlt)
          have x2 := (hb.cell (p := ⟨b1, o1 + k, none⟩) (by simp; omega)).trans ((HB.out.cell (p := ⟨b1, o1 + k, none⟩) hb1).trans hc1)
          have HE := Lib.hid he
          have hk0 : (0 : Int) ≤ (k : Int) := by omega
          have hk1 : (k : Int) < (n : Int) := by omega
          have hs2 : w.heap.size + 1 ≤ wr.heap.size := by have := hb.size; simp at this; omega
          have hs0 : w.heap.size < wr.heap.size := by omega
          have hs1 : b1 < wr.heap.size := by omega
          clear he hc1 hb
          cases hs : inB (zs[k]?.getD 0) 0 (fullI m)
          · have HS := Lib.hid hs
            have HF : Hid (famIn m zs = false) := Lib.hid (famIn_z (by rw [← HN.out]; exact hlt) hs)
            clear hs
            go_wp2_with fail
            go_region_held3 (fun w' => w'.cell? ⟨w.heap.size, 0, none⟩ = some (.int .i64 m) ∧ w'.cell? ⟨w.heap.size, 1, none⟩ = some (.slice (some ⟨b1, o1, none⟩) n c) ∧ w'.cell? ⟨b1, o1 + k, none⟩ = some (.int .i64 (zs[k]?.getD 0)) ∧ Below (w.heap.size + 1) (w.alloc (.cells #[.int .i64 m, .slice (some ⟨b1, o1, none⟩) n c] 25)) w')
              (first
                | exact ⟨x0, x1, x2, HBW.out.drew⟩
                | exact ⟨(hb1'.cell (p := ⟨w.heap.size, 0, none⟩) hs0).trans x0, (hb1'.cell (p := ⟨w.heap.size, 1, none⟩) hs0).trans x1, (hb1'.cell (p := ⟨b1, o1 + k, none⟩) hs1).trans x2, HBW.out.drew.trans (hb1'.mono hs2)⟩)
              (first
                | (go_at_call 37; refine (l1All_b _ _ _ _ _ hm1 hm6).mono ?_; rintro e w1 ⟨rfl, hb1'⟩)
                | (go_at_call 36; refine (l6In_any _ _ _ _).mono ?_; rintro e w' ⟨rfl, rfl⟩; rw [HS.out]))
            rename_i hHeld
            have HW1 := Lib.hid hHeld.2.2.2
            clear hHeld hb1'
            go_wp2
            go_ret
            exact ⟨by rw [HF.out]; rfl, HB.out.trans (HW1.out.mono (by omega))⟩
          · have HS := Lib.hid hs
            clear hs
            go_wp2_with fail
            go_region_held3 (fun w' => w'.cell? ⟨w.heap.size, 0, none⟩ = some (.int .i64 m) ∧ w'.cell? ⟨w.heap.size, 1, none⟩ = some (.slice (some ⟨b1, o1, none⟩) n c) ∧ w'.cell? ⟨b1, o1 + k, none⟩ = some (.int .i64 (zs[k]?.getD 0)) ∧ Below (w.heap.size + 1) (w.alloc (.cells #[.int .i64 m, .slice (some ⟨b1, o1, none⟩) n c] 25)) w')
              (first
                | exact ⟨x0, x1, x2, HBW.out.drew⟩
                | exact ⟨(hb1'.cell (p := ⟨w.heap.size, 0, none⟩) hs0).trans x0, (hb1'.cell (p := ⟨w.heap.size, 1, none⟩) hs0).trans x1, (hb1'.cell (p := ⟨b1, o1 + k, none⟩) hs1).trans x2, HBW.out.drew.trans (hb1'.mono hs2)⟩)
              (first
                | (go_at_call 37; refine (l1All_b _ _ _ _ _ hm1 hm6).mono ?_; rintro e w1 ⟨rfl, hb1'⟩)
                | (go_at_call 36; refine (l6In_any _ _ _ _).mono ?_; rintro e w' ⟨rfl, rfl⟩; rw [HS.out]))
            rename_i hHeld
            have HW1 := Lib.hid hHeld.2.2.2
            clear hHeld hb1'
            go_wp2
            go_roundw
            case rel => exact ⟨k + 1, by omega, by go_num, fun j hj => by
              rcases Nat.lt_succ_iff_lt_or_eq.1 hj with h | rfl
              · exact HE.out j h
              · exact HS.out, HW1.out⟩
            case measure => simp [intOf]; omega
        · obtain rfl : k = n := by omega
          have HF : Hid (famIn m zs = true) := Lib.hid (famIn_y (inB_true hm1 hm6) (by rw [← HN.out]; exact h3) (by rw [← HN.out]; exact he))
          have HBB : Hid (Below w.heap.size w wr) := Lib.hid (HB.out.trans (hb.mono (by omega)))
          clear he hb
          go_wp2
          go_ret
          exact ⟨by rw [HF.out]; rfl, HBB.out⟩
    · have HF : Hid (famIn m zs = false) := Lib.hid (famIn_l (by omega))
      clear hn h1
      go_enter Tryd.func20, Tryd.ntmps20
      go_wp2_with (go_at_call 36; refine (l6In_any _ _ _ _).mono ?_; rintro e w' ⟨rfl, rfl⟩; rw [H1.out])
      go_ret
      exact ⟨by rw [HF.out]; rfl, HB.out⟩

end Go.Proofs.YtcnicdaagknmpaaDoor
