/- It is proved what coveredBy returns; conditions: those of each statement. -/
import Derived.RowKit
import Derived.Laws.CopyRow
import Derived.Lib.SlBuf
import Derived.Deep.QuietTactic
import Derived.RangeFuncNested
import Derived.RangeFuncBound
import Derived.RangeFuncCalls
import Derived.RangeFuncLeaves
import Derived.RangeFuncBox
import Derived.RangeFuncWrites
import Derived.StillTailTactics
import Derived.Maps.OwnIn
import Derived.Maps.Ext
import Derived.DeepKeys4
import Derived.MapKept
import Derived.Test.YtphddemilibooaaDoorRows
import Derived.WalkKit
import Derived.WalkSpells
import Derived.ProofKit
import Derived.OpenShut
import Derived.ShutString
import Derived.ChangeOld
import Derived.Below
import Derived.Deep.RegionHeld3
import Derived.BigQuiet
import Derived.Lib.Hide
import Derived.Lib.SmallJoins
import Derived.Outline
import Derived.Laws.MakeOwn
import Derived.Laws.OwnMore
import Derived.IntWalk
import Derived.Lib.AppendZeros
import Derived.Maps.AppendAt
import Derived.Deep.AppendLies
import Derived.OwnWalk
import Derived.Lib.SlicesCompact
import Derived.Lib.OwnBridge
import Derived.OrdersIn
import Derived.TacticsIn
import Derived.Shelf.Sort.Plain
import Derived.Shelf.Slices.In.SortNone
import Derived.Shelf.Slices.CompactI
import Derived.Ground.Names2Prog
import Derived.Lib.SliceRun
import Derived.Shelf.Abstract
import Derived.Shelf.RegionOpen
import Derived.OwnWalkIn
import Derived.TacticsInMore
import Derived.LoopNIn
import Derived.LoopIn
import Derived.StillTail
import Derived.StillTactics
import Derived.Shelf.Spec.TrailingZeros
import Derived.Test.YtphddemilibooaaDoorRaaa
import Derived.Test.YtphddemilibooaaDoorRaas
import Derived.Test.YtphddemilibooaaDoorRaab
import Derived.Test.YtphddemilibooaaDoorRaad
import Derived.Test.YtphddemilibooaaDoorRaal
import Derived.Test.YtphddemilibooaaDoorKc
import Derived.Test.YtphddemilibooaaDoorRaac
import Derived.Test.YtphddemilibooaaDoorRaat
import Derived.Test.YtphddemilibooaaDoorRaam
import Derived.Test.YtphddemilibooaaDoorTb
namespace Go.Proofs.YtphddemilibooaaDoor
open Go.RowKit Go.Shelf

attribute [local go_sem] Oper.semAt_some

set_option maxRecDepth 100000 in
theorem coveredBy_any (m : Nat) (hm : m ≤ 6) (a : Option Addr) (c : Nat) (zs : List Int) (s : Nat) (hs : s < 64) (w : World) (ha : Ints w w.heap.size a zs) (hx : zs.length ≤ 100000) (hz : Sets m zs) :
    Calls Tryd.prog 109 #[.agg #[.int .i64 (m : Int), .slice a zs.length c], .int .i64 (s : Int)] w fun e w' => e = .returned (.bool (covB zs s)) ∧ Below w.heap.size w w' := by
  have hb1 := below1 w (.cells #[.int .i64 (m : Int), .slice a zs.length c] 25)
  have HC := Lib.hid (missedBy_any m hm a c zs s hs (w.alloc (.cells #[.int .i64 (m : Int), .slice a zs.length c] 25)) ((ha.below hb1).mono (by simp)) hx hz)
  have HB1 := Lib.hid hb1
  have HE : Hid ((((missL zs s).length : Int) == 0) = covB zs s) := Lib.hid (by
    rw [← missL_cov, Bool.eq_iff_iff, beq_iff_eq, beq_iff_eq]; omega)
  clear ha hb1
  go_enter Tryd.func109, Tryd.ntmps109
  go_wp2_with fail
  refine HC.out.mono ?_
  rintro e w1 ⟨a1, c1, rfl, -, hb⟩
  have HB := Lib.hid (HB1.out.trans (hb.mono (by simp)))
  clear hb
  have hff := field_fam
  go_wp2
  go_ret
  exact ⟨by rw [HE.out]; rfl, HB.out⟩

end Go.Proofs.YtphddemilibooaaDoor

/- It is proved what FamilyCommon of the program and of the model return; conditions: those of each statement. -/
namespace Go.Proofs.YtphddemilibooaaDoor
open Go.RowKit Go.Shelf

attribute [local go_sem] Oper.semAt_some

theorem full_any (m : Int) (a : Option Addr) (n cap : Nat) (w : World) (h1 : 1 ≤ m) (h2 : m ≤ 6) :
    Calls Tryd.prog 38 #[.agg #[.int .i64 m, .slice a n cap]] w fun e w' => e = .returned (.int .i64 (fullI m)) ∧ w' = w.alloc (.cells #[.int .i64 m, .slice a n cap] 25) := by
  rcases m16 h1 h2 with rfl | rfl | rfl | rfl | rfl | rfl
  all_goals
    go_enter Tryd.func38, Tryd.ntmps38
    go_wp2
    go_ret
    exact ⟨rfl, rfl⟩

end Go.Proofs.YtphddemilibooaaDoor

/- It is proved what the iterator over all covers yields; conditions: those of each statement. -/
namespace Go.Proofs.YtphddemilibooaaDoor
open Go.RowKit Go.Shelf

attribute [local go_sem] Oper.semAt_some

/-- Those of some sets that are covers. -/
def cvF {N : Nat} (zs : List Int) (ys : List (PrtF N)) : List (PrtF N) := ys.filter fun x => covB zs x.1

theorem cvF_snoc {N : Nat} (zs : List Int) (ys : List (PrtF N)) (y : PrtF N) : cvF zs (ys ++ [y]) = cvF zs ys ++ if covB zs y.1 then [y] else [] := by
  rw [cvF, List.filter_append]
  cases h : covB zs y.1 <;> simp [cvF, h]

theorem cvF_vals {N : Nat} (zs : List Int) (ys : List (PrtF N)) : valsF (cvF zs ys) = (valsF ys).filter (covB zs) := by
  unfold valsF cvF
  rw [List.filter_map]
  rfl

theorem cvF_len {N : Nat} (zs : List Int) (ys : List (PrtF N)) : (cvF zs ys).length ≤ ys.length := List.length_filter_le _ _
theorem yieldT_ne3 : (45 : TypeId) ≠ 3 := by decide
set_option maxRecDepth 100000 in
set_option maxHeartbeats 4000000 in
theorem covers1_in (n lo D Bf m : Nat) (hm1 : 1 ≤ m) (hm : m ≤ 6) (a : Option Addr) (c : Nat) (zs : List Int) (hx : zs.length ≤ 100000) (hz : Sets m zs) (w : World) (hBf : HasBlk w Bf #[.int .i64 (m : Int), .slice a zs.length c] 25) (hne : Bf ≠ D) (hlo : lo ≤ w.heap.size) (hD : lo ≤ D) (hDw : D < w.heap.size) (hI : Ints w lo a zs) :
    SeqFam n Tryd.prog 108 #[.pointer (some ⟨Bf, 0, none⟩)] (fun x : PrtF (2 ^ m) => #[Value.int .i64 (x.1 : Int)]) lo D (fun xs => valsF xs = (List.range (2 ^ m)).filter (covB zs)) (fun pre => ∃ j, j ≤ 2 ^ m ∧ valsF pre = (List.range j).filter (covB zs)) (2 ^ m) w := by
  intro l J Jx W hW hl1 hl2 hDW hJ hJx hY h0
  refine callsIn_wide.2 ((callsIn_wide (n := 6)).1 ?_)
  have hsW : w.heap.size ≤ W.heap.size := hW.size
  have h16 : 1 ≤ 6 := by omega
  have hfull : fullI (m : Int) = ((2 ^ m - 1 : Nat) : Int) := by unfold fullI; rw [cast_full]; simp
  obtain ⟨W3, hW3, q0, q2, hs3, hb3⟩ : ∃ W3, ((W.alloc (.cells #[.func (.yield l) #[] #[]] 45)).alloc (.cells #[.int .i64 (m : Int), .slice a zs.length c] 25)).alloc (.cells #[.int .i64 (fullI (m : Int))] 37) = W3 ∧ HasBlk W3 W.heap.size #[.func (.yield l) #[] #[]] 45 ∧ HasBlk W3 (W.heap.size + 1 + 1) #[.int .i64 (fullI (m : Int))] 37 ∧ W3.heap.size = W.heap.size + 1 + 1 + 1 ∧ Below W.heap.size W W3 :=
    ⟨_, rfl, alloc3_0 W _ _ _, alloc3_2 W _ _ _, by simp, below3 W _ _ _⟩
  have qf : HasBlk W Bf #[.int .i64 (m : Int), .slice a zs.length c] 25 := (hW.block _ (lt_of_some hBf)).trans hBf
  have qf3 : HasBlk W3 Bf #[.int .i64 (m : Int), .slice a zs.length c] 25 := (hb3.block _ (lt_of_some qf)).trans qf
  have x0 := (blk_cell ((Below.heap_alloc W (.cells #[.func (.yield l) #[] #[]] 45) _ (lt_of_some qf)).trans qf) 0).trans (cell2_0 _ _)
  have x1 := (blk_cell ((Below.heap_alloc W (.cells #[.func (.yield l) #[] #[]] 45) _ (lt_of_some qf)).trans qf) 1).trans (cell2_1 _ _)
  have hI3 : Ints W3 lo a zs := (hI.below (hW.mono hlo)).below (hb3.mono (by omega))
  have hJ3 : J [] W3 := hJ.step hb3 h0
  have hst := partsF_stops (6 - 1) (by omega) (W.heap.size + 1 + 1) m (by omega) (fullI (m : Int)) hfull W3 (by omega) ((blk_cell q2 0).trans (cell1_0 _))
  have HST := Lib.hid hst
  have HW3 := Lib.hid hW3
  have HQ0 := Lib.hid q0
  have HQ2 := Lib.hid q2
  have HQF := Lib.hid qf3
  have HI3 := Lib.hid hI3
  have HJ3 := Lib.hid hJ3
  have HS3 := Lib.hid hs3
  have HBf : Hid (Bf < w.heap.size) := Lib.hid (lt_of_some hBf)
  have HY := Lib.hid hY
  have hm1I : (1 : Int) ≤ (m : Int) := by omega
  have hm6I : (m : Int) ≤ 6 := by omega
  clear hW3 q0 q2 qf qf3 hI3 hJ3 hb3 hst hY h0 hI hBf hfull hs3 hW
  refine callsIn_of_wp_marks Tryd.func108 rfl trivial ?_ rfl
  simp only [Tryd.ntmps108, List.size_toArray, List.length_cons, List.length_nil, Nat.reduceAdd, Nat.reduceSub, Array.replicate_succ, Array.replicate_zero, List.push_toArray, List.append_toArray, List.nil_append, List.cons_append]
  gi_wp2_with fail
  refine ⟨trivial, ?_⟩
  refine (callsIn_wide.2 (full_any (m : Int) a zs.length c _ hm1I hm6I)).mono ?_
  rintro e w' ⟨rfl, rfl⟩
  gi_wp2_with fail
  refine ⟨trivial, ?_⟩
  refine (callsIn_wide.2 (partsW_any _ _)).mono ?_
  rintro e w' ⟨rfl, rfl⟩
  gi_wp2_with fail
  rw [HW3.out]
  refine wpIn_rangeFunc_ownG rfl h16 (gf := 60) (lb := #[.pointer (some ⟨W.heap.size + 1 + 1, 0, none⟩)]) rfl trivial (enters_of Tryd.func60 (by kernel_rfl) rfl)
    HST.out (fun h k e => k (h e)) ?keepc (Below.refl _ _) (fun _ => rfl)
    (fun ys Wr => J (cvF zs ys) Wr ∧ HasBlk Wr W.heap.size #[.func (.yield l) #[] #[]] 45 ∧ HasBlk Wr (W.heap.size + 1 + 1) #[.int .i64 (fullI (m : Int))] 37 ∧ HasBlk Wr Bf #[.int .i64 (m : Int), .slice a zs.length c] 25 ∧ Ints Wr lo a zs ∧ W3.heap.size ≤ Wr.heap.size)
    (fun c ys Wr => c = .ret ∧ Jx (cvF zs ys) Wr)
    ?own ?ownx
    ⟨HJ3.out, HQ0.out, HQ2.out, HQF.out, HI3.out, Nat.le_refl _⟩
    (fun x => { tmps := #[.func (.yield l) #[] #[], .pointer (some ⟨Bf, 0, none⟩), .pointer (some ⟨W.heap.size, 0, none⟩), .int .i64 (x.1 : Int), .agg #[.int .i64 (m : Int), .slice a zs.length c], .int .i64 (fullI (m : Int)), .func (.func 60) #[] #[.pointer (some ⟨W.heap.size + 1 + 1, 0, none⟩)], .int .i64 (x.1 : Int), undef, undef, undef, undef, undef, undef, undef, undef, undef], defers := [] }) ?assign ?body ?done ?stop
  case keepc =>
    intro W' l' o o' hl' ho hoc _ hc
    have hne : W.heap.size + 1 + 1 ≠ l' := by have := HS3.out; omega
    rw [← hc]
    exact World.cell?_of_block (World.putObj_heap_other hne)
  case own =>
    rintro ys A B row ⟨hj, h1, h2, h3, h4, h5⟩ hg hr
    have hr' : ∀ (b : Nat) (cs : Array Value) (t : TypeId), HasBlk A b cs t → row ≠ some b := fun b cs t hb e => by
      obtain ⟨-, o, ho, hc⟩ := hr b e
      rw [show A.heap[b]? = _ from hb] at ho; cases ho; cases hc
    have hs3 := HS3.out
    refine ⟨hJ _ _ _ row hj hg (fun r e => ?_), h1.kept hg (hr' _ _ _ h1), h2.kept hg (hr' _ _ _ h2), h3.kept hg (hr' _ _ _ h3), h4.below ((Below.refl lo A).grown hg (by omega) (fun r e => by have := (hr r e).1; omega)), Nat.le_trans h5 hg.size⟩
    obtain ⟨k1, o, k2, k3⟩ := hr r e
    exact ⟨by omega, fun cs z e2 => by rw [k2] at e2; cases e2; cases k3⟩
  case ownx =>
    rintro c' ys A B row ⟨h1, hj⟩ hg hr
    have hs3 := HS3.out
    refine ⟨h1, hJx _ _ _ row hj hg (fun r e => ?_)⟩
    obtain ⟨k1, o, k2, k3⟩ := hr r e
    exact ⟨by omega, fun cs z e2 => by rw [k2] at e2; cases e2; cases k3⟩
  case assign =>
    intro l x W K hK
    gi_wp2
    exact hK
  case body =>
    rintro l1 ys ⟨x, hxN⟩ Wr ⟨hj, h1, h2, h3, h4, h5⟩ hlen
    obtain ⟨xx, hxx⟩ : ∃ xx : PrtF (2 ^ m), xx = ⟨x, hxN⟩ := ⟨_, rfl⟩
    have hx64 : x < 64 := p64 hm hxN
    have hs3 := HS3.out
    have hcov := coveredBy_any m hm a c zs x hx64 Wr (h4.mono (by omega)) hx hz
    have HCOV := Lib.hid hcov
    have x0 := (blk_cell h3 0).trans (cell2_0 _ _)
    have x1 := (blk_cell h3 1).trans (cell2_1 _ _)
    have HJr := Lib.hid hj
    have HQr := Lib.hid h1
    have HCr := Lib.hid h2
    have HFr := Lib.hid h3
    have HIr := Lib.hid h4
    have HSr := Lib.hid h5
    have HLN : Hid ((cvF zs ys).length < 2 ^ m) := Lib.hid (Nat.lt_of_le_of_lt (cvF_len _ _) hlen)
    have HXX := Lib.hid hxx
    dsimp only
    rw [← hxx]
    clear hj h1 h2 h3 h4 h5 hcov hlen
    cases hcv : covB zs x
    · have HCV := Lib.hid hcv
      have HSN : Hid (cvF zs (ys ++ [xx]) = cvF zs ys) := Lib.hid (by rw [cvF_snoc, hxx]; simp [hcv])
      clear hcv hxx
      gi_wp2_with (refine ⟨trivial, ?_⟩; gi_at_call 109; refine (CallsIn.inRound l1 (callsIn_wide.2 HCOV.out)).mono ?_; rintro e w2 ⟨rfl, hb2⟩; rw [HCV.out])
      refine ⟨(fun _ h => by cases h), ?_⟩
      gi_wp2
      have hb3 : ButF lo D l Wr w2 := ButF.of_below hb2
      exact ⟨⟨hb2.size, fun k o _ hk _ => (hb2.block k (lt_of_some hk)).trans hk⟩, fun e => (hb2.cell (p := ⟨W.heap.size + 1 + 1, 0, none⟩) (by have := HS3.out; have := HSr.out; show W.heap.size + 1 + 1 < Wr.heap.size; omega)).trans e, by rw [HSN.out]; exact hJ.step hb2 HJr.out, (hb2.block _ (lt_of_some HQr.out)).trans HQr.out, (hb2.block _ (lt_of_some HCr.out)).trans HCr.out, (hb2.block _ (lt_of_some HFr.out)).trans HFr.out, HIr.out.below (hb2.mono (by have := HS3.out; have := HSr.out; omega)), Nat.le_trans HSr.out hb2.size⟩
    · have HCV := Lib.hid hcv
      have HSN : Hid (cvF zs (ys ++ [xx]) = cvF zs ys ++ [xx]) := Lib.hid (by rw [cvF_snoc, hxx]; simp [hcv])
      clear hcv hxx
      gi_wp2_with fail
      refine ⟨trivial, ?_⟩
      refine (CallsIn.inRound l1 (callsIn_wide.2 HCOV.out)).mono ?_
      rintro e w2 ⟨rfl, hb2⟩
      rw [HCV.out]
      have hj2 := hJ.step hb2 HJr.out
      obtain ⟨fn, tmps, assign, body, hy, hR⟩ := yield_any 3 (HY.out _ xx w2 hj2 HLN.out)
      rw [HXX.out] at hy
      dsimp only at hy
      have q2 : HasBlk w2 W.heap.size #[.func (.yield l) #[] #[]] 45 := (hb2.block _ (lt_of_some HQr.out)).trans HQr.out
      have c2 := (blk_cell q2 0).trans (cell1_0 _)
      gi_wp2
      refine hR.mono ?_
      have hlb : l < Wr.heap.size ∧ D < Wr.heap.size := by have := HS3.out; have := HSr.out; omega
      rintro e w4 (⟨rfl, hj4, hb4⟩ | ⟨rfl, hj4, hb4⟩)
      · have hb3 : ButF lo D l Wr w4 := (ButF.of_below hb2).trans hb4
        have HB3 := Lib.hid hb3
        have HJ4 := Lib.hid hj4
        clear hj4 hb4 hb3
        gi_wp2
        have hC4 := HCr.out.butF HB3.out (by omega) (by omega) club_ne3
        exact ⟨HB3.out.from (by have := HS3.out; omega) (by have := HS3.out; omega), fun _ => (blk_cell hC4 0).trans (cell1_0 _), by rw [HSN.out]; exact HJ4.out, HQr.out.butF HB3.out (by omega) (by omega) yieldT_ne3, hC4, HFr.out.butF HB3.out (by have := HBf.out; omega) hne fam_ne, HIr.out.below (HB3.out.below (by have := HS3.out; have := HSr.out; omega) hD (by omega)), Nat.le_trans HSr.out HB3.out.size⟩
      · have hb3 : ButF lo D l Wr w4 := (ButF.of_below hb2).trans hb4
        have HB3 := Lib.hid hb3
        have HJ4 := Lib.hid hj4
        clear hj4 hb4 hb3
        gi_wp2
        exact ⟨HB3.out.from (by have := HS3.out; omega) (by have := HS3.out; omega), rfl, by rw [HSN.out]; exact HJ4.out⟩
  case done =>
    rintro E ys Wr hE hys ⟨hj, -, -, -, -, hs⟩ hK
    have HJ := Lib.hid hj
    have HK := Lib.hid hK
    have HYS := Lib.hid hys
    clear hj hK hys
    have HE : Hid (W.heap.size ≤ E) := Lib.hid (by have := HS3.out; omega)
    gi_wp2
    refine ⟨by simp, .inl ⟨_, _, rfl, run_takeDeferred HK.out, ?_⟩⟩
    refine ⟨_, results_none rfl _ _ _, ⟨_, rfl⟩, .inl ⟨_, by rw [cvF_vals, HYS.out], hJ _ _ _ (some E) HJ.out (grownBy_putObj' Wr E _) (fun r e => ?_)⟩⟩
    injection e with e
    subst e
    exact ⟨HE.out, fun cs z e => by rw [HK.out] at e; cases e⟩
  case stop =>
    rintro E c' pre Wr hE ⟨j, hj, hp⟩ ⟨rfl, hjx⟩ hK
    have HJ := Lib.hid hjx
    have HK := Lib.hid hK
    have HP := Lib.hid hp
    clear hjx hK hp
    have HE : Hid (W.heap.size ≤ E) := Lib.hid (by have := HS3.out; omega)
    gi_wp2
    refine ⟨by simp, .inl ⟨_, _, rfl, run_takeDeferred HK.out, ?_⟩⟩
    refine ⟨_, results_none rfl _ _ _, ⟨_, rfl⟩, .inr ⟨_, ⟨j, hj, by rw [cvF_vals, HP.out]⟩, hJx _ _ _ (some E) HJ.out (grownBy_putObj' Wr E _) (fun r e => ?_)⟩⟩
    injection e with e
    subst e
    exact ⟨HE.out, fun cs z e => by rw [HK.out] at e; cases e⟩

end Go.Proofs.YtphddemilibooaaDoor
