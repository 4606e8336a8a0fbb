/- It is proved what turned returns; conditions: those of each statement. -/
import Derived.Test.YtgpgocijacgkhaaDoorRows
import Derived.WalkKit
import Derived.WalkSpells
import Derived.ProofKit
import Derived.OpenShut
import Derived.ShutString
import Derived.ChangeOld
import Derived.Below
import Derived.Deep.RegionHeld3
import Derived.Deep.QuietTactic
import Derived.BigQuiet
import Derived.Lib.Hide
import Derived.Lib.SmallJoins
import Derived.Outline
import Derived.Laws.MakeOwn
import Derived.Laws.OwnMore
import Derived.IntWalk
import Derived.RangeFuncNested
import Derived.RangeFuncBound
import Derived.RangeFuncCalls
import Derived.RangeFuncLeaves
import Derived.RangeFuncBox
import Derived.Shelf.Abstract
import Derived.Shelf.RegionOpen
import Derived.OwnWalkIn
import Derived.TacticsInMore
import Derived.LoopNIn
import Derived.LoopIn
import Derived.Maps.AppendAt
import Derived.Deep.AppendLies
import Derived.OwnWalk
import Derived.StillTail
import Derived.StillTactics
import Derived.OrdersIn
import Derived.TacticsIn
import Derived.Shelf.Spec.TrailingZeros
import Derived.Test.YtgpgocijacgkhaaDoorRaaa
import Derived.Test.YtgpgocijacgkhaaDoorRaab
import Derived.Test.YtgpgocijacgkhaaDoorRaac
import Derived.Test.YtgpgocijacgkhaaDoorRaal
import Derived.Test.YtgpgocijacgkhaaDoorTb
import Derived.Test.YtgpgocijacgkhaaDoorRaae
namespace Go.Proofs.YtgpgocijacgkhaaDoor
open Go.RowKit Go.Shelf

attribute [local go_sem] Oper.semAt_some

set_option maxRecDepth 100000 in
set_option maxHeartbeats 4000000 in
theorem turned_any (m : Nat) (hm6' : m ≤ 6) (a : Option Addr) (c : Nat) (zs : List Int) (w : World) (ha : Ints w w.heap.size a zs) (hT : Tab w) (hl8 : zs.length ≤ 8) (hPc : ∀ k, k < zs.length → IsClub m (k, zs[k]?.getD 0)) :
    Calls Tryd.prog 50 #[.agg #[.int .i64 (m : Int), .slice a zs.length c]] w fun e w' => ∃ g : Nat, e = .returned (.agg #[.int .i64 (zs.length : Int), .slice (some ⟨g, 0, none⟩) m m]) ∧ OwnI w' w.heap.size (.slice (some ⟨g, 0, none⟩) m m) (dualL m (prsP (pairs zs zs.length))) ∧ Below w.heap.size w w' := by
  obtain ⟨i0, hi0, hz0, hz1, hz2⟩ := info_parts Tryd.info3
  obtain ⟨w1, hw1, q0, q2, hs1, hb1⟩ : ∃ w1, (w.alloc (.cells #[.int .i64 (m : Int), .slice a zs.length c] 25)).alloc (.cells #[.int .i64 0, .slice none 0 0] 25) = w1 ∧ HasBlk w1 w.heap.size #[.int .i64 (m : Int), .slice a zs.length c] 25 ∧ HasBlk w1 (w.heap.size + 1) #[.int .i64 0, .slice none 0 0] 25 ∧ w1.heap.size = w.heap.size + 1 + 1 ∧ Below w.heap.size w w1 :=
    ⟨_, rfl, alloc2_0 w _ _, alloc2_1 w _ _, by simp, below2 w _ _⟩
  have HI := Lib.hid ha
  have HT := Lib.hid hT
  obtain ⟨n, hn⟩ : ∃ n, n = zs.length := ⟨_, rfl⟩
  have HN := Lib.hid hn
  rw [← hn] at hl8 q0 hw1
  rw [← hn]
  have hx : n ≤ 1048576 := by omega
  have Q0 := Lib.hid q0
  have Q2 := Lib.hid q2
  have HB := Lib.hid hb1
  have x0 := (blk_cell q0 0).trans (cell2_0 _ _)
  rw [← hw1] at x0
  have HW1 := Lib.hid hw1
  have xs : w.heap.size + 2 ≤ w1.heap.size := by omega
  have HS1 := Lib.hid hs1
  clear ha hT hn q0 q2 hb1 hw1
  refine (callsIn_wide (n := 6)).1 ?_
  refine callsIn_of_wp_marks Tryd.func50 rfl trivial ?_ rfl
  simp only [Tryd.ntmps50, List.size_toArray, List.length_cons, List.length_nil, Nat.reduceAdd, Nat.reduceSub, Array.replicate_succ, Array.replicate_zero, List.push_toArray, List.append_toArray, List.nil_append, List.cons_append]
  gi_wp2_with (gi_at_make; refine mark_make ?_)
  refine unmark_make ?_
  rw [HW1.out]
  refine wpListIn_make_fullD _ rfl _ _ 23 rfl (w.heap.size + 1 + 1) 3 i0 (.int .i64 0) 1 Tryd.underlying23 hi0 hz0 hz1 .i64 .i64 m rfl rfl (by rw [hz2]; omega) (by simp only [maxLen]; omega) (by omega) ?_
  intro w2 hown hg
  rw [HS1.out] at hown
  have y0 := ((hg.block w.heap.size (by omega) (by simp)).trans Q0.out : w2.heap[w.heap.size]? = _)
  have y2 := ((hg.block (w.heap.size + 1) (by omega) (by simp)).trans Q2.out : w2.heap[w.heap.size + 1]? = _)
  have z0 := blk_cell (w := w2.alloc (.cells #[.slice (some ⟨(w.heap.size + 1 + 1), 0, none⟩) m m] 23)) ((alloc_old _ _ _ (lt_of_some y0)).trans y0) 0
  have z1 := blk_cell (w := w2.alloc (.cells #[.slice (some ⟨(w.heap.size + 1 + 1), 0, none⟩) m m] 23)) ((alloc_old _ _ _ (lt_of_some y0)).trans y0) 1
  have hGl : (w.heap.size + 1 + 1) < w2.heap.size := by have := (World.ownsRow.lt hown _ rfl).2; simpa using this
  have HO : Hid (w2.ownsRow (w.heap.size + 1 + 1) 3 1 (.slice (some ⟨(w.heap.size + 1 + 1), 0, none⟩) m m) m ((dualL m []).map (Value.int .i64))) := Lib.hid (by rw [dualL_nil]; have := hown; rw [show (madeCells (Value.int .i64 0).cells (m * 1)).toList = (List.replicate m (0 : Int)).map (Value.int .i64) from by rw [show (Value.int .i64 0).cells = #[Value.int .i64 0] from rfl, toList_madeCells_one]; simp] at this; exact this)
  have HG := Lib.hid (HB.out.trans (((Below.refl _ _).grown hg (Nat.le_refl _) (by simp) : Below w1.heap.size w1 w2).mono (by omega)))
  have Y0 := Lib.hid y0
  have Y2 := Lib.hid y2
  simp only [cell2_0, cell2_1] at z0 z1
  clear hown hg y0 y2 x0
  gi_wp2_with (refine ⟨trivial, ?_⟩; gi_at_call 45; refine (callsIn_wide.2 (clubs_any _ _ _ _ _)).mono ?_; rintro e w' ⟨rfl, rfl⟩)
  have h16 : 1 ≤ 6 := by omega
  have bD := Boxed.new w2 23 (.slice (some ⟨(w.heap.size + 1 + 1), 0, none⟩) m m)
  have HBB : Hid (Below w.heap.size w ((w2.alloc (.cells #[.slice (some ⟨(w.heap.size + 1 + 1), 0, none⟩) m m] 23)).alloc (.cells #[.int .i64 (m : Int), .slice a n c] 25))) := Lib.hid (HG.out.trans ((below2 w2 _ _).mono (by omega)))
  have hst := clubsP_stops (IsClub m) (6 - 1) (by omega) (w2.heap.size + 1) (w.heap.size + 2) a c zs (by rw [← HN.out]; exact hx) hPc ((w2.alloc (.cells #[.slice (some ⟨(w.heap.size + 1 + 1), 0, none⟩) m m] 23)).alloc (.cells #[.int .i64 (m : Int), .slice a n c] 25)) (by simp) (by simp; omega)
    (by rw [← HN.out]; simp) ((HI.out.below HBB.out).mono (by omega))
  rw [← HN.out] at hst
  have h0 : RowBox w2.heap.size (w.heap.size + 1 + 1) w.heap.size m (dualL m (plc ([] : List { p // IsClub m p }))) ((w2.alloc (.cells #[.slice (some ⟨(w.heap.size + 1 + 1), 0, none⟩) m m] 23)).alloc (.cells #[.int .i64 (m : Int), .slice a n c] 25)) :=
    ⟨_, bD.alloc _, by have := ownsRow_base HO.out (B := w.heap.size) (by omega); exact (this.alloc _).alloc _, rfl⟩
  have V0 := Lib.hid ((HasBlk.alloc (HasBlk.alloc Y0.out (.cells #[.slice (some ⟨(w.heap.size + 1 + 1), 0, none⟩) m m] 23)) (.cells #[.int .i64 (m : Int), .slice a n c] 25)))
  have V2 := Lib.hid ((HasBlk.alloc (HasBlk.alloc Y2.out (.cells #[.slice (some ⟨(w.heap.size + 1 + 1), 0, none⟩) m m] 23)) (.cells #[.int .i64 (m : Int), .slice a n c] 25)))
  obtain ⟨Wo, hWo⟩ : ∃ Wo, (w2.alloc (.cells #[.slice (some ⟨(w.heap.size + 1 + 1), 0, none⟩) m m] 23)).alloc (.cells #[.int .i64 (m : Int), .slice a n c] 25) = Wo := ⟨_, rfl⟩
  have hso : Wo.heap.size = w2.heap.size + 1 + 1 := by rw [← hWo]; simp
  rw [hWo] at hst HBB h0 V0 V2 ⊢
  have HSO := Lib.hid hso
  clear hWo bD hso
  refine wpIn_rangeFunc_ownH rfl h16 (gf := 77) (lb := #[.pointer (some ⟨w2.heap.size + 1, 0, none⟩)]) rfl trivial (enters_of Tryd.func77 (by kernel_rfl) rfl)
    hst belowK_t (belowK_b (by have := HSO.out; omega)) (Below.refl _ _) (fun _ => rfl)
    (fun pre W => RowBox w2.heap.size (w.heap.size + 1 + 1) w.heap.size m (dualL m (plc pre)) W ∧ Below (w.heap.size + 2) Wo W)
    (fun _ _ _ => False)
    (OwnFrom.and (Own.from (RowBox.own _ _ _ _ (fun pre => dualL m (plc pre))) _) (ownFrom_below (by have := HSO.out; omega) (by have := HSO.out; omega)))
    (fun _ _ _ _ _ hs _ _ => hs)
    ⟨h0, Below.refl _ _⟩
    (fun x a' W => ∃ Bx, w2.heap.size < Bx ∧ Boxed W Bx 3 (.int .i64 (x.1.1 : Int)) ∧ a' = { tmps := #[.agg #[.int .i64 (m : Int), .slice a n c], .pointer (some ⟨w.heap.size, 0, none⟩), .pointer (some ⟨w.heap.size + 1, 0, none⟩), .pointer (some ⟨w2.heap.size, 0, none⟩), .pointer (some ⟨Bx, 0, none⟩), .int .i64 x.1.2, undef, .pointer (some ⟨w.heap.size, 0, none⟩), .int .i64 (m : Int), .slice (some ⟨(w.heap.size + 1 + 1), 0, none⟩) m m, .agg #[.int .i64 (m : Int), .slice a n c], .func (.func 77) #[] #[.pointer (some ⟨w2.heap.size + 1, 0, none⟩)], .int .i64 (x.1.1 : Int), .int .i64 x.1.2, undef, undef, undef, undef, undef, undef, undef, undef, undef, undef, undef, undef, undef, undef, undef, undef, undef], defers := [] })
    (fun x a' _ X Y row hs hg hr => by obtain ⟨Bx, h1, h2, h3⟩ := hs; exact ⟨Bx, h1, boxed_own Bx 3 (fun (_ : Unit) => Value.int .i64 (x.1.1 : Int)) () X Y row h2 hg (fun r e => (hr r e).2), h3⟩)
    ?assign ?body ?done ?stop
  case assign =>
    rintro l pre x W K ⟨hv, hB⟩ hK
    have hWs := hB.size
    have hso := HSO.out
    gi_wp2
    exact hK _ _ ((KeepsOthers.alloc _ _).from _) ((Below.refl _ W).alloc (by omega) _) ⟨hv.alloc _, hB.alloc (by omega) _⟩ ⟨W.heap.size, hv.box.lt, Boxed.new W 3 _, rfl⟩
  case body =>
    rintro l pre x a' W hl ⟨r, hr⟩ ⟨hv, hB⟩ ⟨Bx, hBx, bX, rfl⟩ hlt
    obtain ⟨s, hs⟩ : ∃ s : Nat, x.1.2 = (s : Int) := ⟨x.1.2.toNat, by have := x.2.2.1; omega⟩
    have hs2 : s < 2 ^ m := by have := x.2.2.2; rw [hs] at this; simpa using this
    rw [hs]
    have HV := Lib.hid hv
    have HX := Lib.hid bX
    have HBW := Lib.hid hB
    have hWs : w.heap.size + 2 ≤ W.heap.size := by have := hB.size; have := HSO.out; omega
    have h1' : 1 ≤ 6 - 1 - 1 := by omega
    have HTW : Hid (Tab W) := Lib.hid ((HT.out.below HBB.out HT.out.lt).below hB (by have := HT.out.lt; omega))
    clear hv hB bX
    gi_wp2_with (refine ⟨trivial, ?_⟩; gi_at_call 46; refine (callsIn_wide.2 (members_any _ _)).mono ?_; rintro e w' ⟨rfl, rfl⟩)
    have hDW : w2.heap.size < W.heap.size := HV.out.box.lt
    have hst2 := (members_stops (6 - 1 - 1 - 1) (by omega) W.heap.size (w.heap.size + 2) m s hm6' hs2 (W.alloc (.cells #[.int .i64 (s : Int)] 54)) (by simp) (by simp; omega) (by have := HT.out.lt; omega) (by simp)
      (HTW.out.step (below1 W _))).inRound l
    have hr' : (W.alloc (.cells #[.int .i64 (s : Int)] 54)).heap[l]? = some (.loop r) := (alloc_old W _ l (lt_of_some hr)).trans hr
    have h00 : RowBox w2.heap.size (w.heap.size + 1 + 1) w.heap.size m (dualL m (plc pre ++ row1 x.1.1 ([] : List (Mem m)))) (W.alloc (.cells #[.int .i64 (s : Int)] 54)) := by
      rw [show row1 x.1.1 ([] : List (Mem m)) = [] from rfl, List.append_nil]; exact HV.out.alloc _
    refine wpIn_rangeFunc_ownN (l₀ := l) (r₀ := r) rfl hr' h1' (gf := 78) (lb := #[.pointer (some ⟨W.heap.size, 0, none⟩)]) rfl trivial (enters_of Tryd.func78 (by kernel_rfl) rfl)
      hst2 belowK_t (belowK_b (by simp; omega)) (Below.refl _ _) (fun _ => rfl)
      (fun us W' => (RowBox w2.heap.size (w.heap.size + 1 + 1) w.heap.size m (dualL m (plc pre ++ row1 x.1.1 us)) W' ∧ Boxed W' Bx 3 (.int .i64 (x.1.1 : Int))) ∧ (Below (w.heap.size + 2) W W' ∧ KeepsFrom Wo.heap.size W W'))
      (fun _ _ _ => False)
      (OwnFrom.and (OwnFrom.and (Own.from (RowBox.own _ _ _ _ (fun us => dualL m (plc pre ++ row1 x.1.1 us))) _) (Own.from (boxed_own _ _ _) _)) (OwnFrom.and (ownFrom_below hWs (by simp; omega)) (ownFrom_keepsFrom (by simp))))
      (fun _ _ _ _ _ hs _ _ => hs)
      ⟨⟨h00, HX.out.alloc _⟩, (Below.refl _ W).alloc hWs _, (KeepsOthers.alloc _ _).from _⟩
      (fun y a'' _ => a'' = { tmps := #[.agg #[.int .i64 (m : Int), .slice a n c], .pointer (some ⟨w.heap.size, 0, none⟩), .pointer (some ⟨w.heap.size + 1, 0, none⟩), .pointer (some ⟨w2.heap.size, 0, none⟩), .pointer (some ⟨Bx, 0, none⟩), .int .i64 (s : Int), .int .i64 (y.1 : Int), .pointer (some ⟨w.heap.size, 0, none⟩), .int .i64 (m : Int), .slice (some ⟨(w.heap.size + 1 + 1), 0, none⟩) m m, .agg #[.int .i64 (m : Int), .slice a n c], .func (.func 77) #[] #[.pointer (some ⟨w2.heap.size + 1, 0, none⟩)], .int .i64 (x.1.1 : Int), .int .i64 (s : Int), .int .i64 (s : Int), .func (.func 78) #[] #[.pointer (some ⟨W.heap.size, 0, none⟩)], .int .i64 (y.1 : Int), undef, undef, undef, undef, undef, undef, undef, undef, undef, undef, undef, undef, undef, undef], defers := [] })
      (fun _ _ _ _ _ _ hs _ _ => hs)
      ?assign2 ?body2 ?done2 ?stop2
    case assign2 =>
      rintro l2 us y W' K hi hK
      gi_wp2
      exact hK _ _ (KeepsFrom.refl _ _) (Below.refl _ _) hi rfl
    case body2 =>
      rintro l2 us y a'' W' _ _ ⟨⟨hv, hX⟩, hBW, hKF⟩ rfl hul
      obtain ⟨u, hu⟩ := y
      obtain ⟨pl, hpl⟩ : ∃ pl, pl = x.1.1 := ⟨_, rfl⟩
      have hp8 : pl < 8 := by rw [hpl]; exact x.2.1
      rw [← hpl]
      rw [← hpl] at hv hX
      obtain ⟨d, hd⟩ : ∃ d, d = dualBits (plc pre ++ row1 pl us) u := ⟨_, rfl⟩
      have hd8 : d < 256 := by
        rw [hd]
        exact dualBits_lt _ _ (fun z hz => (List.mem_append.1 hz).elim (plc_lt _ _) (row1_lt _ hp8 _ _))
      have hcD := hv.box.cell
      have hcX := hX.cell
      obtain ⟨hcs, hfz⟩ := hv.cell u hu
      rw [dualL_at _ _ _ hu, ← hd] at hcs
      have HS := Lib.hid (hv.set (by omega) u ((d ||| 2 ^ pl : Nat) : Int))
      have HV2 := Lib.hid hv
      have HX2 := Lib.hid hX
      have HB2 := Lib.hid hBW
      have HK2 := Lib.hid hKF
      have HD := Lib.hid hd
      have HPL := Lib.hid hpl
      clear hv hX hBW hKF hd hpl
      have hmx : Tryd.prog.follows .mixedOrders = true := by kernel_rfl
      rw [Option.getD_some] at hcs
      gi_wp2
      refine wpIn_region_still_tail_o ((Fence.Open.wide.inRound l).inRound l2) 9 hmx (by kernel_rfl) (by kernel_rfl) ?_
      simp only [List.take_succ_cons, List.take_zero, List.drop_succ_cons, List.drop_zero]
      repeat still_step
      still_call ((with_any d pl hd8 hp8 _).mono fun _ _ h => ⟨h.1, h.2.symm⟩)
      repeat still_step
      refine wpStill_nil ?_
      change wpListIn _ _ _ _ _ _ _ W'.drew
      gi_wp2
      refine ⟨((KeepsOthers.setCell _ _ _).trans (KeepsOthers.drew _)).from _, ((Below.refl _ W').setCell (p := ⟨(w.heap.size + 1 + 1), u, none⟩) (by show w.heap.size + 2 ≤ (w.heap.size + 1 + 1); omega) _).drew, ⟨?_, (HasBlk.far (p := ⟨(w.heap.size + 1 + 1), u, none⟩) HX2.out (show Bx ≠ (w.heap.size + 1 + 1) by omega) (.int .i64 ((d ||| 2 ^ pl : Nat) : Int)) : HasBlk _ _ _ _)⟩, (HB2.out.setCell (p := ⟨(w.heap.size + 1 + 1), u, none⟩) (by show w.heap.size + 2 ≤ (w.heap.size + 1 + 1); omega) _).drew, HK2.out.trans (((KeepsOthers.setCell _ _ _).trans (KeepsOthers.drew _)).from _)⟩
      rw [row1_snoc, ← List.append_assoc, dualL_snoc, ← HD.out]
      exact HS.out
    case done2 =>
      rintro us W' hus ⟨⟨hv, hX⟩, hBW, hKF⟩
      gi_wp2
      refine ⟨hKF, hBW, ?_, HBW.out.trans hBW⟩
      rw [plc_snoc, hs, Int.toNat_natCast, ← row1_all _ us _ hus]
      exact hv
    case stop2 =>
      rintro c us W' _ h
      exact h.elim
  case done =>
    rintro D ys W hD hys ⟨hv, hB⟩ hK
    rw [show plc ys = prsP (pairs zs n) from by rw [plc, hys]] at hv
    have hc := hv.box.cell
    have q0 := (hB.block w.heap.size (by omega)).trans V0.out
    have q2 := (hB.block (w.heap.size + 1) (by omega)).trans V2.out
    have d1 := blk_cell q0 1
    have e0 := blk_cell q2 0
    have e1 := blk_cell q2 1
    have f0 := blk_frozen q2 0
    have f1 := blk_frozen q2 1
    simp only [cell2_0, cell2_1] at d1 e0 e1
    have HR := Lib.hid hv.row
    have HBW := Lib.hid hB
    clear hv hB q0 q2
    gi_wp2
    have hK' := (KeepsOthers.setCell (W.setCell ⟨w.heap.size + 1, 0, none⟩ (.int .i64 (n : Int))) ⟨w.heap.size + 1, 1, none⟩ (.slice (some ⟨(w.heap.size + 1 + 1), 0, none⟩) m m)).same D _ ((KeepsOthers.setCell W ⟨w.heap.size + 1, 0, none⟩ (.int .i64 (n : Int))).same D _ hK rfl) rfl
    refine ⟨by simp, .inl ⟨_, _, rfl, run_takeDeferred hK', ?_⟩⟩
    have g0 := cell_kept (World.cell?_setCell_other (W.setCell ⟨w.heap.size + 1, 0, none⟩ (.int .i64 (n : Int))) ⟨w.heap.size + 1, 1, none⟩ ⟨w.heap.size + 1, 0, none⟩ (.slice (some ⟨(w.heap.size + 1 + 1), 0, none⟩) m m) (by simp) |>.trans (World.cell?_setCell_same' W ⟨w.heap.size + 1, 0, none⟩ (.int .i64 (n : Int)) (by rw [e0]; rfl))) (grownBy_putObj' _ D (.deferred none)) (fun r e => by cases e; exact ⟨_, hK', rfl⟩)
    have g1 := cell_kept (World.cell?_setCell_same' (W.setCell ⟨w.heap.size + 1, 0, none⟩ (.int .i64 (n : Int))) ⟨w.heap.size + 1, 1, none⟩ (.slice (some ⟨(w.heap.size + 1 + 1), 0, none⟩) m m) (by rw [World.cell?_setCell_other _ _ _ _ (by simp), e1]; rfl)) (grownBy_putObj' _ D (.deferred none)) (fun r e => by cases e; exact ⟨_, hK', rfl⟩)
    refine ⟨.agg #[.int .i64 (n : Int), .slice (some ⟨(w.heap.size + 1 + 1), 0, none⟩) m m], by simp [results, Tryd.f50, go_sem, g0, g1], (w.heap.size + 1 + 1), rfl, ?_, ?_⟩
    · have h1 := ownsRow_setCell_ne HR.out (p := ⟨w.heap.size + 1, 0, none⟩) (by simp [Value.ownBlock] <;> omega) (.int .i64 (n : Int))
      have h2 := ownsRow_setCell_ne h1 (p := ⟨w.heap.size + 1, 1, none⟩) (by simp [Value.ownBlock] <;> omega) (.slice (some ⟨(w.heap.size + 1 + 1), 0, none⟩) m m)
      unfold OwnI
      rw [dualL_length]
      exact ownsRow_putObj h2 _ hK' rfl
    · exact (((HBB.out.trans (HBW.out.mono (by omega))).setCell (p := ⟨w.heap.size + 1, 0, none⟩) (by simp) _).setCell (p := ⟨w.heap.size + 1, 1, none⟩) (by simp) _).trans (belowK_b (w := w) (Nat.le_refl _) _ D _ _ (by have := HSO.out; omega) hK' rfl rfl)
  case stop =>
    rintro D c pre W _ _ h _
    exact h.elim

set_option maxRecDepth 100000 in
set_option maxHeartbeats 4000000 in
theorem implDual_yes (m : Nat) (a : Option Addr) (c : Nat) (zs : List Int) (w : World) (ha : Ints w w.heap.size a zs) (hT : Tab w) (hx : zs.length ≤ 1048576) (hf : famIn (m : Int) zs = true) (h1 : 1 ≤ zs.length) (h6 : zs.length ≤ 6) :
    Calls Tryd.prog 19 #[.agg #[.int .i64 (m : Int), .slice a zs.length c]] w (RetFB w zs.length (dualL m (prsP (pairs zs zs.length))) true) := by
  have HB0 := Lib.hid (below2 w (.cells #[.int .i64 (m : Int), .slice a zs.length c] 25) (.cells #[.int .i64 0, .slice none 0 0] 25))
  have HA := Lib.hid (ha.below HB0.out)
  have HF := Lib.hid hf
  obtain ⟨hm1, hm6, hl8, -⟩ := famIn_out hf
  have H50 : Hid (∀ W, Below w.heap.size w W → Calls Tryd.prog 50 #[.agg #[.int .i64 (m : Int), .slice a zs.length c]] W fun e w' => ∃ g : Nat, e = .returned (.agg #[.int .i64 (zs.length : Int), .slice (some ⟨g, 0, none⟩) m m]) ∧ OwnI w' W.heap.size (.slice (some ⟨g, 0, none⟩) m m) (dualL m (prsP (pairs zs zs.length))) ∧ Below W.heap.size W w') := Lib.hid fun W hb =>
    turned_any m (by omega) a c zs W ((ha.below hb).mono hb.size) (hT.below hb hT.lt) (by omega) (isClub_all hf)
  obtain ⟨n, hn⟩ : ∃ n, n = zs.length := ⟨_, rfl⟩
  have HN := Lib.hid hn
  have HFI := Lib.hid (implFamilyIn_any (m : Int) a c zs _ (HA.out.mono (show w.heap.size ≤ ((w.alloc (.cells #[.int .i64 (m : Int), .slice a zs.length c] 25)).alloc (.cells #[.int .i64 0, .slice none 0 0] 25)).heap.size by simp; omega)) hx)
  rw [← hn] at hx h1 h6 hl8 HB0 H50 HFI
  rw [← hn]
  clear hf ha hT hn HA
  go_enter Tryd.func19, Tryd.ntmps19
  go_wp2_with fail
  refine HFI.out.mono ?_
  rintro e w1 ⟨rfl, hb⟩
  rw [HF.out]
  have b0 : w1.heap[w.heap.size]? = some (.cells #[.int .i64 (m : Int), .slice a n c] 25 (0, 0)) := (hb.block _ (by simp; omega)).trans (alloc2_0 w _ _)
  have b2 : w1.heap[w.heap.size + 1]? = some (.cells #[.int .i64 0, .slice none 0 0] 25 (0, 0)) := (hb.block _ (by simp)).trans (alloc2_1 w _ _)
  have x0 := blk_cell b0 0
  have x1 := blk_cell b0 1
  simp only [cell2_0, cell2_1] at x0 x1
  have HB := Lib.hid (HB0.out.trans (hb.mono (by simp; omega)))
  have Q2 := Lib.hid b2
  have HC := Lib.hid (H50.out w1 HB.out)
  have hd1 : decide ((n : Int) < 1) = false := by simp; omega
  have hd2 : decide ((6 : Int) < (n : Int)) = false := by simp; omega
  clear hb b0 b2
  go_wp2_with fail
  refine HC.out.mono ?_
  rintro e w2 ⟨g, rfl, ho, hb2⟩
  have b3 := (hb2.block _ (lt_of_some Q2.out)).trans Q2.out
  have d0 := blk_cell b3 0
  have d1 := blk_cell b3 1
  have f0 := blk_frozen b3 0
  have f1 := blk_frozen b3 1
  simp only [cell2_0, cell2_1] at d0 d1
  have HBz := Lib.hid (HB.out.trans (hb2.mono HB.out.size))
  have HO := Lib.hid ho
  have z1 : w.heap.size + 1 < w1.heap.size := lt_of_some Q2.out
  clear hb2 b3 ho
  go_wp2
  refine bodyPost_ret (v := .tuple #[.agg #[.int .i64 (n : Int), .slice (some ⟨g, 0, none⟩) m m], .bool true]) (by simp [results, Tryd.results19, go_sem, d0, d1]) rfl ?_
  refine ⟨some ⟨g, 0, none⟩, m, by rw [dualL_length], ?_, (HBz.out.setCell (p := ⟨w.heap.size + 1, 0, none⟩) (by simp) _).setCell (p := ⟨w.heap.size + 1, 1, none⟩) (by simp) _⟩
  rw [dualL_length]
  exact own_mono (ownsRow_setCell_below (ownsRow_setCell_below HO.out (by simp; omega) _) (by simp; omega) _) (by omega)

end Go.Proofs.YtgpgocijacgkhaaDoor
