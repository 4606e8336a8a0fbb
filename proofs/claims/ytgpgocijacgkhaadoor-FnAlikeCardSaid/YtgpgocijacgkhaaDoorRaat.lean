/- It is proved what tied returns for sets of at most eight members; conditions: those of each statement. -/
import Derived.RowKit
import Derived.Laws.CopyRow
import Derived.Lib.SlBuf
import Derived.Deep.QuietTactic
import Derived.RangeFuncNested
import Derived.RangeFuncBound
import Derived.RangeFuncCalls
import Derived.RangeFuncLeaves
import Derived.RangeFuncBox
import Derived.RangeFuncWrites
import Derived.StillTailTactics
import Derived.Maps.OwnIn
import Derived.Maps.Ext
import Derived.DeepKeys4
import Derived.MapKept
import Derived.Test.YtgpgocijacgkhaaDoorRows
import Derived.WalkKit
import Derived.WalkSpells
import Derived.ProofKit
import Derived.OpenShut
import Derived.ShutString
import Derived.ChangeOld
import Derived.Below
import Derived.Deep.RegionHeld3
import Derived.BigQuiet
import Derived.Lib.Hide
import Derived.Lib.SmallJoins
import Derived.Outline
import Derived.Laws.MakeOwn
import Derived.Laws.OwnMore
import Derived.IntWalk
import Derived.Lib.AppendZeros
import Derived.Maps.AppendAt
import Derived.Deep.AppendLies
import Derived.OwnWalk
import Derived.Lib.SlicesCompact
import Derived.Lib.OwnBridge
import Derived.OrdersIn
import Derived.TacticsIn
import Derived.Shelf.Sort.Plain
import Derived.Shelf.Slices.In.SortNone
import Derived.Shelf.Slices.CompactI
import Derived.Ground.Names2Prog
import Derived.Lib.SliceRun
import Derived.Laws.BitsAllLaws
import Derived.Shelf.RegionOpen
import Derived.Shelf.Abstract
import Derived.OwnWalkIn
import Derived.TacticsInMore
import Derived.LoopNIn
import Derived.LoopIn
import Derived.StillTail
import Derived.StillTactics
import Derived.Shelf.Spec.TrailingZeros
import Derived.Test.YtgpgocijacgkhaaDoorRaaa
import Derived.Test.YtgpgocijacgkhaaDoorRaab
import Derived.Test.YtgpgocijacgkhaaDoorRaah
import Derived.Test.YtgpgocijacgkhaaDoorRaar
import Derived.Test.YtgpgocijacgkhaaDoorRaao
import Derived.Test.YtgpgocijacgkhaaDoorIb
import Derived.Test.YtgpgocijacgkhaaDoorRaap
import Derived.Test.YtgpgocijacgkhaaDoorRaas
import Derived.Test.YtgpgocijacgkhaaDoorRaac
import Derived.Test.YtgpgocijacgkhaaDoorTb
namespace Go.Proofs.YtgpgocijacgkhaaDoor
open Go.RowKit Go.Shelf

attribute [local go_sem] Oper.semAt_some

set_option maxRecDepth 100000 in
set_option maxHeartbeats 4000000 in
theorem tied8_any (k : Nat) (hk8 : k ≤ 8) (a : Option Addr) (c : Nat) (zs : List Int) (s : Nat) (hs : s < 256) (w : World) (ha : Ints w w.heap.size a zs) (h8 : zs.length ≤ 8) (hz : Sets k zs) (hT : Tab w) :
    Calls Tryd.prog 71 #[.agg #[.int .i64 (k : Int), .slice a zs.length c], .int .i64 (s : Int)] w fun e w' => e = .returned (.bool (tieB zs s)) ∧ Below w.heap.size w w' := by
  have hT1 := hT.lt
  have h16 : 1 ≤ 6 := by omega
  have hmx : Tryd.prog.follows .mixedOrders = true := by kernel_rfl
  obtain ⟨W3, hW3, q0, q1, q2, hs3, hb3⟩ : ∃ W3, ((w.alloc (.cells #[.int .i64 (k : Int), .slice a zs.length c] 25)).alloc (.cells #[.int .i64 (s : Int)] 54)).alloc (.cells #[.bool false] 4) = W3 ∧ HasBlk W3 w.heap.size #[.int .i64 (k : Int), .slice a zs.length c] 25 ∧ HasBlk W3 (w.heap.size + 1) #[.int .i64 (s : Int)] 54 ∧ HasBlk W3 (w.heap.size + 1 + 1) #[.bool false] 4 ∧ W3.heap.size = w.heap.size + 1 + 1 + 1 ∧ Below w.heap.size w W3 :=
    ⟨_, rfl, alloc3_0 w _ _ _, alloc3_1 w _ _ _, alloc3_2 w _ _ _, by simp, below3 w _ _ _⟩
  obtain ⟨W4, hW4, r3, hs4, hb4⟩ : ∃ W4, W3.alloc (.cells #[.int .i64 (s : Int)] 54) = W4 ∧ HasBlk W4 (w.heap.size + 1 + 1 + 1) #[.int .i64 (s : Int)] 54 ∧ W4.heap.size = W3.heap.size + 1 ∧ Below W3.heap.size W3 W4 :=
    ⟨_, rfl, by have := alloc_new W3 (.cells #[.int .i64 (s : Int)] 54); rwa [hs3] at this, by simp, below1 W3 _⟩
  have hb04 := hb3.trans (hb4.mono (show w.heap.size ≤ W3.heap.size by omega))
  have HQ0 : Hid (HasBlk W4 w.heap.size #[.int .i64 (k : Int), .slice a zs.length c] 25) := Lib.hid ((hb4.block _ (by omega)).trans q0)
  have HQ1 : Hid (HasBlk W4 (w.heap.size + 1) #[.int .i64 (s : Int)] 54) := Lib.hid ((hb4.block _ (by omega)).trans q1)
  have HQ2 : Hid (HasBlk W4 (w.heap.size + 1 + 1) #[.bool false] 4) := Lib.hid ((hb4.block _ (by omega)).trans q2)
  have hst := membersW_stops (6 - 1) (by omega) (w.heap.size + 1 + 1 + 1) w.heap.size s hs W4 (by omega) (by omega) (by omega) ((blk_cell r3 0).trans (cell1_0 _)) (hT.below hb04 hT1)
  have HST := Lib.hid hst
  have HB4 := Lib.hid hb04
  have HI := Lib.hid ha
  have HML : Hid (∀ v W, v < 8 → Ints W W.heap.size a zs → Calls Tryd.prog 94 #[.agg #[.int .i64 (k : Int), .slice a zs.length c], .int .i64 ((v : Nat) : Int)] W fun e w' => e = .returned (.int .i64 ((arN v zs : Nat) : Int)) ∧ Below W.heap.size W w') := Lib.hid fun v W hv hi => around8_any k hk8 a c zs v hv W hi h8 hz
  have HAL : Hid (∀ v, arN v zs < 256) := Lib.hid fun v => p256 hk8 (arN_lt hz)
  have hq1 := (blk_cell q1 0).trans (cell1_0 _)
  rw [← hW3] at hq1
  have HW3 := Lib.hid hW3
  have HW4 := Lib.hid hW4
  have HS3 := Lib.hid hs3
  have HS4 := Lib.hid hs4
  clear ha q0 q1 q2 r3 hb3 hb4 hb04 hst hW3 hW4 hs3 hs4 hT hz
  refine (callsIn_wide (n := 6)).1 ?_
  refine callsIn_of_wp_marks Tryd.func71 rfl trivial ?_ rfl
  simp only [Tryd.ntmps71, List.size_toArray, List.length_cons, List.length_nil, Nat.reduceAdd, Nat.reduceSub, Array.replicate_succ, Array.replicate_zero, List.push_toArray, List.append_toArray, List.nil_append, List.cons_append]
  gi_wp2_with (refine ⟨trivial, ?_⟩; gi_at_call 46; refine (callsIn_wide.2 (members_any _ _)).mono ?_; rintro e w' ⟨rfl, rfl⟩)
  rw [HW3.out, HW4.out]
  clear hq1
  refine wpIn_rangeFunc_ownG rfl h16 (gf := 78) (lb := #[.pointer (some ⟨w.heap.size + 1 + 1 + 1, 0, none⟩)]) rfl trivial (enters_of Tryd.func78 (by kernel_rfl) rfl)
    HST.out belowK_t (belowK_b (by have := HS3.out; have := HS4.out; omega)) (Below.refl _ _) (fun _ => rfl)
    (fun pre W => ((∀ u ∈ valsW pre, subN s (arN u zs) = true) ∧ HasBlk W w.heap.size #[.int .i64 (k : Int), .slice a zs.length c] 25 ∧ HasBlk W (w.heap.size + 1) #[.int .i64 (s : Int)] 54 ∧ HasBlk W (w.heap.size + 1 + 1) #[.bool false] 4) ∧ Below w.heap.size w W)
    (fun c' pre W => (c' = .ret ∧ ∃ v ∈ valsW pre, subN s (arN v zs) = false ∧ HasBlk W (w.heap.size + 1 + 1) #[.bool false] 4) ∧ Below w.heap.size w W)
    ?own ?ownx
    ⟨⟨by simp [valsW], HQ0.out, HQ1.out, HQ2.out⟩, HB4.out⟩
    (fun x => { tmps := #[.agg #[.int .i64 (k : Int), .slice a zs.length c], .int .i64 (s : Int), .pointer (some ⟨w.heap.size, 0, none⟩), .pointer (some ⟨w.heap.size + 1, 0, none⟩), .pointer (some ⟨w.heap.size + 1 + 1, 0, none⟩), .int .i64 (x.1 : Int), .int .i64 (s : Int), .func (.func 78) #[] #[.pointer (some ⟨w.heap.size + 1 + 1 + 1, 0, none⟩)], .int .i64 (x.1 : Int), undef, undef, undef, undef, undef, undef, undef, undef], defers := [] }) ?assign ?body ?done ?stop
  case own =>
    rintro s A B row ⟨⟨h1, h2, h3, h4⟩, h5⟩ hg hr
    have hr' : ∀ (b : Nat) (cs : Array Value) (t : TypeId), HasBlk A b cs t → row ≠ some b := fun b cs t hb e => by
      obtain ⟨-, o, ho, hc⟩ := hr b e
      rw [show A.heap[b]? = _ from hb] at ho; cases ho; cases hc
    exact ⟨⟨h1, h2.kept hg (hr' _ _ _ h2), h3.kept hg (hr' _ _ _ h3), h4.kept hg (hr' _ _ _ h4)⟩, h5.grown hg (by have := h5.size; omega) (fun r e => by have := (hr r e).1; have := HS3.out; have := HS4.out; omega)⟩
  case ownx =>
    rintro c' s A B row ⟨⟨h1, v, h2, h3, h4⟩, h5⟩ hg hr
    have hr' : ∀ (b : Nat) (cs : Array Value) (t : TypeId), HasBlk A b cs t → row ≠ some b := fun b cs t hb e => by
      obtain ⟨-, o, ho, hc⟩ := hr b e
      rw [show A.heap[b]? = _ from hb] at ho; cases ho; cases hc
    exact ⟨⟨h1, v, h2, h3, h4.kept hg (hr' _ _ _ h4)⟩, h5.grown hg (by have := h5.size; omega) (fun r e => by have := (hr r e).1; have := HS3.out; have := HS4.out; omega)⟩
  case assign =>
    intro l x W K hK
    gi_wp2
    exact hK
  case body =>
    rintro l pre ⟨x, hxm⟩ W ⟨⟨hno, h1, h2, h3⟩, hB⟩ hlt
    obtain ⟨xx, hxx⟩ : ∃ xx : MemW s, xx = ⟨x, hxm⟩ := ⟨_, rfl⟩
    have hx8 : x < 8 := memK_lt hxm
    have HVS : Hid (valsW (pre ++ [xx]) = valsW pre ++ [x]) := Lib.hid (by rw [valsW_snoc, hxx])
    have hWs : w.heap.size ≤ W.heap.size := hB.size
    obtain ⟨A, hA⟩ : ∃ A, A = arN x zs := ⟨_, rfl⟩
    have hA256 : A < 256 := by rw [hA]; exact HAL.out x
    have HC : Hid (∀ W', Below W.heap.size W W' → Calls Tryd.prog 94 #[.agg #[.int .i64 (k : Int), .slice a zs.length c], .int .i64 ((x : Nat) : Int)] W' fun e w' => e = .returned (.int .i64 (A : Int)) ∧ Below W'.heap.size W' w') := Lib.hid fun W' hb' => by
      rw [hA]; exact HML.out x W' hx8 (((HI.out.below hB).mono hWs).below hb' |>.mono hb'.size)
    have HA : Hid (A = arN x zs) := Lib.hid hA
    have HNO := Lib.hid hno
    have H1 := Lib.hid h1
    have H2 := Lib.hid h2
    have H3 := Lib.hid h3
    have HB := Lib.hid hB
    dsimp only
    rw [← hxx]
    clear h1 h2 h3 hB hxm hxx hno hA
    gi_wp2
    refine wpIn_region_held (A := fun ls => { tmps := #[.agg #[.int .i64 (k : Int), .slice a zs.length c], .int .i64 (s : Int), .pointer (some ⟨w.heap.size, 0, none⟩), .pointer (some ⟨w.heap.size + 1, 0, none⟩), .pointer (some ⟨w.heap.size + 1 + 1, 0, none⟩), .int .i64 (x : Int), .int .i64 (s : Int), .func (.func 78) #[] #[.pointer (some ⟨w.heap.size + 1 + 1 + 1, 0, none⟩)], .int .i64 (x : Int), (bif ls.getD 0 false then .int .i64 (s : Int) else undef), (bif ls.getD 1 false then .agg #[.int .i64 (k : Int), .slice a zs.length c] else undef), (bif ls.getD 2 false then .int .i64 (x : Int) else undef), (bif ls.getD 3 false then .int .i64 (A : Int) else undef), (bif ls.getD 4 false then .bool (subN s A) else undef), (bif ls.getD 5 false then .bool (!subN s A) else undef), undef, undef], defers := [] })
      (S := fun _ W'' => Below W.heap.size W W'') hmx (by kernel_rfl) rfl ((Below.refl _ W).drew) ?step ?fin
    case step =>
      intro listed W'' i hsz hi hS
      obtain ⟨l0, l1, l2, l3, l4, l5, rfl⟩ := arr6 listed hsz
      obtain ⟨hi1, hi2⟩ := List.mem_filter.1 hi
      have hi8 : i < 6 := by simpa using hi1
      have HS := Lib.hid hS
      clear hi hi1
      have hcase : i = 0 ∨ i = 1 ∨ i = 2 ∨ i = 3 ∨ i = 4 ∨ i = 5 := by omega
      rcases hcase with rfl | rfl | rfl | rfl | rfl | rfl
      · have d0 := ((hS.cell (p := ⟨w.heap.size + 1, 0, none⟩) (lt_of_some H2.out)).trans (blk_cell H2.out 0)).trans (cell1_0 _)
        clear hS hi2
        refine wpOpIn_of_list rfl ?_
        gi_wp2
        exact ⟨rfl, HS.out⟩
      · have d0 := ((hS.cell (p := ⟨w.heap.size, 0, none⟩) (lt_of_some H1.out)).trans (blk_cell H1.out 0)).trans (cell2_0 _ _)
        have d1 := ((hS.cell (p := ⟨w.heap.size, 1, none⟩) (lt_of_some H1.out)).trans (blk_cell H1.out 1)).trans (cell2_1 _ _)
        clear hS hi2
        refine wpOpIn_of_list rfl ?_
        gi_wp2
        exact ⟨rfl, HS.out⟩
      · clear hS hi2
        refine wpOpIn_of_list rfl ?_
        gi_wp2
        exact ⟨rfl, HS.out⟩
      · have g1 : l1 = true := by simp [Region.binds] at hi2; simp_all
        have g2 : l2 = true := by simp [Region.binds] at hi2; simp_all
        subst g1; subst g2
        clear hS hi2
        refine wpOpIn_of_list rfl ?_
        gi_wp2_with (refine ⟨trivial, ?_⟩; gi_at_call 94; refine (CallsIn.inRound l (callsIn_wide.2 (HC.out _ HS.out))).mono ?_; rintro e w5 ⟨rfl, hb5⟩; have HB5 := Lib.hid hb5; clear hb5)
        exact ⟨rfl, HS.out.trans (HB5.out.mono HS.out.size)⟩
      · have g0 : l0 = true := by simp [Region.binds] at hi2; simp_all
        have g3 : l3 = true := by simp [Region.binds] at hi2; simp_all
        subst g0; subst g3
        clear hS hi2
        refine wpOpIn_of_list rfl ?_
        gi_wp2_with (refine ⟨trivial, ?_⟩; gi_at_call 93; refine (CallsIn.inRound l (callsIn_wide.2 (partOf8_any s A hs hA256 _))).mono ?_; rintro e w5 ⟨rfl, rfl⟩)
        exact ⟨rfl, HS.out⟩
      · have g4 : l4 = true := by simp [Region.binds] at hi2; simp_all
        subst g4
        clear hS hi2
        refine wpOpIn_of_list rfl ?_
        gi_wp2
        exact ⟨rfl, HS.out⟩
    case fin =>
      intro listed W'' hsz hall hS
      obtain ⟨l0, l1, l2, l3, l4, l5, rfl⟩ := arr6 listed hsz
      simp at hall
      obtain ⟨rfl, rfl, rfl, rfl, rfl, rfl⟩ := hall
      change Below W.heap.size W W'' at hS
      have h3' : HasBlk W'' (w.heap.size + 1 + 1) #[.bool false] 4 := (hS.block _ (lt_of_some H3.out)).trans H3.out
      have e0 := (blk_cell h3' 0).trans (cell1_0 _)
      have e1 := blk_frozen h3' 0
      have H3' := Lib.hid h3'
      have HS := Lib.hid hS
      have hks : KeepsFrom W4.heap.size W W'' := ⟨HS.out.size, fun k o _ hk _ => (HS.out.block k (lt_of_some hk)).trans hk⟩
      have hbw : Below w.heap.size W W'' := HS.out.mono HB.out.size
      clear hS h3'
      cases hp : subN s A
      · have HP := Lib.hid hp
        clear hp
        gi_wp2
        refine ⟨hks.trans ((KeepsOthers.setCell _ _ _).from _), ⟨rfl, x, by rw [HVS.out]; simp, by rw [← HA.out]; exact HP.out, Boxed.set _ H3'.out⟩, (HB.out.trans hbw).setCell (p := ⟨w.heap.size + 1 + 1, 0, none⟩) (by show w.heap.size ≤ w.heap.size + 1 + 1; omega) _⟩
      · have HP := Lib.hid hp
        clear hp e0 e1
        gi_wp2
        refine ⟨hks, hbw, ⟨fun u hu => ?_, (HS.out.block _ (lt_of_some H1.out)).trans H1.out, (HS.out.block _ (lt_of_some H2.out)).trans H2.out, H3'.out⟩, HB.out.trans hbw⟩
        rw [HVS.out] at hu
        rcases List.mem_append.1 hu with h | h
        · exact HNO.out u h
        · rw [List.mem_singleton.1 h, ← HA.out]; exact HP.out
  case done =>
    rintro E ys W hE hys ⟨⟨hno, h1, h2, h3⟩, hB⟩ hK
    rw [hys] at hno
    have HF : Hid (tieB zs s = ((s : Int) != 0)) := Lib.hid (by
      unfold tieB
      rw [List.all_eq_true.2 hno, Bool.and_true, Bool.eq_iff_iff, decide_eq_true_eq, bne_iff_ne]
      omega)
    have f0 := (blk_cell h2 0).trans (cell1_0 _)
    have e0 := (blk_cell h3 0).trans (cell1_0 _)
    have e1 := blk_frozen h3 0
    obtain ⟨R, hR⟩ : ∃ R, R = ((s : Int) != 0) := ⟨_, rfl⟩
    have hK2 := (KeepsOthers.setCell W ⟨w.heap.size + 1 + 1, 0, none⟩ (.bool R)).same E _ hK rfl
    have hne2 : w.heap.size + 1 + 1 ≠ E := fun e => by subst e; rw [show W.heap[w.heap.size + 1 + 1]? = _ from h3] at hK; cases hK
    have hb3 : HasBlk ((W.setCell ⟨w.heap.size + 1 + 1, 0, none⟩ (.bool R)).putObj E (.deferred none)) (w.heap.size + 1 + 1) #[.bool R] 4 := (World.putObj_heap_other (by first | exact hne2 | exact Ne.symm hne2)).trans (Boxed.set _ h3)
    have g1 := (blk_cell hb3 0).trans (cell1_0 _)
    have HB := Lib.hid (hB.setCell (p := ⟨w.heap.size + 1 + 1, 0, none⟩) (by show w.heap.size ≤ w.heap.size + 1 + 1; omega) (.bool R))
    have HK2 := Lib.hid hK2
    have HEs : Hid (w.heap.size ≤ E) := Lib.hid (by have := HS3.out; have := HS4.out; omega)
    rw [← hR] at HF
    clear hno h1 h2 h3 hB hK hK2 hb3 hys
    gi_wp2
    rw [← hR]
    refine ⟨by simp, .inl ⟨_, _, rfl, run_takeDeferred HK2.out, ?_⟩⟩
    exact ⟨.bool R, by simp [results, Tryd.f71, go_sem, g1], by rw [HF.out], HB.out.trans (belowK_b (w := w) (Nat.le_refl _) _ E _ _ HEs.out HK2.out rfl rfl)⟩
  case stop =>
    rintro E c' pre W hE hp ⟨⟨rfl, v, hv, hf, h3⟩, hB⟩ hK
    have HF : Hid (tieB zs s = false) := Lib.hid (by
      obtain ⟨rest, hr⟩ := hp
      unfold tieB
      rw [Bool.and_eq_false_iff]
      exact .inr (List.all_eq_false.2 ⟨v, by rw [← hr]; exact List.mem_append_left _ hv, by rw [hf]; simp⟩))
    have hne2 : w.heap.size + 1 + 1 ≠ E := fun e => by subst e; rw [show W.heap[w.heap.size + 1 + 1]? = _ from h3] at hK; cases hK
    have hb3 : HasBlk (W.putObj E (.deferred none)) (w.heap.size + 1 + 1) #[.bool false] 4 := (World.putObj_heap_other (by first | exact hne2 | exact Ne.symm hne2)).trans h3
    have g1 := (blk_cell hb3 0).trans (cell1_0 _)
    have HB := Lib.hid hB
    have HK2 := Lib.hid hK
    have HEs : Hid (w.heap.size ≤ E) := Lib.hid (by have := HS3.out; have := HS4.out; omega)
    clear hv hf h3 hB hK hb3 hp
    gi_wp2
    refine ⟨by simp, .inl ⟨_, _, rfl, run_takeDeferred HK2.out, ?_⟩⟩
    exact ⟨.bool false, by simp [results, Tryd.f71, go_sem, g1], by rw [HF.out], HB.out.trans (belowK_b (w := w) (Nat.le_refl _) _ E _ _ HEs.out HK2.out rfl rfl)⟩

end Go.Proofs.YtgpgocijacgkhaaDoor

/- It is proved what MeetFull and MeetHelly of the program return; conditions: those of each statement. -/
namespace Go.Proofs.YtgpgocijacgkhaaDoor
open Go.RowKit Go.Shelf

theorem club_all {k : Nat} {zs : List Int} (hS : Sets k zs) (h8 : zs.length ≤ 8) : ∀ j, j < zs.length → IsClub k (j, zs[j]?.getD 0) := fun j hj => by
  have := hS _ (getD_mem hj)
  exact ⟨by show j < 8; omega, this.1, this.2⟩

end Go.Proofs.YtgpgocijacgkhaaDoor
