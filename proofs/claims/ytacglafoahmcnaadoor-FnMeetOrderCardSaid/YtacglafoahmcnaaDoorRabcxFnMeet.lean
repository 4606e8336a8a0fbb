/- It is proved what triedCovers returns; conditions: those of each statement. -/
import Derived.RowKit
import Derived.Laws.CopyRow
import Derived.Lib.SlBuf
import Derived.Deep.QuietTactic
import Derived.RangeFuncNested
import Derived.RangeFuncBound
import Derived.RangeFuncCalls
import Derived.RangeFuncLeaves
import Derived.RangeFuncBox
import Derived.RangeFuncWrites
import Derived.StillTailTactics
import Derived.Maps.OwnIn
import Derived.Maps.Ext
import Derived.DeepKeys4
import Derived.MapKept
import Derived.Test.YtacglafoahmcnaaDoorRows
import Derived.WalkKit
import Derived.WalkSpells
import Derived.ProofKit
import Derived.OpenShut
import Derived.ShutString
import Derived.ChangeOld
import Derived.Below
import Derived.Deep.RegionHeld3
import Derived.BigQuiet
import Derived.Lib.Hide
import Derived.Lib.SmallJoins
import Derived.Outline
import Derived.Laws.MakeOwn
import Derived.Laws.OwnMore
import Derived.IntWalk
import Derived.Lib.AppendZeros
import Derived.Maps.AppendAt
import Derived.Deep.AppendLies
import Derived.OwnWalk
import Derived.Lib.SlicesCompact
import Derived.Lib.OwnBridge
import Derived.OrdersIn
import Derived.TacticsIn
import Derived.Shelf.Sort.Plain
import Derived.Shelf.Slices.In.SortNone
import Derived.Shelf.Slices.CompactI
import Derived.Ground.Names2Prog
import Derived.Lib.SliceRun
import Derived.Shelf.Abstract
import Derived.Shelf.RegionOpen
import Derived.OwnWalkIn
import Derived.TacticsInMore
import Derived.LoopNIn
import Derived.LoopIn
import Derived.StillTail
import Derived.StillTactics
import Derived.Shelf.Spec.TrailingZeros
import Derived.Test.YtacglafoahmcnaaDoorRaazxFnMeet
import Derived.Test.YtacglafoahmcnaaDoorRaam
import Derived.Test.YtacglafoahmcnaaDoorRaab
import Derived.Laws.BitsAllLaws
import Derived.Test.YtacglafoahmcnaaDoorRaaa
import Derived.Test.YtacglafoahmcnaaDoorRaac
import Derived.Test.YtacglafoahmcnaaDoorRaag
import Derived.Test.YtacglafoahmcnaaDoorRabbxFnMeet
import Derived.Test.YtacglafoahmcnaaDoorRaae
import Derived.Test.YtacglafoahmcnaaDoorRabaxFnMeet
import Derived.Test.YtacglafoahmcnaaDoorRaaw
import Derived.Test.YtacglafoahmcnaaDoorRaad
namespace Go.Proofs.YtacglafoahmcnaaDoor
open Go.RowKit Go.Shelf

attribute [local go_sem] Oper.semAt_some

theorem FamBox.ownF {β : Type} {B D lo : Nat} (hD : D < B) (m : Int) (f : β → List Int) : OwnF B (fun s W => FamBox D lo m (f s) W) := by
  rintro s X Y row ⟨v, hv, hr⟩ hg hrow
  refine ⟨v, hv.kept hg (fun e' => ?_), hr.kept hg ?_⟩
  · have := (hrow D e').1; omega
  · rcases hr.2 with ⟨rfl, _⟩ | ⟨g, cap, cur, rfl, _, hgb, _⟩
    · exact .inl rfl
    · exact .inr fun e' => (hrow g (by simpa [Value.ownBlock] using e'.symm)).2 _ _ hgb

theorem HasBlk.ownF {β : Type} {B b : Nat} (hb : b < B) (cs : Array Value) (t : TypeId) : OwnF B (fun (_ : β) W => HasBlk W b cs t) := fun s X Y row hs hg hrow =>
  hs.kept hg (fun e' => by have := (hrow b e').1; omega)

theorem nI_len' (xs : List Nat) : (nI xs).length = xs.length := nI_len xs
theorem nI_snoc' (xs : List Nat) (x : Nat) : nI (xs ++ [x]) = nI xs ++ [(x : Int)] := by simp [nI]
end Go.Proofs.YtacglafoahmcnaaDoor

/- It is proved what SpeakerLines of the program and of the reference model returns; conditions: those of each statement. -/
namespace Go.Proofs.YtacglafoahmcnaaDoor
open Go.RowKit Go.Shelf

attribute [local go_sem] Oper.semAt_some

theorem arr6 (l : Array Bool) (h : l.size = 6) : ∃ l0 l1 l2 l3 l4 l5, l = #[l0, l1, l2, l3, l4, l5] := by
  obtain ⟨L⟩ := l
  match L, h with
  | [l0, l1, l2, l3, l4, l5], _ => exact ⟨_, _, _, _, _, _, rfl⟩

end Go.Proofs.YtacglafoahmcnaaDoor

/- It is proved what tied returns for sets of at most eight members; conditions: those of each statement. -/
namespace Go.Proofs.YtacglafoahmcnaaDoor
open Go.RowKit Go.Shelf

attribute [local go_sem] Oper.semAt_some

set_option maxRecDepth 100000 in
set_option maxHeartbeats 4000000 in
theorem tied8_any (k : Nat) (hk8 : k ≤ 8) (a : Option Addr) (c : Nat) (zs : List Int) (s : Nat) (hs : s < 256) (w : World) (ha : Ints w w.heap.size a zs) (h8 : zs.length ≤ 8) (hz : Sets k zs) (hT : Tab w) :
    Calls Tryd.prog 141 #[.agg #[.int .i64 (k : Int), .slice a zs.length c], .int .i64 (s : Int)] w fun e w' => e = .returned (.bool (tieB zs s)) ∧ Below w.heap.size w w' := by
  have hT1 := hT.lt
  have h16 : 1 ≤ 6 := by omega
  have hmx : Tryd.prog.follows .mixedOrders = true := by kernel_rfl
  obtain ⟨W3, hW3, q0, q1, q2, hs3, hb3⟩ : ∃ W3, ((w.alloc (.cells #[.int .i64 (k : Int), .slice a zs.length c] 25)).alloc (.cells #[.int .i64 (s : Int)] 50)).alloc (.cells #[.bool false] 4) = W3 ∧ HasBlk W3 w.heap.size #[.int .i64 (k : Int), .slice a zs.length c] 25 ∧ HasBlk W3 (w.heap.size + 1) #[.int .i64 (s : Int)] 50 ∧ HasBlk W3 (w.heap.size + 1 + 1) #[.bool false] 4 ∧ W3.heap.size = w.heap.size + 1 + 1 + 1 ∧ Below w.heap.size w W3 :=
    ⟨_, rfl, alloc3_0 w _ _ _, alloc3_1 w _ _ _, alloc3_2 w _ _ _, by simp, below3 w _ _ _⟩
  obtain ⟨W4, hW4, r3, hs4, hb4⟩ : ∃ W4, W3.alloc (.cells #[.int .i64 (s : Int)] 50) = W4 ∧ HasBlk W4 (w.heap.size + 1 + 1 + 1) #[.int .i64 (s : Int)] 50 ∧ W4.heap.size = W3.heap.size + 1 ∧ Below W3.heap.size W3 W4 :=
    ⟨_, rfl, by have := alloc_new W3 (.cells #[.int .i64 (s : Int)] 50); rwa [hs3] at this, by simp, below1 W3 _⟩
  have hb04 := hb3.trans (hb4.mono (show w.heap.size ≤ W3.heap.size by omega))
  have HQ0 : Hid (HasBlk W4 w.heap.size #[.int .i64 (k : Int), .slice a zs.length c] 25) := Lib.hid ((hb4.block _ (by omega)).trans q0)
  have HQ1 : Hid (HasBlk W4 (w.heap.size + 1) #[.int .i64 (s : Int)] 50) := Lib.hid ((hb4.block _ (by omega)).trans q1)
  have HQ2 : Hid (HasBlk W4 (w.heap.size + 1 + 1) #[.bool false] 4) := Lib.hid ((hb4.block _ (by omega)).trans q2)
  have hst := membersW_stops (6 - 1) (by omega) (w.heap.size + 1 + 1 + 1) w.heap.size s hs W4 (by omega) (by omega) (by omega) ((blk_cell r3 0).trans (cell1_0 _)) (hT.below hb04 hT1)
  have HST := Lib.hid hst
  have HB4 := Lib.hid hb04
  have HI := Lib.hid ha
  have HML : Hid (∀ v W, v < 8 → Ints W W.heap.size a zs → Calls Tryd.prog 126 #[.agg #[.int .i64 (k : Int), .slice a zs.length c], .int .i64 ((v : Nat) : Int)] W fun e w' => e = .returned (.int .i64 ((arN v zs : Nat) : Int)) ∧ Below W.heap.size W w') := Lib.hid fun v W hv hi => around8_any k hk8 a c zs v hv W hi h8 hz
  have HAL : Hid (∀ v, arN v zs < 256) := Lib.hid fun v => p256 hk8 (arN_lt hz)
  have hq1 := (blk_cell q1 0).trans (cell1_0 _)
  rw [← hW3] at hq1
  have HW3 := Lib.hid hW3
  have HW4 := Lib.hid hW4
  have HS3 := Lib.hid hs3
  have HS4 := Lib.hid hs4
  clear ha q0 q1 q2 r3 hb3 hb4 hb04 hst hW3 hW4 hs3 hs4 hT hz
  refine (callsIn_wide (n := 6)).1 ?_
  refine callsIn_of_wp_marks Tryd.func141 rfl trivial ?_ rfl
  simp only [Tryd.ntmps141, List.size_toArray, List.length_cons, List.length_nil, Nat.reduceAdd, Nat.reduceSub, Array.replicate_succ, Array.replicate_zero, List.push_toArray, List.append_toArray, List.nil_append, List.cons_append]
  gi_wp2_with (refine ⟨trivial, ?_⟩; gi_at_call 49; refine (callsIn_wide.2 (members_any _ _)).mono ?_; rintro e w' ⟨rfl, rfl⟩)
  rw [HW3.out, HW4.out]
  clear hq1
  refine wpIn_rangeFunc_ownG rfl h16 (gf := 89) (lb := #[.pointer (some ⟨w.heap.size + 1 + 1 + 1, 0, none⟩)]) rfl trivial (enters_of Tryd.func89 (by kernel_rfl) rfl)
    HST.out belowK_t (belowK_b (by have := HS3.out; have := HS4.out; omega)) (Below.refl _ _) (fun _ => rfl)
    (fun pre W => ((∀ u ∈ valsW pre, subN s (arN u zs) = true) ∧ HasBlk W w.heap.size #[.int .i64 (k : Int), .slice a zs.length c] 25 ∧ HasBlk W (w.heap.size + 1) #[.int .i64 (s : Int)] 50 ∧ HasBlk W (w.heap.size + 1 + 1) #[.bool false] 4) ∧ Below w.heap.size w W)
    (fun c' pre W => (c' = .ret ∧ ∃ v ∈ valsW pre, subN s (arN v zs) = false ∧ HasBlk W (w.heap.size + 1 + 1) #[.bool false] 4) ∧ Below w.heap.size w W)
    ?own ?ownx
    ⟨⟨by simp [valsW], HQ0.out, HQ1.out, HQ2.out⟩, HB4.out⟩
    (fun x => { tmps := #[.agg #[.int .i64 (k : Int), .slice a zs.length c], .int .i64 (s : Int), .pointer (some ⟨w.heap.size, 0, none⟩), .pointer (some ⟨w.heap.size + 1, 0, none⟩), .pointer (some ⟨w.heap.size + 1 + 1, 0, none⟩), .int .i64 (x.1 : Int), .int .i64 (s : Int), .func (.func 89) #[] #[.pointer (some ⟨w.heap.size + 1 + 1 + 1, 0, none⟩)], .int .i64 (x.1 : Int), undef, undef, undef, undef, undef, undef, undef, undef], defers := [] }) ?assign ?body ?done ?stop
  case own =>
    rintro s A B row ⟨⟨h1, h2, h3, h4⟩, h5⟩ hg hr
    have hr' : ∀ (b : Nat) (cs : Array Value) (t : TypeId), HasBlk A b cs t → row ≠ some b := fun b cs t hb e => by
      obtain ⟨-, o, ho, hc⟩ := hr b e
      rw [show A.heap[b]? = _ from hb] at ho; cases ho; cases hc
    exact ⟨⟨h1, h2.kept hg (hr' _ _ _ h2), h3.kept hg (hr' _ _ _ h3), h4.kept hg (hr' _ _ _ h4)⟩, h5.grown hg (by have := h5.size; omega) (fun r e => by have := (hr r e).1; have := HS3.out; have := HS4.out; omega)⟩
  case ownx =>
    rintro c' s A B row ⟨⟨h1, v, h2, h3, h4⟩, h5⟩ hg hr
    have hr' : ∀ (b : Nat) (cs : Array Value) (t : TypeId), HasBlk A b cs t → row ≠ some b := fun b cs t hb e => by
      obtain ⟨-, o, ho, hc⟩ := hr b e
      rw [show A.heap[b]? = _ from hb] at ho; cases ho; cases hc
    exact ⟨⟨h1, v, h2, h3, h4.kept hg (hr' _ _ _ h4)⟩, h5.grown hg (by have := h5.size; omega) (fun r e => by have := (hr r e).1; have := HS3.out; have := HS4.out; omega)⟩
  case assign =>
    intro l x W K hK
    gi_wp2
    exact hK
  case body =>
    rintro l pre ⟨x, hxm⟩ W ⟨⟨hno, h1, h2, h3⟩, hB⟩ hlt
    obtain ⟨xx, hxx⟩ : ∃ xx : MemW s, xx = ⟨x, hxm⟩ := ⟨_, rfl⟩
    have hx8 : x < 8 := memK_lt hxm
    have HVS : Hid (valsW (pre ++ [xx]) = valsW pre ++ [x]) := Lib.hid (by rw [valsW_snoc, hxx])
    have hWs : w.heap.size ≤ W.heap.size := hB.size
    obtain ⟨A, hA⟩ : ∃ A, A = arN x zs := ⟨_, rfl⟩
    have hA256 : A < 256 := by rw [hA]; exact HAL.out x
    have HC : Hid (∀ W', Below W.heap.size W W' → Calls Tryd.prog 126 #[.agg #[.int .i64 (k : Int), .slice a zs.length c], .int .i64 ((x : Nat) : Int)] W' fun e w' => e = .returned (.int .i64 (A : Int)) ∧ Below W'.heap.size W' w') := Lib.hid fun W' hb' => by
      rw [hA]; exact HML.out x W' hx8 (((HI.out.below hB).mono hWs).below hb' |>.mono hb'.size)
    have HA : Hid (A = arN x zs) := Lib.hid hA
    have HNO := Lib.hid hno
    have H1 := Lib.hid h1
    have H2 := Lib.hid h2
    have H3 := Lib.hid h3
    have HB := Lib.hid hB
    dsimp only
    rw [← hxx]
    clear h1 h2 h3 hB hxm hxx hno hA
    gi_wp2
    refine wpIn_region_held (A := fun ls => { tmps := #[.agg #[.int .i64 (k : Int), .slice a zs.length c], .int .i64 (s : Int), .pointer (some ⟨w.heap.size, 0, none⟩), .pointer (some ⟨w.heap.size + 1, 0, none⟩), .pointer (some ⟨w.heap.size + 1 + 1, 0, none⟩), .int .i64 (x : Int), .int .i64 (s : Int), .func (.func 89) #[] #[.pointer (some ⟨w.heap.size + 1 + 1 + 1, 0, none⟩)], .int .i64 (x : Int), (bif ls.getD 0 false then .int .i64 (s : Int) else undef), (bif ls.getD 1 false then .agg #[.int .i64 (k : Int), .slice a zs.length c] else undef), (bif ls.getD 2 false then .int .i64 (x : Int) else undef), (bif ls.getD 3 false then .int .i64 (A : Int) else undef), (bif ls.getD 4 false then .bool (subN s A) else undef), (bif ls.getD 5 false then .bool (!subN s A) else undef), undef, undef], defers := [] })
      (S := fun _ W'' => Below W.heap.size W W'') hmx (by kernel_rfl) rfl ((Below.refl _ W).drew) ?step ?fin
    case step =>
      intro listed W'' i hsz hi hS
      obtain ⟨l0, l1, l2, l3, l4, l5, rfl⟩ := arr6 listed hsz
      obtain ⟨hi1, hi2⟩ := List.mem_filter.1 hi
      have hi8 : i < 6 := by simpa using hi1
      have HS := Lib.hid hS
      clear hi hi1
      have hcase : i = 0 ∨ i = 1 ∨ i = 2 ∨ i = 3 ∨ i = 4 ∨ i = 5 := by omega
      rcases hcase with rfl | rfl | rfl | rfl | rfl | rfl
      · have d0 := ((hS.cell (p := ⟨w.heap.size + 1, 0, none⟩) (lt_of_some H2.out)).trans (blk_cell H2.out 0)).trans (cell1_0 _)
        clear hS hi2
        refine wpOpIn_of_list rfl ?_
        gi_wp2
        exact ⟨rfl, HS.out⟩
      · have d0 := ((hS.cell (p := ⟨w.heap.size, 0, none⟩) (lt_of_some H1.out)).trans (blk_cell H1.out 0)).trans (cell2_0 _ _)
        have d1 := ((hS.cell (p := ⟨w.heap.size, 1, none⟩) (lt_of_some H1.out)).trans (blk_cell H1.out 1)).trans (cell2_1 _ _)
        clear hS hi2
        refine wpOpIn_of_list rfl ?_
        gi_wp2
        exact ⟨rfl, HS.out⟩
      · clear hS hi2
        refine wpOpIn_of_list rfl ?_
        gi_wp2
        exact ⟨rfl, HS.out⟩
      · have g1 : l1 = true := by simp [Region.binds] at hi2; simp_all
        have g2 : l2 = true := by simp [Region.binds] at hi2; simp_all
        subst g1; subst g2
        clear hS hi2
        refine wpOpIn_of_list rfl ?_
        gi_wp2_with (refine ⟨trivial, ?_⟩; gi_at_call 126; refine (CallsIn.inRound l (callsIn_wide.2 (HC.out _ HS.out))).mono ?_; rintro e w5 ⟨rfl, hb5⟩; have HB5 := Lib.hid hb5; clear hb5)
        exact ⟨rfl, HS.out.trans (HB5.out.mono HS.out.size)⟩
      · have g0 : l0 = true := by simp [Region.binds] at hi2; simp_all
        have g3 : l3 = true := by simp [Region.binds] at hi2; simp_all
        subst g0; subst g3
        clear hS hi2
        refine wpOpIn_of_list rfl ?_
        gi_wp2_with (refine ⟨trivial, ?_⟩; gi_at_call 130; refine (CallsIn.inRound l (callsIn_wide.2 (partOf8_any s A hs hA256 _))).mono ?_; rintro e w5 ⟨rfl, rfl⟩)
        exact ⟨rfl, HS.out⟩
      · have g4 : l4 = true := by simp [Region.binds] at hi2; simp_all
        subst g4
        clear hS hi2
        refine wpOpIn_of_list rfl ?_
        gi_wp2
        exact ⟨rfl, HS.out⟩
    case fin =>
      intro listed W'' hsz hall hS
      obtain ⟨l0, l1, l2, l3, l4, l5, rfl⟩ := arr6 listed hsz
      simp at hall
      obtain ⟨rfl, rfl, rfl, rfl, rfl, rfl⟩ := hall
      change Below W.heap.size W W'' at hS
      have h3' : HasBlk W'' (w.heap.size + 1 + 1) #[.bool false] 4 := (hS.block _ (lt_of_some H3.out)).trans H3.out
      have e0 := (blk_cell h3' 0).trans (cell1_0 _)
      have e1 := blk_frozen h3' 0
      have H3' := Lib.hid h3'
      have HS := Lib.hid hS
      have hks : KeepsFrom W4.heap.size W W'' := ⟨HS.out.size, fun k o _ hk _ => (HS.out.block k (lt_of_some hk)).trans hk⟩
      have hbw : Below w.heap.size W W'' := HS.out.mono HB.out.size
      clear hS h3'
      cases hp : subN s A
      · have HP := Lib.hid hp
        clear hp
        gi_wp2
        refine ⟨hks.trans ((KeepsOthers.setCell _ _ _).from _), ⟨rfl, x, by rw [HVS.out]; simp, by rw [← HA.out]; exact HP.out, Boxed.set _ H3'.out⟩, (HB.out.trans hbw).setCell (p := ⟨w.heap.size + 1 + 1, 0, none⟩) (by show w.heap.size ≤ w.heap.size + 1 + 1; omega) _⟩
      · have HP := Lib.hid hp
        clear hp e0 e1
        gi_wp2
        refine ⟨hks, hbw, ⟨fun u hu => ?_, (HS.out.block _ (lt_of_some H1.out)).trans H1.out, (HS.out.block _ (lt_of_some H2.out)).trans H2.out, H3'.out⟩, HB.out.trans hbw⟩
        rw [HVS.out] at hu
        rcases List.mem_append.1 hu with h | h
        · exact HNO.out u h
        · rw [List.mem_singleton.1 h, ← HA.out]; exact HP.out
  case done =>
    rintro E ys W hE hys ⟨⟨hno, h1, h2, h3⟩, hB⟩ hK
    rw [hys] at hno
    have HF : Hid (tieB zs s = ((s : Int) != 0)) := Lib.hid (by
      unfold tieB
      rw [List.all_eq_true.2 hno, Bool.and_true, Bool.eq_iff_iff, decide_eq_true_eq, bne_iff_ne]
      omega)
    have f0 := (blk_cell h2 0).trans (cell1_0 _)
    have e0 := (blk_cell h3 0).trans (cell1_0 _)
    have e1 := blk_frozen h3 0
    obtain ⟨R, hR⟩ : ∃ R, R = ((s : Int) != 0) := ⟨_, rfl⟩
    have hK2 := (KeepsOthers.setCell W ⟨w.heap.size + 1 + 1, 0, none⟩ (.bool R)).same E _ hK rfl
    have hne2 : w.heap.size + 1 + 1 ≠ E := fun e => by subst e; rw [show W.heap[w.heap.size + 1 + 1]? = _ from h3] at hK; cases hK
    have hb3 : HasBlk ((W.setCell ⟨w.heap.size + 1 + 1, 0, none⟩ (.bool R)).putObj E (.deferred none)) (w.heap.size + 1 + 1) #[.bool R] 4 := (World.putObj_heap_other (by first | exact hne2 | exact Ne.symm hne2)).trans (Boxed.set _ h3)
    have g1 := (blk_cell hb3 0).trans (cell1_0 _)
    have HB := Lib.hid (hB.setCell (p := ⟨w.heap.size + 1 + 1, 0, none⟩) (by show w.heap.size ≤ w.heap.size + 1 + 1; omega) (.bool R))
    have HK2 := Lib.hid hK2
    have HEs : Hid (w.heap.size ≤ E) := Lib.hid (by have := HS3.out; have := HS4.out; omega)
    rw [← hR] at HF
    clear hno h1 h2 h3 hB hK hK2 hb3 hys
    gi_wp2
    rw [← hR]
    refine ⟨by simp, .inl ⟨_, _, rfl, run_takeDeferred HK2.out, ?_⟩⟩
    exact ⟨.bool R, by simp [results, Tryd.f141, go_sem, g1], by rw [HF.out], HB.out.trans (belowK_b (w := w) (Nat.le_refl _) _ E _ _ HEs.out HK2.out rfl rfl)⟩
  case stop =>
    rintro E c' pre W hE hp ⟨⟨rfl, v, hv, hf, h3⟩, hB⟩ hK
    have HF : Hid (tieB zs s = false) := Lib.hid (by
      obtain ⟨rest, hr⟩ := hp
      unfold tieB
      rw [Bool.and_eq_false_iff]
      exact .inr (List.all_eq_false.2 ⟨v, by rw [← hr]; exact List.mem_append_left _ hv, by rw [hf]; simp⟩))
    have hne2 : w.heap.size + 1 + 1 ≠ E := fun e => by subst e; rw [show W.heap[w.heap.size + 1 + 1]? = _ from h3] at hK; cases hK
    have hb3 : HasBlk (W.putObj E (.deferred none)) (w.heap.size + 1 + 1) #[.bool false] 4 := (World.putObj_heap_other (by first | exact hne2 | exact Ne.symm hne2)).trans h3
    have g1 := (blk_cell hb3 0).trans (cell1_0 _)
    have HB := Lib.hid hB
    have HK2 := Lib.hid hK
    have HEs : Hid (w.heap.size ≤ E) := Lib.hid (by have := HS3.out; have := HS4.out; omega)
    clear hv hf h3 hB hK hb3 hp
    gi_wp2
    refine ⟨by simp, .inl ⟨_, _, rfl, run_takeDeferred HK2.out, ?_⟩⟩
    exact ⟨.bool false, by simp [results, Tryd.f141, go_sem, g1], by rw [HF.out], HB.out.trans (belowK_b (w := w) (Nat.le_refl _) _ E _ _ HEs.out HK2.out rfl rfl)⟩

end Go.Proofs.YtacglafoahmcnaaDoor

/- It is proved what inClub and loose return for sets of at most eight members; conditions: those of each statement. -/
namespace Go.Proofs.YtacglafoahmcnaaDoor
open Go.RowKit Go.Shelf

theorem in1_any (s z : Nat) (hs : s < 256) (hz : z < 256) (Bs : Nat) (w : World) (hb : Boxed w Bs 50 (.int .i64 (s : Int))) :
    Calls Tryd.prog 149 #[.int .i64 (z : Int), .pointer (some ⟨Bs, 0, none⟩)] w fun e w' => e = .returned (.bool (subN s z)) ∧ w = w' := by
  have x0 := (blk_cell hb 0).trans (cell1_0 _)
  have H := Lib.hid (partOf8_any s z hs hz w)
  clear hb
  go_enter Tryd.func149, Tryd.ntmps149
  go_wp2_with fail
  refine H.out.mono ?_
  rintro e w1 ⟨rfl, rfl⟩
  go_wp2
  go_ret
  exact ⟨rfl, rfl⟩

theorem in_yes {s : Nat} {zs : List Int} {k : Nat} (hk : k < zs.length) (h : subN s (zs[k]?.getD 0).toNat = true) : inC zs s = true := by
  unfold inC
  rw [List.any_eq_true]
  exact ⟨_, getD_mem hk, h⟩

theorem in_no {s : Nat} {zs : List Int} (h : ∀ j, j < zs.length → subN s (zs[j]?.getD 0).toNat = false) : inC zs s = false := by
  unfold inC
  rw [List.any_eq_false]
  intro z hz
  obtain ⟨j, hj, rfl⟩ := List.mem_iff_getElem.1 hz
  have := h j hj
  rw [List.getElem?_eq_getElem hj, Option.getD_some] at this
  rw [this]
  decide

set_option maxRecDepth 100000 in
set_option maxHeartbeats 2000000 in
theorem indexIn_any (k : Nat) (hk8 : k ≤ 8) (b : Option Addr) (c : Nat) (zs : List Int) (s : Nat) (hs : s < 256) (hz : Sets k zs) (hx8 : zs.length ≤ 1048576) (Bs : Nat) (w : World) (hb : Ints w w.heap.size b zs) (hx : Boxed w Bs 50 (.int .i64 (s : Int))) :
    Calls Tryd.prog 131 #[.slice b zs.length c, .func (.func 149) #[] #[.pointer (some ⟨Bs, 0, none⟩)]] w fun e w' =>
      ∃ r : Int, e = .returned (.int .i64 r) ∧ decide (0 ≤ r) = inC zs s ∧ w = w' := by
  obtain ⟨N, hN⟩ : ∃ N, N = zs.length := ⟨_, rfl⟩
  have HN : Hid (N = zs.length) := Lib.hid hN
  have HI := Lib.hid hb
  have HW : Hid (∀ (z : Nat), z < 256 → Calls Tryd.prog 149 #[.int .i64 (z : Int), .pointer (some ⟨Bs, 0, none⟩)] w fun e w' => e = .returned (.bool (subN s z)) ∧ w = w') := Lib.hid fun z hzz => in1_any s z hs hzz Bs w hx
  have HZ := Lib.hid hz
  rw [← hN]
  rw [← hN] at hx8
  clear hN hb hx hz
  go_enter Tryd.func131, Tryd.ntmps131
  go_wp2
  go_loop [5, 8] (fun _ i => ∃ k : Nat, k ≤ N ∧ i = .int .i64 k ∧ Hid (∀ j, j < k → subN s (zs[j]?.getD 0).toNat = false)) (fun _ i => N - (intOf i).toNat)
  case atStart => exact ⟨0, Nat.zero_le _, rfl, Lib.hid (fun j hj => by omega)⟩
  case round =>
    obtain ⟨j, hk, rfl, HE⟩ := hrel
    by_cases hlt : j < N
    · have hki : (j : Int) < (N : Int) := by omega
      have hk0 : (0 : Int) ≤ (j : Int) := by omega
      obtain ⟨b1, o1, rfl, hb1, hc⟩ := HI.out.at_ (k := j) (by rw [← HN.out]; exact hlt)
      have hzm := HZ.out _ (getD_mem (zs := zs) (i := j) (by rw [← HN.out]; exact hlt))
      obtain ⟨z, hzz⟩ : ∃ z : Nat, zs[j]?.getD 0 = (z : Int) := ⟨(zs[j]?.getD 0).toNat, by have := hzm.1; omega⟩
      have hzn : z < 256 := by
        have := p256 hk8 hzm.2
        rw [hzz, Int.toNat_natCast] at this
        exact this
      have HC := Lib.hid (HW.out z hzn)
      have HZZ : Hid ((zs[j]?.getD 0).toNat = z) := Lib.hid (by rw [hzz, Int.toNat_natCast])
      rw [hzz] at hc
      clear hzz hzm
      cases hf : subN s z
      · have HF := Lib.hid hf
        clear hf
        go_wp2_with fail
        refine HC.out.mono ?_
        rintro e w3 ⟨rfl, rfl⟩
        rw [HF.out]
        have HR : Hid (∀ i, i < j + 1 → subN s (zs[i]?.getD 0).toNat = false) := Lib.hid fun i hi => by
          rcases Nat.lt_succ_iff_lt_or_eq.1 hi with h | rfl
          · exact HE.out i h
          · rw [HZZ.out]; exact HF.out
        go_wp2
        go_round
        case rel => exact ⟨j + 1, by omega, by go_num, HR⟩
        case measure => simp [intOf]; omega
      · have HF := Lib.hid hf
        clear hf
        go_wp2_with fail
        refine HC.out.mono ?_
        rintro e w3 ⟨rfl, rfl⟩
        rw [HF.out]
        go_wp2
        go_ret
        exact ⟨_, rfl, by rw [in_yes (k := j) (by rw [← HN.out]; exact hlt) (by rw [HZZ.out]; exact HF.out)]; simp, rfl⟩
    · obtain rfl : j = N := by omega
      go_wp2
      go_ret
      exact ⟨_, rfl, by rw [in_no (by rw [← HN.out]; exact HE.out)]; decide, rfl⟩

set_option maxRecDepth 100000 in
set_option maxHeartbeats 1600000 in
theorem containsIn_any (k : Nat) (hk8 : k ≤ 8) (b : Option Addr) (c : Nat) (zs : List Int) (s : Nat) (hs : s < 256) (hz : Sets k zs) (hx8 : zs.length ≤ 1048576) (Bs : Nat) (w : World) (hb : Ints w w.heap.size b zs) (hx : Boxed w Bs 50 (.int .i64 (s : Int))) :
    Calls Tryd.prog 100 #[.slice b zs.length c, .func (.func 149) #[] #[.pointer (some ⟨Bs, 0, none⟩)]] w fun e w' => e = .returned (.bool (inC zs s)) ∧ w = w' := by
  have H := Lib.hid (indexIn_any k hk8 b c zs s hs hz hx8 Bs w hb hx)
  clear hb hx hz
  go_enter Tryd.func100, Tryd.ntmps100
  go_wp2_with fail
  refine H.out.mono ?_
  rintro e w1 ⟨r, rfl, hr, rfl⟩
  have HR := Lib.hid hr
  clear hr
  by_cases h : 0 ≤ r
  · go_wp2
    go_ret
    exact ⟨by rw [← HR.out, decide_eq_true h]; rfl, rfl⟩
  · have h' : r < 0 := by omega
    go_wp2
    go_ret
    exact ⟨by rw [← HR.out]; rfl, rfl⟩

set_option maxRecDepth 100000 in
theorem inClub8_any (k : Nat) (hk8 : k ≤ 8) (a : Option Addr) (c : Nat) (zs : List Int) (s : Nat) (hs : s < 256) (w : World) (ha : Ints w w.heap.size a zs) (h8 : zs.length ≤ 8) (hz : Sets k zs) :
    Calls Tryd.prog 142 #[.agg #[.int .i64 (k : Int), .slice a zs.length c], .int .i64 (s : Int)] w fun e w' => e = .returned (.bool (inC zs s)) ∧ Below w.heap.size w w' := by
  have HB := Lib.hid (below2 w (.cells #[.int .i64 (k : Int), .slice a zs.length c] 25) (.cells #[.int .i64 (s : Int)] 50))
  have HC := Lib.hid (containsIn_any k hk8 a c zs s hs hz (by omega) (w.heap.size + 1) ((w.alloc (.cells #[.int .i64 (k : Int), .slice a zs.length c] 25)).alloc (.cells #[.int .i64 (s : Int)] 50)) ((ha.below HB.out).mono (by simp; omega)) (alloc2_1 w _ _))
  clear ha hz
  go_enter Tryd.func142, Tryd.ntmps142
  go_wp2_with fail
  refine HC.out.mono ?_
  rintro e w1 ⟨rfl, rfl⟩
  go_wp2
  go_ret
  exact ⟨rfl, HB.out⟩

set_option maxRecDepth 100000 in
theorem loose8_any (k : Nat) (hk8 : k ≤ 8) (a : Option Addr) (c : Nat) (zs : List Int) (s : Nat) (hs : s < 256) (w : World) (ha : Ints w w.heap.size a zs) (h8 : zs.length ≤ 8) (hz : Sets k zs) (hT : Tab w) :
    Calls Tryd.prog 121 #[.agg #[.int .i64 (k : Int), .slice a zs.length c], .int .i64 (s : Int)] w fun e w' => e = .returned (.bool (looB zs s)) ∧ Below w.heap.size w w' := by
  have F1 := FB.start (m := (k : Int)) (c := c) ha
  have HB0 := Lib.hid (below1 w (.cells #[.int .i64 (k : Int), .slice a zs.length c] 25))
  have HF1 := Lib.hid F1
  have HTI := Lib.hid (tied8_any k hk8 a c zs s hs _ F1.ints h8 hz (hT.step HB0.out))
  have HIC : Hid (∀ W, Ints W W.heap.size a zs → Calls Tryd.prog 142 #[.agg #[.int .i64 (k : Int), .slice a zs.length c], .int .i64 (s : Int)] W fun e w' => e = .returned (.bool (inC zs s)) ∧ Below W.heap.size W w') := Lib.hid fun W h => inClub8_any k hk8 a c zs s hs W h h8 hz
  have HLO : Hid (looB zs s = (tieB zs s && !inC zs s)) := Lib.hid rfl
  obtain ⟨T, hT'⟩ : ∃ T, T = tieB zs s := ⟨_, rfl⟩
  obtain ⟨I, hI⟩ : ∃ I, I = inC zs s := ⟨_, rfl⟩
  rw [← hT'] at HTI HLO
  rw [← hI] at HIC HLO
  have f_0 := F1.x0
  have f_1 := F1.x1
  clear F1 ha hz hT' hI hT
  go_enter Tryd.func121, Tryd.ntmps121
  go_wp2_with fail
  refine HTI.out.mono ?_
  rintro e w2 ⟨rfl, hb2⟩
  have HF2 := Lib.hid (HF1.out.step hb2)
  have HB2 := Lib.hid (HB0.out.trans (hb2.mono (by simp)))
  clear hb2 f_0 f_1 HF1 HB0 HTI
  have f_0 := HF2.out.x0
  have f_1 := HF2.out.x1
  have HC := Lib.hid (HIC.out w2 HF2.out.ints)
  cases T
  · have HR : Hid (looB zs s = false) := Lib.hid (by rw [HLO.out]; rfl)
    clear HLO
    go_wp2
    go_ret
    exact ⟨by rw [HR.out]; rfl, HB2.out⟩
  · have HR : Hid (looB zs s = !I) := Lib.hid (by rw [HLO.out]; rfl)
    clear HLO
    go_wp2_with fail
    refine HC.out.mono ?_
    rintro e w3 ⟨rfl, hb3⟩
    have HB3 := Lib.hid (HB2.out.trans (hb3.mono HB2.out.size))
    clear hb3
    go_wp2
    go_ret
    exact ⟨by rw [HR.out]; rfl, HB3.out⟩

end Go.Proofs.YtacglafoahmcnaaDoor
