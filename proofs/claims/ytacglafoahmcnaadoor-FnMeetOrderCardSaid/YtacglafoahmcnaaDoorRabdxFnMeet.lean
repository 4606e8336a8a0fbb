/- It is proved what tiedInClubs returns for sets of at most eight members; conditions: those of each statement. -/
import Derived.RowKit
import Derived.Laws.CopyRow
import Derived.Lib.SlBuf
import Derived.Deep.QuietTactic
import Derived.RangeFuncNested
import Derived.RangeFuncBound
import Derived.RangeFuncCalls
import Derived.RangeFuncLeaves
import Derived.RangeFuncBox
import Derived.RangeFuncWrites
import Derived.StillTailTactics
import Derived.Maps.OwnIn
import Derived.Maps.Ext
import Derived.DeepKeys4
import Derived.MapKept
import Derived.Test.YtacglafoahmcnaaDoorRows
import Derived.WalkKit
import Derived.WalkSpells
import Derived.ProofKit
import Derived.OpenShut
import Derived.ShutString
import Derived.ChangeOld
import Derived.Below
import Derived.Deep.RegionHeld3
import Derived.BigQuiet
import Derived.Lib.Hide
import Derived.Lib.SmallJoins
import Derived.Outline
import Derived.Laws.MakeOwn
import Derived.Laws.OwnMore
import Derived.IntWalk
import Derived.Lib.AppendZeros
import Derived.Maps.AppendAt
import Derived.Deep.AppendLies
import Derived.OwnWalk
import Derived.Lib.SlicesCompact
import Derived.Lib.OwnBridge
import Derived.OrdersIn
import Derived.TacticsIn
import Derived.Shelf.Sort.Plain
import Derived.Shelf.Slices.In.SortNone
import Derived.Shelf.Slices.CompactI
import Derived.Ground.Names2Prog
import Derived.Lib.SliceRun
import Derived.Laws.BitsAllLaws
import Derived.Shelf.RegionOpen
import Derived.Shelf.Abstract
import Derived.OwnWalkIn
import Derived.TacticsInMore
import Derived.LoopNIn
import Derived.LoopIn
import Derived.StillTail
import Derived.StillTactics
import Derived.Shelf.Spec.TrailingZeros
import Derived.Test.YtacglafoahmcnaaDoorRaaa
import Derived.Test.YtacglafoahmcnaaDoorRaac
import Derived.Test.YtacglafoahmcnaaDoorRaag
import Derived.Test.YtacglafoahmcnaaDoorRaazxFnMeet
import Derived.Test.YtacglafoahmcnaaDoorRabbxFnMeet
import Derived.Test.YtacglafoahmcnaaDoorRabcxFnMeet
import Derived.Test.YtacglafoahmcnaaDoorRaam
import Derived.Test.YtacglafoahmcnaaDoorRaad
import Derived.Test.YtacglafoahmcnaaDoorRaab
import Derived.Test.YtacglafoahmcnaaDoorRaae
import Derived.Test.YtacglafoahmcnaaDoorRaal
import Derived.Test.YtacglafoahmcnaaDoorRaaw
import Derived.Test.YtacglafoahmcnaaDoorTb
import Derived.Test.YtacglafoahmcnaaDoorUb
import Derived.Deep.RegionLaw
namespace Go.Proofs.YtacglafoahmcnaaDoor
open Go.RowKit Go.Shelf

attribute [local go_sem] Oper.semAt_some

set_option maxRecDepth 100000 in
set_option maxHeartbeats 4000000 in
theorem tiedIn8_any (k : Nat) (hk8 : k ≤ 8) (a : Option Addr) (c : Nat) (zs : List Int) (w : World) (ha : Ints w w.heap.size a zs) (h8 : zs.length ≤ 8) (hz : Sets k zs) (hT : Tab w) :
    Calls Tryd.prog 85 #[.agg #[.int .i64 (k : Int), .slice a zs.length c]] w fun e w' => e = .returned (.bool (tcB k zs)) ∧ Below w.heap.size w w' := by
  have hT1 := hT.lt
  have h16 : 1 ≤ 6 := by omega
  obtain ⟨W2, hW2, q0, q1, hs2, hb2⟩ : ∃ W2, (w.alloc (.cells #[.int .i64 (k : Int), .slice a zs.length c] 25)).alloc (.cells #[.bool false] 4) = W2 ∧ HasBlk W2 w.heap.size #[.int .i64 (k : Int), .slice a zs.length c] 25 ∧ HasBlk W2 (w.heap.size + 1) #[.bool false] 4 ∧ W2.heap.size = w.heap.size + 1 + 1 ∧ Below w.heap.size w W2 :=
    ⟨_, rfl, alloc2_0 w _ _, alloc2_1 w _ _, by simp, below2 w _ _⟩
  obtain ⟨W4, hW4, r3, hs4, hb4⟩ : ∃ W4, (W2.alloc (.cells #[.int .i64 (k : Int), .slice a zs.length c] 25)).alloc (.cells #[.int .i64 ((2 ^ k - 1 : Nat) : Int)] 50) = W4 ∧ HasBlk W4 (w.heap.size + 1 + 1 + 1) #[.int .i64 ((2 ^ k - 1 : Nat) : Int)] 50 ∧ W4.heap.size = W2.heap.size + 1 + 1 ∧ Below W2.heap.size W2 W4 :=
    ⟨_, rfl, by have := alloc2_1 W2 (.cells #[.int .i64 (k : Int), .slice a zs.length c] 25) (.cells #[.int .i64 ((2 ^ k - 1 : Nat) : Int)] 50); rwa [hs2] at this, by simp, below2 W2 _ _⟩
  have hb04 := hb2.trans (hb4.mono (show w.heap.size ≤ W2.heap.size by omega))
  have HQ0 : Hid (HasBlk W4 w.heap.size #[.int .i64 (k : Int), .slice a zs.length c] 25) := Lib.hid ((hb4.block _ (by omega)).trans q0)
  have HQ1 : Hid (HasBlk W4 (w.heap.size + 1) #[.bool false] 4) := Lib.hid ((hb4.block _ (by omega)).trans q1)
  have HQ2 : Hid (HasBlk W4 (w.heap.size + 1 + 1 + 1) #[.int .i64 ((2 ^ k - 1 : Nat) : Int)] 50) := Lib.hid r3
  have hst := partsF_stops (6 - 1) (by omega) (w.heap.size + 1 + 1 + 1) k hk8 ((2 ^ k - 1 : Nat) : Int) rfl W4 (by omega) ((blk_cell r3 0).trans (cell1_0 _))
  have HST := Lib.hid hst
  have HB4 := Lib.hid hb04
  have HI := Lib.hid ha
  have HLO : Hid (∀ s W, s < 256 → Below w.heap.size w W → Calls Tryd.prog 121 #[.agg #[.int .i64 (k : Int), .slice a zs.length c], .int .i64 ((s : Nat) : Int)] W fun e w' => e = .returned (.bool (looB zs s)) ∧ Below W.heap.size W w') := Lib.hid fun s W hs hb => loose8_any k hk8 a c zs s hs W ((ha.below hb).mono hb.size) h8 hz (hT.below hb hT1)
  have hq0 := (blk_cell q0 0).trans (cell2_0 _ _)
  have hq1 := (blk_cell q0 1).trans (cell2_1 _ _)
  rw [← hW2] at hq0 hq1
  have HW2 := Lib.hid hW2
  have HW4 := Lib.hid hW4
  have HS2 := Lib.hid hs2
  have HS4 := Lib.hid hs4
  clear ha q0 q1 r3 hb2 hb4 hb04 hst hW2 hW4 hs2 hs4 hT hz
  refine (callsIn_wide (n := 6)).1 ?_
  refine callsIn_of_wp_marks Tryd.func85 rfl trivial ?_ rfl
  simp only [Tryd.ntmps85, List.size_toArray, List.length_cons, List.length_nil, Nat.reduceAdd, Nat.reduceSub, Array.replicate_succ, Array.replicate_zero, List.push_toArray, List.append_toArray, List.nil_append, List.cons_append]
  gi_wp2_with (first
    | (refine ⟨trivial, ?_⟩; gi_at_call 57; refine (callsIn_wide.2 (full8_any _ _ _ _ _ hk8)).mono ?_; rintro e w' ⟨rfl, rfl⟩)
    | (refine ⟨trivial, ?_⟩; gi_at_call 120; refine (callsIn_wide.2 (partsW_any _ _)).mono ?_; rintro e w' ⟨rfl, rfl⟩))
  rw [HW2.out, HW4.out]
  clear hq0 hq1
  refine wpIn_rangeFunc_ownG rfl h16 (gf := 140) (lb := #[.pointer (some ⟨w.heap.size + 1 + 1 + 1, 0, none⟩)]) rfl trivial (enters_of Tryd.func140 (by kernel_rfl) rfl)
    HST.out (fun h k e => k (h e)) ?keepc (Below.refl _ _) (fun _ => rfl)
    (fun pre W => ((∀ u ∈ valsF pre, looB zs u = false) ∧ HasBlk W w.heap.size #[.int .i64 (k : Int), .slice a zs.length c] 25 ∧ HasBlk W (w.heap.size + 1) #[.bool false] 4 ∧ HasBlk W (w.heap.size + 1 + 1 + 1) #[.int .i64 ((2 ^ k - 1 : Nat) : Int)] 50) ∧ Below w.heap.size w W)
    (fun c' pre W => (c' = .ret ∧ ∃ v ∈ valsF pre, looB zs v = true ∧ HasBlk W (w.heap.size + 1) #[.bool false] 4) ∧ Below w.heap.size w W)
    ?own ?ownx
    ⟨⟨by simp [valsF], HQ0.out, HQ1.out, HQ2.out⟩, HB4.out⟩
    (fun x => { tmps := #[.agg #[.int .i64 (k : Int), .slice a zs.length c], .pointer (some ⟨w.heap.size, 0, none⟩), .pointer (some ⟨w.heap.size + 1, 0, none⟩), .int .i64 (x.1 : Int), .agg #[.int .i64 (k : Int), .slice a zs.length c], .int .i64 ((2 ^ k - 1 : Nat) : Int), .func (.func 140) #[] #[.pointer (some ⟨w.heap.size + 1 + 1 + 1, 0, none⟩)], .int .i64 (x.1 : Int), undef, undef, undef], defers := [] }) ?assign ?body ?done ?stop
  case keepc =>
    intro W' l' o o' hl' ho hoc _ hc
    have hne : w.heap.size + 1 + 1 + 1 ≠ l' := by have := HS4.out; have := HS2.out; omega
    rw [← hc]
    exact World.cell?_of_block (World.putObj_heap_other hne)
  case own =>
    rintro s A B row ⟨⟨h1, h2, h3, h4⟩, h5⟩ hg hr
    have hr' : ∀ (b : Nat) (cs : Array Value) (t : TypeId), HasBlk A b cs t → row ≠ some b := fun b cs t hb e => by
      obtain ⟨-, o, ho, hc⟩ := hr b e
      rw [show A.heap[b]? = _ from hb] at ho; cases ho; cases hc
    exact ⟨⟨h1, h2.kept hg (hr' _ _ _ h2), h3.kept hg (hr' _ _ _ h3), h4.kept hg (hr' _ _ _ h4)⟩, h5.grown hg (by have := h5.size; omega) (fun r e => by have := (hr r e).1; have := HS2.out; have := HS4.out; omega)⟩
  case ownx =>
    rintro c' s A B row ⟨⟨h1, v, h2, h3, h4⟩, h5⟩ hg hr
    have hr' : ∀ (b : Nat) (cs : Array Value) (t : TypeId), HasBlk A b cs t → row ≠ some b := fun b cs t hb e => by
      obtain ⟨-, o, ho, hc⟩ := hr b e
      rw [show A.heap[b]? = _ from hb] at ho; cases ho; cases hc
    exact ⟨⟨h1, v, h2, h3, h4.kept hg (hr' _ _ _ h4)⟩, h5.grown hg (by have := h5.size; omega) (fun r e => by have := (hr r e).1; have := HS2.out; have := HS4.out; omega)⟩
  case assign =>
    intro l x W K hK
    gi_wp2
    exact hK
  case body =>
    rintro l pre ⟨x, hxN⟩ W ⟨⟨hno, h1, h2, h3⟩, hB⟩ hlt
    obtain ⟨xx, hxx⟩ : ∃ xx : PrtF (2 ^ k), xx = ⟨x, hxN⟩ := ⟨_, rfl⟩
    have hx256 : x < 256 := p256 hk8 hxN
    have HVS : Hid (valsF (pre ++ [xx]) = valsF pre ++ [x]) := Lib.hid (by rw [valsF_snoc, hxx])
    have x0 := (blk_cell h1 0).trans (cell2_0 _ _)
    have x1 := (blk_cell h1 1).trans (cell2_1 _ _)
    have HC := Lib.hid (HLO.out x W hx256 hB)
    have HNO := Lib.hid hno
    have H1 := Lib.hid h1
    have H2 := Lib.hid h2
    have H3 := Lib.hid h3
    have HB := Lib.hid hB
    dsimp only
    rw [← hxx]
    clear h1 h2 h3 hB hxN hxx hno
    cases hl : looB zs x
    · have HL := Lib.hid hl
      rw [hl] at HC
      clear hl
      gi_wp2_with (refine ⟨trivial, ?_⟩; gi_at_call 121; refine (CallsIn.inRound l (callsIn_wide.2 HC.out)).mono ?_; rintro e w5 ⟨rfl, hb5⟩; have HB5 := Lib.hid hb5; clear hb5)
      have hks : KeepsFrom W4.heap.size W w5 := ⟨HB5.out.size, fun k o _ hk _ => (HB5.out.block k (lt_of_some hk)).trans hk⟩
      have hbw5 : Below w.heap.size W w5 := HB5.out.mono HB.out.size
      have h3' := (HB5.out.block _ (lt_of_some H3.out)).trans H3.out
      refine ⟨hks, fun _ => (blk_cell h3' 0).trans (cell1_0 _), ⟨fun u hu => ?_, (HB5.out.block _ (lt_of_some H1.out)).trans H1.out, (HB5.out.block _ (lt_of_some H2.out)).trans H2.out, h3'⟩, HB.out.trans hbw5⟩
      rw [HVS.out] at hu
      rcases List.mem_append.1 hu with h | h
      · exact HNO.out u h
      · rw [List.mem_singleton.1 h]; exact HL.out
    · have HL := Lib.hid hl
      rw [hl] at HC
      clear hl
      gi_wp2_with (refine ⟨trivial, ?_⟩; gi_at_call 121; refine (CallsIn.inRound l (callsIn_wide.2 HC.out)).mono ?_; rintro e w5 ⟨rfl, hb5⟩; have HB5 := Lib.hid hb5; have h2' : HasBlk w5 (w.heap.size + 1) #[.bool false] 4 := (HB5.out.block _ (lt_of_some H2.out)).trans H2.out; have H2' := Lib.hid h2'; have e0 := (blk_cell h2' 0).trans (cell1_0 _); have e1 := blk_frozen h2' 0; clear hb5 h2')
      have hks : KeepsFrom W4.heap.size W w5 := ⟨HB5.out.size, fun k o _ hk _ => (HB5.out.block k (lt_of_some hk)).trans hk⟩
      have hbw5 : Below w.heap.size W w5 := HB5.out.mono HB.out.size
      refine ⟨hks.trans ((KeepsOthers.setCell _ _ _).from _), ⟨rfl, x, by rw [HVS.out]; simp, HL.out, Boxed.set _ H2'.out⟩, (HB.out.trans hbw5).setCell (p := ⟨w.heap.size + 1, 0, none⟩) (by show w.heap.size ≤ w.heap.size + 1; omega) _⟩
  case done =>
    rintro E ys W hE hys ⟨⟨hno, h1, h2, h3⟩, hB⟩ hK
    rw [hys] at hno
    have HF : Hid (tcB k zs = true) := Lib.hid (List.all_eq_true.2 fun s hs => by rw [hno s hs]; rfl)
    have e0 := (blk_cell h2 0).trans (cell1_0 _)
    have e1 := blk_frozen h2 0
    have hK2 := (KeepsOthers.setCell W ⟨w.heap.size + 1, 0, none⟩ (.bool true)).same E _ hK rfl
    have hne2 : w.heap.size + 1 ≠ E := fun e => by subst e; rw [show W.heap[w.heap.size + 1]? = _ from h2] at hK; cases hK
    have hb3 : HasBlk ((W.setCell ⟨w.heap.size + 1, 0, none⟩ (.bool true)).putObj E (.deferred none)) (w.heap.size + 1) #[.bool true] 4 := (World.putObj_heap_other (by first | exact hne2 | exact Ne.symm hne2)).trans (Boxed.set _ h2)
    have g1 := (blk_cell hb3 0).trans (cell1_0 _)
    have HB := Lib.hid (hB.setCell (p := ⟨w.heap.size + 1, 0, none⟩) (by show w.heap.size ≤ w.heap.size + 1; omega) (.bool true))
    have HK2 := Lib.hid hK2
    have HEs : Hid (w.heap.size ≤ E) := Lib.hid (by have := HS2.out; have := HS4.out; omega)
    clear hno h1 h2 h3 hB hK hK2 hb3 hys
    gi_wp2
    refine ⟨by simp, .inl ⟨_, _, rfl, run_takeDeferred HK2.out, ?_⟩⟩
    exact ⟨.bool true, by simp [results, Tryd.f85, go_sem, g1], by rw [HF.out], HB.out.trans (belowK_b (w := w) (Nat.le_refl _) _ E _ _ HEs.out HK2.out rfl rfl)⟩
  case stop =>
    rintro E c' pre W hE hp ⟨⟨rfl, v, hv, hf, h3⟩, hB⟩ hK
    have HF : Hid (tcB k zs = false) := Lib.hid (by
      obtain ⟨j, hj, hr⟩ := hp
      refine List.all_eq_false.2 ⟨v, ?_, by rw [hf]; simp⟩
      rw [hr] at hv
      have := List.mem_range.1 hv
      exact List.mem_range.2 (by omega))
    have hne2 : w.heap.size + 1 ≠ E := fun e => by subst e; rw [show W.heap[w.heap.size + 1]? = _ from h3] at hK; cases hK
    have hb3 : HasBlk (W.putObj E (.deferred none)) (w.heap.size + 1) #[.bool false] 4 := (World.putObj_heap_other (by first | exact hne2 | exact Ne.symm hne2)).trans h3
    have g1 := (blk_cell hb3 0).trans (cell1_0 _)
    have HB := Lib.hid hB
    have HK2 := Lib.hid hK
    have HEs : Hid (w.heap.size ≤ E) := Lib.hid (by have := HS2.out; have := HS4.out; omega)
    clear hv hf h3 hB hK hb3 hp
    gi_wp2
    refine ⟨by simp, .inl ⟨_, _, rfl, run_takeDeferred HK2.out, ?_⟩⟩
    exact ⟨.bool false, by simp [results, Tryd.f85, go_sem, g1], by rw [HF.out], HB.out.trans (belowK_b (w := w) (Nat.le_refl _) _ E _ _ HEs.out HK2.out rfl rfl)⟩

end Go.Proofs.YtacglafoahmcnaaDoor

/- It is proved what CoverIn of the program and of the reference model returns; conditions: those of each statement. -/
namespace Go.Proofs.YtacglafoahmcnaaDoor
open Go.RowKit

/-- A set is a cover, or something is not as told. -/
def inCov (m : Int) (zs : List Int) (x : Int) : Bool := famIn m zs && (inB x 0 (fullI m) && covB zs x.toNat)

theorem set_nat {k : Nat} {x : Int} (h : inB x 0 (fullI (k : Int)) = true) : ∃ s : Nat, x = (s : Int) ∧ s < 2 ^ k := by
  obtain ⟨h1, h2⟩ := inB_out h
  unfold fullI at h2
  rw [Int.toNat_natCast] at h2
  have e : (2 : Int) ^ k = ((2 ^ k : Nat) : Int) := by norm_cast
  exact ⟨x.toNat, by omega, by omega⟩

theorem fam_nat2 {m : Int} {zs : List Int} (h : famIn m zs = true) : ∃ k : Nat, m = (k : Int) ∧ 1 ≤ k ∧ k ≤ 6 ∧ Sets k zs ∧ zs.length ≤ 8 := by
  obtain ⟨h1, h2, h3, -⟩ := famIn_out h
  obtain ⟨k, rfl⟩ : ∃ k : Nat, m = (k : Int) := ⟨m.toNat, by omega⟩
  exact ⟨k, rfl, by omega, by omega, sets_of_fam h, h3⟩

end Go.Proofs.YtacglafoahmcnaaDoor

/- It is proved what MeetFull and MeetHelly of the program return; conditions: those of each statement. -/
namespace Go.Proofs.YtacglafoahmcnaaDoor
open Go.RowKit Go.Shelf

def hellyB (m : Int) (zs : List Int) : Bool := famIn m zs && tcB zs.length (duZ m.toNat zs)
theorem club_all {k : Nat} {zs : List Int} (hS : Sets k zs) (h8 : zs.length ≤ 8) : ∀ j, j < zs.length → IsClub k (j, zs[j]?.getD 0) := fun j hj => by
  have := hS _ (getD_mem hj)
  exact ⟨by show j < 8; omega, this.1, this.2⟩

set_option maxRecDepth 100000 in
set_option maxHeartbeats 2000000 in
theorem implHelly_any (m : Int) (a : Option Addr) (c : Nat) (zs : List Int) (w : World) (ha : Ints w w.heap.size a zs) (hT : Tab w) (hx : zs.length ≤ 1048576) :
    Calls Tryd.prog 38 #[.agg #[.int .i64 m, .slice a zs.length c]] w fun e w' => e = .returned (.bool (hellyB m zs)) ∧ Below w.heap.size w w' := by
  have F1 := FB.start (m := m) (c := c) ha
  have HB0 := Lib.hid (below1 w (.cells #[.int .i64 m, .slice a zs.length c] 25))
  have HF1 := Lib.hid F1
  have HFI := Lib.hid (implFamilyIn_any m a c zs _ F1.ints hx)
  have HTB : Hid (∀ W, Below w.heap.size w W → Tab W) := Lib.hid fun W h => hT.below h hT.lt
  have f_0 := F1.x0
  have f_1 := F1.x1
  clear F1 ha hT
  cases hf : famIn m zs
  · have HF := Lib.hid hf
    have HR : Hid (hellyB m zs = false) := Lib.hid (by unfold hellyB; rw [hf]; rfl)
    clear hf
    go_enter Tryd.func38, Tryd.ntmps38
    go_wp2_with fail
    refine HFI.out.mono ?_
    rintro e w2 ⟨rfl, hb2⟩
    rw [HF.out]
    have HF2 := Lib.hid (HF1.out.step hb2)
    have HB2 := Lib.hid (HB0.out.trans (hb2.mono (by simp)))
    clear hb2 f_0 f_1
    have f_0 := HF2.out.x0
    have f_1 := HF2.out.x1
    go_wp2
    go_ret
    exact ⟨by rw [HR.out]; rfl, HB2.out⟩
  · have HF := Lib.hid hf
    obtain ⟨k, rfl, hk1, hk6, hset, hl8⟩ := fam_nat2 hf
    have HR : Hid (hellyB (k : Int) zs = tcB zs.length (duZ k zs)) := Lib.hid (by unfold hellyB; rw [hf, Int.toNat_natCast]; rfl)
    have HSET := Lib.hid hset
    clear hf hset
    go_enter Tryd.func38, Tryd.ntmps38
    go_wp2_with fail
    refine HFI.out.mono ?_
    rintro e w2 ⟨rfl, hb2⟩
    rw [HF.out]
    have HF2 := Lib.hid (HF1.out.step hb2)
    have HB2 := Lib.hid (HB0.out.trans (hb2.mono (by simp)))
    have HC := Lib.hid (turned_any k hk6 a c zs w2 HF2.out.ints (HTB.out _ HB2.out) hl8 (club_all HSET.out hl8))
    clear hb2 f_0 f_1
    have f_0 := HF2.out.x0
    have f_1 := HF2.out.x1
    go_wp2_with fail
    refine HC.out.mono ?_
    rintro e w3 ⟨g, rfl, ho3, hb3⟩
    have HB3 := Lib.hid (HB2.out.trans (hb3.mono HB2.out.size))
    have HD := Lib.hid (duZ_len k zs)
    have htc := tiedIn8_any zs.length hl8 (some ⟨g, 0, none⟩) k (duZ k zs) w3 (own_ints ho3) (by rw [HD.out]; omega) (duZ_sets k zs) (HTB.out _ HB3.out)
    rw [HD.out] at htc
    have HTC := Lib.hid htc
    clear hb3 ho3 htc
    go_wp2_with fail
    refine HTC.out.mono ?_
    rintro e w4 ⟨rfl, hb4⟩
    have HB4 := Lib.hid (HB3.out.trans (hb4.mono HB3.out.size))
    clear hb4
    go_wp2
    go_ret
    exact ⟨by rw [HR.out]; rfl, HB4.out⟩

end Go.Proofs.YtacglafoahmcnaaDoor

/- It is proved what packed returns; conditions: those of each statement. -/
namespace Go.Proofs.YtacglafoahmcnaaDoor
open Go.RowKit Go.Shelf

attribute [local go_sem] Oper.semAt_some

/-- The members of clubs at some places, and some more. -/
def metU (zs : List Int) (t : Nat) (ps : List Nat) : Nat := ps.foldl (fun t p => t ||| (zs[p]?.getD 0).toNat) t

end Go.Proofs.YtacglafoahmcnaaDoor

/- It is proved that the most clubs that get a member of a set are all clubs but as many as the worst set of places falls short by; conditions: those of each statement. -/
namespace Go.Proofs.YtacglafoahmcnaaDoor
open Go.RowKit

/-- How many of the first k numbers a set has. -/
def cntK (k s : Nat) : Nat := (memK k s).length

/-- The members of the clubs at some places. -/
def togK (zs : List Int) (p : Nat) : Nat := metU zs 0 (memK zs.length p)

end Go.Proofs.YtacglafoahmcnaaDoor

/- It is proved what together and over return; conditions: those of each statement. -/
namespace Go.Proofs.YtacglafoahmcnaaDoor
open Go.RowKit Go.Shelf

attribute [local go_sem] Oper.semAt_some

/-- By how much a set of places has more places than its clubs have members. -/
def overP (zs : List Int) (p : Nat) : Int := (cntK 8 p : Int) - (cntK 8 (togK zs p) : Int)

theorem cntK_bound (k s : Nat) : cntK k s ≤ k := memK_len k s
end Go.Proofs.YtacglafoahmcnaaDoor

/- It is proved what pairs returns; conditions: those of each statement. -/
namespace Go.Proofs.YtacglafoahmcnaaDoor
open Go.RowKit Go.Shelf

attribute [local go_sem] Oper.semAt_some

theorem memK_zero (k : Nat) : memK k 0 = [] := by
  unfold memK
  rw [List.filter_eq_nil_iff]
  simp

end Go.Proofs.YtacglafoahmcnaaDoor

/- It is proved what the reference model's l1Size tells of sets of eight, and l5Together; conditions: those of each statement. -/
namespace Go.Proofs.YtacglafoahmcnaaDoor
open Go.RowKit

set_option maxRecDepth 100000 in
theorem cnt8_half : ∀ t : Fin 256, cntK 8 t.val = t.val % 2 + cntK 8 (t.val / 2) := by decide +kernel

set_option maxRecDepth 100000 in
theorem low8_fin : ∀ t : Fin 256, bits .and .i64 (t.val : Int) 1 = ((t.val % 2 : Nat) : Int) := by decide +kernel

set_option maxRecDepth 100000 in
theorem l1SizeW_any (z : Nat) (w : World) (h : z < 256) : Calls Tryd.prog 71 #[.int .i64 (z : Int)] w fun e w' => e = .returned (.int .i64 ((cntK 8 z : Nat) : Int)) ∧ w = w' := by
  go_enter Tryd.func71, Tryd.ntmps71
  go_wp2
  go_loop [0, 3] (fun s n => ∃ t k : Nat, t < 256 ∧ k + cntK 8 t = cntK 8 z ∧ s = .int .i64 (t : Int) ∧ n = .int .i64 (k : Int)) (fun s _ => (intOf s).toNat)
  case atStart => exact ⟨z, 0, h, by omega, rfl, rfl⟩
  case round =>
    obtain ⟨t, k, ht, hk, rfl, rfl⟩ := hrel
    have hz8 := cntK_bound 8 z
    have hk8 : k ≤ 8 := by omega
    have hlow := low8_fin ⟨t, ht⟩
    have hhf := cnt8_half ⟨t, ht⟩
    simp only at hlow hhf
    have HK := Lib.hid hk
    have HH := Lib.hid hhf
    have hm2 : t % 2 < 2 := Nat.mod_lt _ (by decide)
    obtain ⟨r, hr⟩ : ∃ r, r = t % 2 := ⟨_, rfl⟩
    rw [← hr] at hlow hm2
    have HR := Lib.hid hr
    have htI : (t : Int) ≤ 255 := by omega
    have hkI : (k : Int) ≤ 8 := by omega
    have hrI : (r : Int) ≤ 1 := by omega
    clear hk hhf hr
    by_cases h0 : 0 < t
    · have h0I : (0 : Int) < (t : Int) := by omega
      go_wp2
      go_round
      case rel => exact ⟨t / 2, k + r, by omega, by have := HK.out; have := HH.out; have := HR.out; omega, by go_num, by go_num⟩
      case measure => simp [intOf]; omega
    · have ht0 : t = 0 := by omega
      have e0 : cntK 8 t = 0 := by rw [ht0]; unfold cntK; rw [memK_zero]; rfl
      have HE : Hid (cntK 8 z = k) := Lib.hid (by have := HK.out; omega)
      have h0I : ¬ ((0 : Int) < (t : Int)) := by omega
      clear ht0 e0
      go_wp2
      go_ret
      exact ⟨by rw [HE.out]; rfl, rfl⟩

end Go.Proofs.YtacglafoahmcnaaDoor

/- It is proved what SpeakerBad of the program and of the reference model returns; conditions: those of each statement. -/
namespace Go.Proofs.YtacglafoahmcnaaDoor
open Go.RowKit Go.Shelf

attribute [local go_sem] Oper.semAt_some

/-- The first bad one of some sets of places. -/
def badF (zs : List Int) (qs : List Nat) : Option Nat := qs.find? fun q => decide (0 < overP zs q)

theorem badF_lt {zs : List Int} {N x : Nat} (h : badF zs (List.range N) = some x) : x < N := List.mem_range.1 (List.mem_of_find?_eq_some h)
def badB (m : Int) (zs : List Int) : Bool := famIn m zs && (badF zs (List.range (2 ^ zs.length))).isSome
def badZ (m : Int) (zs : List Int) : Int := if famIn m zs then (((badF zs (List.range (2 ^ zs.length))).getD 0 : Nat) : Int) else 0
end Go.Proofs.YtacglafoahmcnaaDoor

/- It is proved what SpeakerBad of the reference model returns; conditions: those of each statement. -/
namespace Go.Proofs.YtacglafoahmcnaaDoor
open Go.RowKit

theorem overP_zero (zs : List Int) : overP zs 0 = 0 := by
  have h1 : cntK 8 0 = 0 := by unfold cntK; rw [memK_zero]; rfl
  have h2 : togK zs 0 = 0 := by unfold togK; rw [memK_zero]; rfl
  unfold overP
  rw [h2, h1]
  rfl

end Go.Proofs.YtacglafoahmcnaaDoor
