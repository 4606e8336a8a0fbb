/- It is proved what the first fair colours of the program are; conditions: those of each statement. -/
import Derived.RowKit
import Derived.Laws.CopyRow
import Derived.Lib.SlBuf
import Derived.Deep.QuietTactic
import Derived.RangeFuncNested
import Derived.RangeFuncBound
import Derived.RangeFuncCalls
import Derived.RangeFuncLeaves
import Derived.RangeFuncBox
import Derived.RangeFuncWrites
import Derived.StillTailTactics
import Derived.Maps.OwnIn
import Derived.Maps.Ext
import Derived.DeepKeys4
import Derived.MapKept
import Derived.Test.YtnpfdgbbcapnkaaDoorRows
import Derived.WalkKit
import Derived.WalkSpells
import Derived.ProofKit
import Derived.OpenShut
import Derived.ShutString
import Derived.ChangeOld
import Derived.Below
import Derived.Deep.RegionHeld3
import Derived.BigQuiet
import Derived.Lib.Hide
import Derived.Lib.SmallJoins
import Derived.Outline
import Derived.Laws.MakeOwn
import Derived.Laws.OwnMore
import Derived.IntWalk
import Derived.Maps.AppendAt
import Derived.Sort.MapsRangeIn
import Derived.Deep.RegionLaw
import Derived.Deep.AppendLies
import Derived.Lib.AppendZeros
import Derived.OwnWalk
import Derived.Lib.SlicesCompact
import Derived.Lib.OwnBridge
import Derived.OrdersIn
import Derived.TacticsIn
import Derived.Shelf.Sort.Plain
import Derived.Shelf.Slices.In.SortNone
import Derived.Shelf.Slices.CompactI
import Derived.Ground.Names2Prog
import Derived.Lib.SliceRun
import Derived.Shelf.RegionOpen
import Derived.Shelf.Abstract
import Derived.OwnWalkIn
import Derived.TacticsInMore
import Derived.LoopNIn
import Derived.LoopIn
import Derived.StillTail
import Derived.StillTactics
import Derived.Shelf.Spec.TrailingZeros
import Derived.Deep.LoopGhost
import Derived.Test.YtnpfdgbbcapnkaaDoorRbaf
import Derived.Test.YtnpfdgbbcapnkaaDoorRbaj
import Derived.Test.YtnpfdgbbcapnkaaDoorRbaa
import Derived.Test.YtnpfdgbbcapnkaaDoorBa
import Derived.Test.YtnpfdgbbcapnkaaDoorRbab
import Derived.Test.YtnpfdgbbcapnkaaDoorRbai
import Derived.Test.YtnpfdgbbcapnkaaDoorRbaq
import Derived.Test.YtnpfdgbbcapnkaaDoorRbax
import Derived.Test.YtnpfdgbbcapnkaaDoorRbap
import Derived.Test.YtnpfdgbbcapnkaaDoorRbay
import Derived.Test.YtnpfdgbbcapnkaaDoorRbaz
import Derived.Test.YtnpfdgbbcapnkaaDoorRbbb
import Derived.Test.YtnpfdgbbcapnkaaDoorRbag
import Derived.Test.YtnpfdgbbcapnkaaDoorRbar
namespace Go.Proofs.YtnpfdgbbcapnkaaDoor
open Go.RowKit Go.Shelf

attribute [local go_sem] Oper.semAt_some

theorem app_runC {w : World} {B : Nat} {v : Value} (h : w.ownsRow B 3 1 v 0 []) (hB : B ≤ w.heap.size) (g o c : Nat) (zs : List Int) (hz : Ints w w.heap.size (some ⟨g, o, none⟩) zs) (hzn : zs.length ≤ 1048576) :
    ∃ a' c' w', (Builtin.append_ #[64, 64] 64 #[v, .slice (some ⟨g, o, none⟩) zs.length c]).run Tryd.prog w = .ok (.slice a' zs.length c') w' ∧
      w'.ownsRow B 3 1 (.slice a' zs.length c') zs.length (zs.map (Value.int .i64)) ∧ w.grownBy w' v.ownBlock := by
  obtain ⟨i0, hi0, hz0, hz1, hz2⟩ := info_parts Tryd.info3
  have form : ∀ {w' : World} {v' : Value} {k : Nat} {ys : List Value}, w'.ownsRow B 3 1 v' k ys → ∃ a' c', v' = .slice a' k c' := fun {w' v' k ys} h' => by
    rcases h'.2 with ⟨rfl, rfl⟩ | ⟨g, cap, cur, rfl, _⟩
    · exact ⟨none, 0, rfl⟩
    · exact ⟨_, _, rfl⟩
  obtain ⟨v', w', hr, h2, h3, _⟩ := run_append_own (P := Tryd.prog) w B 64 64 3 i0 (.int .i64 0) 1 8 underC hi0 hz0 hz1 hz2 rfl (by decide) v 0 [] h ⟨g, o, none⟩ zs.length c (zs.map (Value.int .i64)) (by simp) hz.add_ (ints_oneCell _ _) (by simp only [maxLen]; omega) (by omega) hB
  rw [Nat.zero_add, List.nil_append] at h2
  obtain ⟨a', c', rfl⟩ := form h2
  exact ⟨a', c', w', hr, h2, h3⟩

theorem slice_nilC (g o n c : Nat) (w : World) : (binOp BinOp.eql 64 (.slice (some ⟨g, o, none⟩) n c) (.slice none 0 0)).run Tryd.prog w = .ok (.bool false) w := by kernel_rfl
set_option maxRecDepth 100000 in
set_option maxHeartbeats 1000000 in
theorem cloneC_any (a : Option Addr) (c n : Nat) (xs : List Int) (hn : xs.length = n) (hn1 : 1 ≤ n) (hx : n ≤ 1048576) (w : World) (ha : Ints w w.heap.size a xs) :
    Calls Tryd.prog 107 #[.slice a n c] w fun e w' => ∃ a' c', e = .returned (.slice a' n c') ∧ OwnN w' w.heap.size a' n c' xs ∧ Below w.heap.size w w' := by
  obtain ⟨g, o, rfl⟩ : ∃ g o, a = some ⟨g, o, none⟩ := by
    rcases ha with h | ⟨b, o, e, _⟩
    · rw [h] at hn; simp at hn; omega
    · exact ⟨b, o, e⟩
  have hE : OwnI (w.alloc (.cells #[] 3)) w.heap.size (.slice (some ⟨w.heap.size, 0, none⟩) 0 0) [] := own_empty (alloc_new w _) (Nat.le_refl _)
  have hB0 : Below w.heap.size w (w.alloc (.cells #[] 3)) := below1 w (.cells #[] 3)
  obtain ⟨a3, c3, w3, hr3, ho3, hg3⟩ := app_runC hE hB0.size g o c xs ((ha.below hB0).mono hB0.size) (by omega)
  have hb3 : Below w.heap.size w w3 := hB0.grown hg3 hB0.size (fun g e => (World.ownsRow.lt hE g e).1)
  rw [hn] at hr3 ho3
  have HO := Lib.hid (show OwnN w3 w.heap.size a3 n c3 xs from ho3)
  have HB := Lib.hid hb3
  have hnl := slice_nilC g o n c w
  clear ha hE hB0 ho3 hg3 hb3 hn
  go_enter Tryd.func107, Tryd.ntmps107
  go_wp2_with (at_builtin; refine wpList_append_eq _ rfl _ _ 64 64 rfl _ _ rfl rfl hr3 ?_)
  go_ret
  exact ⟨_, _, rfl, HO.out, HB.out⟩

set_option maxRecDepth 100000 in
set_option maxHeartbeats 4000000 in
theorem firstFair_any (m k : Nat) (hm1 : 1 ≤ m) (hm6 : m ≤ 6) (hk4 : k ≤ 6) (a : Option Addr) (c : Nat) (zs : List Int) (w : World) (ha : Ints w w.heap.size a zs) (hT : Tab w) (hx : zs.length ≤ 1048576) (hset : Sets m zs) :
    Calls Tryd.prog 68 #[.agg #[.int .i64 (m : Int), .slice a zs.length c], .int .i64 (k : Int)] w (RetSB w ((firstC m zs k).getD []) (firstC m zs k).isSome) := by
  have hT1 := hT.lt
  have h16 : 1 ≤ 6 := by omega
  obtain ⟨W3, hW3, q0, q1, q2, hs3, hb3⟩ : ∃ W3, ((w.alloc (.cells #[.int .i64 (m : Int), .slice a zs.length c] 25)).alloc (.cells #[.slice none 0 0] 23)).alloc (.cells #[.bool false] 4) = W3 ∧ HasBlk W3 w.heap.size #[.int .i64 (m : Int), .slice a zs.length c] 25 ∧ Boxed W3 (w.heap.size + 1) 23 (.slice none 0 0) ∧ Boxed W3 (w.heap.size + 1 + 1) 4 (.bool false) ∧ W3.heap.size = w.heap.size + 1 + 1 + 1 ∧ Below w.heap.size w W3 :=
    ⟨_, rfl, alloc3_0 w _ _ _, alloc3_1 w _ _ _, alloc3_2 w _ _ _, by simp, below3 w _ _ _⟩
  have y0 := (blk_cell q0 0).trans (cell2_0 _ _)
  have y1 := (blk_cell q0 1).trans (cell2_1 _ _)
  rw [← hW3] at y0 y1
  have HW3 := Lib.hid hW3
  have HS3 := Lib.hid hs3
  have HB3 := Lib.hid hb3
  have HQ1 := Lib.hid q1
  have HQ2 := Lib.hid q2
  have HA := Lib.hid ha
  have HT := Lib.hid hT
  have HSET := Lib.hid hset
  clear ha hT hset q0 q1 q2 hs3 hb3 hW3
  refine (callsIn_wide (n := 6)).1 ?_
  refine callsIn_of_wp_marks Tryd.func68 rfl trivial ?_ rfl
  simp only [Tryd.ntmps68, List.size_toArray, List.length_cons, List.length_nil, Nat.reduceAdd, Nat.reduceSub, Array.replicate_succ, Array.replicate_zero, List.push_toArray, List.append_toArray, List.nil_append, List.cons_append]
  gi_wp2_with fail
  refine ⟨trivial, ?_⟩
  rw [HW3.out]
  refine (callsIn_wide.2 (fair_any _ _ _ _ _ _)).mono ?_
  rintro e w3 ⟨p, rfl, hp0, hp1, bf, bk, bx, hb3⟩
  have hlo : Below w.heap.size w w3 := HB3.out.trans (hb3.mono HB3.out.size)
  have hseq := coloured1M_in (6 - 1) w.heap.size p (p + 1) (p + 2) m k hm1 hm6 hk4 a c zs hx HSET.out (fun j => j = w.heap.size + 1 ∨ j = w.heap.size + 1 + 1) w3 hlo.size (fun j e => by omega) (fun e => by have := HS3.out; omega) (fun e => by have := HS3.out; omega) (fun e => by have := HS3.out; omega) bf bk bx (HA.out.below hlo) (HT.out.below hlo hT1) (by omega)
  have HSEQ := Lib.hid hseq
  have HLO := Lib.hid hlo
  have HR1 : Hid (Boxed w3 (w.heap.size + 1) 23 (.slice none 0 0)) := Lib.hid ((hb3.block _ (by have := HS3.out; omega)).trans HQ1.out)
  have HR2 : Hid (Boxed w3 (w.heap.size + 1 + 1) 4 (.bool false)) := Lib.hid ((hb3.block _ (by have := HS3.out; omega)).trans HQ2.out)
  have HSZ : Hid (w.heap.size + 1 + 1 < w3.heap.size) := Lib.hid (by have := hb3.size; have := HS3.out; omega)
  clear hb3 hlo hseq bf bk bx hp0 hp1
  gi_wp2
  refine wpIn_rangeFunc_but (n := 6) h16 (gf := 100) (lb := #[.pointer (some ⟨p, 0, none⟩), .pointer (some ⟨p + 1, 0, none⟩), .pointer (some ⟨p + 2, 0, none⟩)]) rfl (enters_of Tryd.func100 (by kernel_rfl) rfl)
    HSEQ.out (Below.refl _ _) (fun j e => by have := HSZ.out; omega) (fun _ => rfl)
    (fun x A l' o h hl => ⟨h.1, by obtain ⟨a', e, hi⟩ := h.2; exact ⟨a', e, by have := ints_putObj (o := o) hi hl; simpa using this⟩⟩)
    (fun pre Wr => pre = [] ∧ Boxed Wr (w.heap.size + 1) 23 (.slice none 0 0) ∧ Boxed Wr (w.heap.size + 1 + 1) 4 (.bool false) ∧ But (fun j => j = w.heap.size + 1 ∨ j = w.heap.size + 1 + 1) w3 Wr)
    (fun pre Wr => ∃ x a' c', pre = [x] ∧ x.2.length = m ∧ Boxed Wr (w.heap.size + 1) 23 (.slice a' m c') ∧ Boxed Wr (w.heap.size + 1 + 1) 4 (.bool true) ∧ OwnN Wr w.heap.size a' m c' x.2 ∧ Below w.heap.size w Wr)
    ?own ?ownx ⟨rfl, HR1.out, HR2.out, But.refl _ _⟩
    (fun x a' _ => a' = { tmps := #[.agg #[.int .i64 (m : Int), .slice a zs.length c], .int .i64 (k : Int), .pointer (some ⟨w.heap.size, 0, none⟩), undef, .pointer (some ⟨w.heap.size + 1, 0, none⟩), .pointer (some ⟨w.heap.size + 1 + 1, 0, none⟩), x.1, .agg #[.int .i64 (m : Int), .slice a zs.length c], .int .i64 (k : Int), .func (.func 100) #[] #[.pointer (some ⟨p, 0, none⟩), .pointer (some ⟨p + 1, 0, none⟩), .pointer (some ⟨p + 2, 0, none⟩)], x.1, undef, undef], defers := [] })
    (fun _ _ _ _ _ h _ => h) ?assign ?body ?done ?stop
  case own =>
    rintro s A C row ⟨h0, h1, h2, hb⟩ hg hr
    have hs3 := HSZ.out
    refine ⟨h0, HasBlk.kept h1 hg (fun e => by have := hr _ e; omega), HasBlk.kept h2 hg (fun e => by have := hr _ e; omega), ?_⟩
    exact ⟨hg.os.trans hb.os, hg.tape.trans hb.tape, hg.output.trans hb.output, Nat.le_trans hb.size hg.size, fun i hi hX => (hg.block i (Nat.lt_of_lt_of_le hi hb.size) (fun e => by have := hr i e.symm; omega)).trans (hb.same i hi hX)⟩
  case ownx =>
    rintro s A C row ⟨x, a', c', h0, hxl, h1, h2, h3, hb⟩ hg hr
    have hs3 := HSZ.out
    refine ⟨x, a', c', h0, hxl, HasBlk.kept h1 hg (fun e => by have := (hr _ e).1; omega), HasBlk.kept h2 hg (fun e => by have := (hr _ e).1; omega), h3.kept hg ?_, hb.grown hg hb.size (fun r e => by have := (hr r e).1; omega)⟩
    rcases h3.2 with ⟨e0, _⟩ | ⟨g, cap, cur, e0, _, hgb, _⟩
    · left; injection e0 with e1 e2 e3; subst e1; subst e3; rw [e2]; rfl
    · refine .inr fun e' => ?_
      obtain ⟨-, o, ho, hc⟩ := hr g (by rw [e0] at e'; simpa [Value.ownBlock] using e'.symm)
      rw [hgb] at ho; cases ho; cases hc
  case assign =>
    rintro l1 pre ⟨x1, x2⟩ Wr K hI ⟨hlen, a', ha', hints⟩ hsz hK
    dsimp only at ha' hlen hints
    subst ha'
    gi_wp2
    exact hK _ _ (But.refl _ _) hI ⟨hlen, _, rfl, hints⟩ rfl
  case body =>
    rintro l1 pre ⟨x1, x2⟩ a2 Wr hl1' ⟨h0, h1, h2, hb⟩ ⟨hlen, a', ha', hints⟩ rfl hlt
    dsimp only at ha' hlen hints
    subst ha'
    have hcl := cloneC_any a' m m x2 hlen hm1 (by omega) Wr hints
    have HCL := Lib.hid hcl
    have HL := Lib.hid hlen
    have H0 := Lib.hid h0
    have H1 := Lib.hid h1
    have H2 := Lib.hid h2
    have HB := Lib.hid hb
    clear hcl hlen h0 h1 h2 hb hints
    dsimp only
    gi_wp2_with fail
    refine ⟨trivial, ?_⟩
    refine (CallsIn.inRound l1 (callsIn_wide.2 HCL.out)).mono ?_
    rintro e w4 ⟨a4, c4, rfl, ho4, hb4⟩
    have r1 : Boxed w4 (w.heap.size + 1) 23 (.slice none 0 0) := (hb4.block _ H1.out.lt).trans H1.out
    have r2 : Boxed w4 (w.heap.size + 1 + 1) 4 (.bool false) := (hb4.block _ H2.out.lt).trans H2.out
    have c1 := r1.cell
    have f1 := r1.frozen
    have r2' : Boxed (w4.setCell ⟨w.heap.size + 1, 0, none⟩ (.slice a4 m c4)) (w.heap.size + 1 + 1) 4 (.bool false) := Boxed.other r2 (by omega) _
    have c2 := r2'.cell
    have f2 := r2'.frozen
    have hsz3 := HSZ.out
    have hszW : w3.heap.size ≤ Wr.heap.size := HB.out.size
    have ho5 : OwnN ((w4.setCell ⟨w.heap.size + 1, 0, none⟩ (.slice a4 m c4)).setCell ⟨w.heap.size + 1 + 1, 0, none⟩ (.bool true)) Wr.heap.size a4 m c4 x2 :=
      ownsRow_setCell_ne (p := ⟨w.heap.size + 1 + 1, 0, none⟩) (ownsRow_setCell_ne (p := ⟨w.heap.size + 1, 0, none⟩) ho4 (ho4.ne (.inl (show w.heap.size + 1 < Wr.heap.size by omega))) _) (ho4.ne (.inl (show w.heap.size + 1 + 1 < Wr.heap.size by omega))) _
    have hbt : But (fun j => j = w.heap.size + 1 ∨ j = w.heap.size + 1 + 1) Wr ((w4.setCell ⟨w.heap.size + 1, 0, none⟩ (.slice a4 m c4)).setCell ⟨w.heap.size + 1 + 1, 0, none⟩ (.bool true)) := ((But.of_below hb4).trans (But.setCell _ _ _ _ (fun _ => .inl rfl))).trans (But.setCell _ _ _ _ (fun _ => .inr rfl))
    have HBT := Lib.hid hbt
    have HO5 := Lib.hid ho5
    have HE1 : Hid (Boxed ((w4.setCell ⟨w.heap.size + 1, 0, none⟩ (.slice a4 m c4)).setCell ⟨w.heap.size + 1 + 1, 0, none⟩ (.bool true)) (w.heap.size + 1) 23 (.slice a4 m c4)) := Lib.hid (Boxed.other (r1.set _) (by omega) _)
    have HE2 : Hid (Boxed ((w4.setCell ⟨w.heap.size + 1, 0, none⟩ (.slice a4 m c4)).setCell ⟨w.heap.size + 1 + 1, 0, none⟩ (.bool true)) (w.heap.size + 1 + 1) 4 (.bool true)) := Lib.hid (r2'.set _)
    clear r1 r2 r2' ho4 hb4 ho5 hbt
    gi_wp2
    have hbw : Below w.heap.size w ((w4.setCell ⟨w.heap.size + 1, 0, none⟩ (.slice a4 m c4)).setCell ⟨w.heap.size + 1 + 1, 0, none⟩ (.bool true)) := HLO.out.trans ((HB.out.trans HBT.out).below HLO.out.size (fun j e => by omega))
    exact ⟨HBT.out, (.slice a' m m, x2), a4, c4, by rw [H0.out]; rfl, HL.out, HE1.out, HE2.out, HO5.out.base (by omega), hbw⟩
  case done =>
    rintro E xs Wr hE hS ⟨h0, h1, h2, hb⟩ hK
    have hF : firstC m zs k = none := by
      rw [h0] at hS
      unfold firstC
      rw [List.find?_eq_none]
      intro x hx hp
      have : x ∈ (wordsL (palI k) m).filter (mixB zs) := List.mem_filter.2 ⟨hx, hp⟩
      rw [← hS] at this
      simp at this
    have HFN := Lib.hid hF
    have hsz3 := HSZ.out
    have hb1 : But (fun j => j = w.heap.size + 1 ∨ j = w.heap.size + 1 + 1) Wr ((Wr.setCell ⟨w.heap.size + 1, 0, none⟩ (.slice none 0 0)).setCell ⟨w.heap.size + 1 + 1, 0, none⟩ (.bool false)) := (But.setCell _ _ _ _ (fun _ => .inl rfl)).trans (But.setCell _ _ _ _ (fun _ => .inr rfl))
    have hK5 := hb1.keep (k := E) (by omega) hK
    have c1 := h1.cell
    have f1 := h1.frozen
    have h2' : Boxed (Wr.setCell ⟨w.heap.size + 1, 0, none⟩ (.slice none 0 0)) (w.heap.size + 1 + 1) 4 (.bool false) := Boxed.other h2 (by omega) _
    have c2 := h2'.cell
    have f2 := h2'.frozen
    have e1 : HasBlk (((Wr.setCell ⟨w.heap.size + 1, 0, none⟩ (.slice none 0 0)).setCell ⟨w.heap.size + 1 + 1, 0, none⟩ (.bool false)).putObj E (.deferred none)) (w.heap.size + 1) #[.slice none 0 0] 23 := (World.putObj_heap_other (by omega)).trans (Boxed.other (h1.set _) (by omega) _)
    have e2 : HasBlk (((Wr.setCell ⟨w.heap.size + 1, 0, none⟩ (.slice none 0 0)).setCell ⟨w.heap.size + 1 + 1, 0, none⟩ (.bool false)).putObj E (.deferred none)) (w.heap.size + 1 + 1) #[.bool false] 4 := (World.putObj_heap_other (by omega)).trans (h2'.set _)
    have g1 := (blk_cell e1 0).trans (cell1_0 _)
    have g2 := (blk_cell e2 0).trans (cell1_0 _)
    have HBW : Hid (Below w.heap.size w ((Wr.setCell ⟨w.heap.size + 1, 0, none⟩ (.slice none 0 0)).setCell ⟨w.heap.size + 1 + 1, 0, none⟩ (.bool false))) := Lib.hid (HLO.out.trans ((hb.trans hb1).below HLO.out.size (fun j e => by omega)))
    have HK5 := Lib.hid hK5
    clear h1 h2 h2' hb hb1 hK hK5 e1 e2 hS h0 hF
    gi_wp2
    refine ⟨by simp, .inl ⟨_, _, rfl, run_takeDeferred HK5.out, ?_⟩⟩
    refine ⟨.tuple #[.slice none 0 0, .bool false], by simp [results, Tryd.results68, go_sem, g1, g2], none, 0, by rw [HFN.out]; rfl, by rw [HFN.out]; exact World.ownsRow_nil _ _ _ _, ?_⟩
    exact HBW.out.grown (grownBy_putObj' _ E _) HBW.out.size (fun g e => by injection e; omega)
  case stop =>
    rintro E pre Wr hE ⟨hS, -⟩ ⟨x, a', c', h0, hxl, h1, h2, h3, hb⟩ hK
    have hF : firstC m zs k = some x.2 := by
      rw [h0] at hS
      unfold firstC
      rw [← List.head?_filter]
      obtain ⟨r, hr⟩ := hS
      rw [← hr]; rfl
    rw [hF, Option.getD_some, Option.isSome_some]
    have hsz3 := HSZ.out
    have e1 : HasBlk (Wr.putObj E (.deferred none)) (w.heap.size + 1) #[.slice a' m c'] 23 := (World.putObj_heap_other (by omega)).trans h1
    have e2 : HasBlk (Wr.putObj E (.deferred none)) (w.heap.size + 1 + 1) #[.bool true] 4 := (World.putObj_heap_other (by omega)).trans h2
    have g1 := (blk_cell e1 0).trans (cell1_0 _)
    have g2 := (blk_cell e2 0).trans (cell1_0 _)
    have HO : Hid (OwnN (Wr.putObj E (.deferred none)) w.heap.size a' m c' x.2) := Lib.hid (ownsRow_putObj h3 _ hK rfl)
    have HBW := Lib.hid hb
    have HK5 := Lib.hid hK
    have HXL := Lib.hid hxl
    clear h1 h2 h3 hb hK e1 e2 hS h0 hF hxl
    gi_wp2
    refine ⟨by simp, .inl ⟨_, _, rfl, run_takeDeferred HK5.out, ?_⟩⟩
    refine ⟨.tuple #[.slice a' m c', .bool true], by simp [results, Tryd.results68, go_sem, g1, g2], a', c', by rw [HXL.out], by unfold OwnI; rw [HXL.out]; exact HO.out, ?_⟩
    exact HBW.out.grown (grownBy_putObj' _ E _) HBW.out.size (fun g e => by injection e; omega)

set_option maxRecDepth 100000 in
set_option maxHeartbeats 2000000 in
theorem implColourFirst_any (m k : Int) (a : Option Addr) (c : Nat) (zs : List Int) (w : World) (ha : Ints w w.heap.size a zs) (hT : Tab w) (hx : zs.length ≤ 1048576) :
    Calls Tryd.prog 28 #[.agg #[.int .i64 m, .slice a zs.length c], .int .i64 k] w (RetSB w (firstCZ m zs k) (firstCB m zs k)) := by
  have HB0 := Lib.hid (below1 w (.cells #[.int .i64 m, .slice a zs.length c] 25))
  have HA := Lib.hid (ha.below HB0.out)
  have HA0 := Lib.hid ha
  clear ha
  cases hf : famIn m zs
  · have HF := Lib.hid hf
    have HZ : Hid (firstCZ m zs k = []) := Lib.hid (by unfold firstCZ; rw [hf]; rfl)
    have HO : Hid (firstCB m zs k = false) := Lib.hid (by unfold firstCB; rw [hf]; rfl)
    clear hf hT
    rw [HZ.out, HO.out]
    go_enter Tryd.func28, Tryd.ntmps28
    go_wp2_with fail
    refine (implFamilyIn_any _ _ _ zs _ (HA.out.mono (by simp)) hx).mono ?_
    rintro e w1 ⟨rfl, hb⟩
    rw [HF.out]
    have HB := Lib.hid (HB0.out.trans (hb.mono (by simp)))
    clear hb
    go_wp2
    go_ret2
    exact ⟨none, 0, rfl, World.ownsRow_nil _ _ _ _, HB.out⟩
  · cases hc : colIn k 1
    · have HF := Lib.hid hf
      have HC := Lib.hid hc
      have HZ : Hid (firstCZ m zs k = []) := Lib.hid (by unfold firstCZ; rw [hf, hc]; rfl)
      have HO : Hid (firstCB m zs k = false) := Lib.hid (by unfold firstCB; rw [hf, hc]; rfl)
      clear hf hc hT
      rw [HZ.out, HO.out]
      go_enter Tryd.func28, Tryd.ntmps28
      go_wp2_with fail
      refine (implFamilyIn_any _ _ _ zs _ (HA.out.mono (by simp)) hx).mono ?_
      rintro e w1 ⟨rfl, hb⟩
      rw [HF.out]
      have HB := Lib.hid (HB0.out.trans (hb.mono (by simp)))
      clear hb
      go_wp2_with fail
      refine (coloursIn_any _ _ _).mono ?_
      rintro e w2 ⟨rfl, rfl⟩
      rw [HC.out]
      go_wp2
      go_ret2
      exact ⟨none, 0, rfl, World.ownsRow_nil _ _ _ _, HB.out⟩
    · have HF := Lib.hid hf
      obtain ⟨k, rfl, hk4, hk1⟩ := colIn_nat (by omega : (0 : Int) ≤ 1) hc
      obtain ⟨m, rfl, hm1, hm6, hset, hl8⟩ := fam_nat2 hf
      have HC := Lib.hid hc
      have HZ : Hid (firstCZ (m : Int) zs (k : Int) = (firstC m zs k).getD []) := Lib.hid (by unfold firstCZ; rw [hf, hc]; rfl)
      have HO : Hid (firstCB (m : Int) zs (k : Int) = (firstC m zs k).isSome) := Lib.hid (by unfold firstCB; rw [hf, hc]; rfl)
      have HFF : Hid (∀ W, Ints W W.heap.size a zs → Tab W → Calls Tryd.prog 68 #[.agg #[.int .i64 (m : Int), .slice a zs.length c], .int .i64 (k : Int)] W (RetSB W ((firstC m zs k).getD []) (firstC m zs k).isSome)) := Lib.hid fun W h ht => firstFair_any m k hm1 hm6 (by omega) a c zs W h ht hx hset
      have HT := Lib.hid hT
      clear hf hc hset hT
      rw [HZ.out, HO.out]
      go_enter Tryd.func28, Tryd.ntmps28
      go_wp2_with fail
      refine (implFamilyIn_any _ _ _ zs _ (HA.out.mono (by simp)) hx).mono ?_
      rintro e w1 ⟨rfl, hb⟩
      rw [HF.out]
      have b0 : HasBlk w1 w.heap.size #[.int .i64 (m : Int), .slice a zs.length c] 25 := (hb.block _ (by simp)).trans (alloc_new w _)
      have x0 := (blk_cell b0 0).trans (cell2_0 _ _)
      have x1 := (blk_cell b0 1).trans (cell2_1 _ _)
      have HB := Lib.hid (HB0.out.trans (hb.mono (by simp)))
      have HI1 := Lib.hid ((HA0.out.below HB.out).mono HB.out.size)
      have HT1 := Lib.hid (HT.out.below HB.out HT.out.lt)
      clear hb b0
      go_wp2_with fail
      refine (coloursIn_any _ _ _).mono ?_
      rintro e w2 ⟨rfl, rfl⟩
      rw [HC.out]
      go_wp2_with fail
      refine (HFF.out _ HI1.out HT1.out).mono ?_
      rintro e w3 ⟨a3, c3, rfl, ho3, hb3⟩
      have HO3 := Lib.hid (own_mono ho3 (B' := w.heap.size) HB.out.size)
      have HB3 := Lib.hid (HB.out.trans (hb3.mono HB.out.size))
      clear ho3 hb3
      go_wp2
      go_ret2
      exact ⟨a3, c3, rfl, HO3.out, HB3.out⟩

theorem firstCZ_len (m : Int) (zs : List Int) (k : Int) : (firstCZ m zs k).length ≤ 1048576 := by
  unfold firstCZ
  cases h : famIn m zs && colIn k 1
  · simp
  · rw [Bool.and_eq_true] at h
    obtain ⟨h1, h2, -, -⟩ := famIn_out h.1
    rw [if_pos rfl]
    cases hf : firstC m.toNat zs k.toNat with
    | none => simp
    | some c =>
      unfold firstC at hf
      have := ((wordsL_mem _ _ _).1 (List.mem_of_find?_eq_some hf)).1
      rw [Option.getD_some]
      omega

end Go.Proofs.YtnpfdgbbcapnkaaDoor
