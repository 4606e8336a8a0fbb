/- It is proved what CoverIn of the program and of the reference model returns; conditions: those of each statement. -/
import Derived.RowKit
import Derived.Laws.CopyRow
import Derived.Lib.SlBuf
import Derived.Deep.QuietTactic
import Derived.RangeFuncNested
import Derived.RangeFuncBound
import Derived.RangeFuncCalls
import Derived.RangeFuncLeaves
import Derived.RangeFuncBox
import Derived.RangeFuncWrites
import Derived.StillTailTactics
import Derived.Maps.OwnIn
import Derived.Maps.Ext
import Derived.DeepKeys4
import Derived.MapKept
import Derived.Test.YtfhhfilkabjhaaaDoorRows
import Derived.WalkKit
import Derived.WalkSpells
import Derived.ProofKit
import Derived.OpenShut
import Derived.ShutString
import Derived.ChangeOld
import Derived.Below
import Derived.Deep.RegionHeld3
import Derived.BigQuiet
import Derived.Lib.Hide
import Derived.Lib.SmallJoins
import Derived.Outline
import Derived.Laws.MakeOwn
import Derived.Laws.OwnMore
import Derived.IntWalk
import Derived.Lib.AppendZeros
import Derived.Maps.AppendAt
import Derived.Deep.AppendLies
import Derived.OwnWalk
import Derived.Lib.SlicesCompact
import Derived.Lib.OwnBridge
import Derived.OrdersIn
import Derived.TacticsIn
import Derived.Shelf.Sort.Plain
import Derived.Shelf.Slices.In.SortNone
import Derived.Shelf.Slices.CompactI
import Derived.Ground.Names2Prog
import Derived.Lib.SliceRun
import Derived.Shelf.Abstract
import Derived.Shelf.RegionOpen
import Derived.OwnWalkIn
import Derived.TacticsInMore
import Derived.LoopNIn
import Derived.LoopIn
import Derived.StillTail
import Derived.StillTactics
import Derived.Shelf.Spec.TrailingZeros
import Derived.Test.YtfhhfilkabjhaaaDoorRaad
import Derived.Test.YtfhhfilkabjhaaaDoorKc
import Derived.Deep.RegionLaw
import Derived.Deep.LoopGhost
import Derived.Test.YtfhhfilkabjhaaaDoorRaak
import Derived.Test.YtfhhfilkabjhaaaDoorRaao
import Derived.Test.YtfhhfilkabjhaaaDoorRaaa
import Derived.Test.YtfhhfilkabjhaaaDoorRaab
import Derived.Test.YtfhhfilkabjhaaaDoorRaac
import Derived.Test.YtfhhfilkabjhaaaDoorRaap
import Derived.Test.YtfhhfilkabjhaaaDoorRaae
import Derived.Test.YtfhhfilkabjhaaaDoorJc
import Derived.Test.YtfhhfilkabjhaaaDoorJu
import Derived.Test.YtfhhfilkabjhaaaDoorRaat
namespace Go.Proofs.YtfhhfilkabjhaaaDoor
open Go.RowKit

theorem fam_nat2 {m : Int} {zs : List Int} (h : famIn m zs = true) : ∃ k : Nat, m = (k : Int) ∧ 1 ≤ k ∧ k ≤ 6 ∧ Sets k zs ∧ zs.length ≤ 8 := by
  obtain ⟨h1, h2, h3, -⟩ := famIn_out h
  obtain ⟨k, rfl⟩ : ∃ k : Nat, m = (k : Int) := ⟨m.toNat, by omega⟩
  exact ⟨k, rfl, by omega, by omega, sets_of_fam h, h3⟩

end Go.Proofs.YtfhhfilkabjhaaaDoor

/- It is proved what FamilyAll of the program and of the model return; conditions: those of each statement. -/
namespace Go.Proofs.YtfhhfilkabjhaaaDoor
open Go.RowKit Go.Shelf

attribute [local go_sem] Oper.semAt_some

/-- What a function of an int and a bool returns; nothing that lay has turned. -/
def RetIB (w : World) (r : Int) (ok : Bool) (e : Ending) (w' : World) : Prop := e = .returned (.tuple #[.int .i64 r, .bool ok]) ∧ Below w.heap.size w w'

end Go.Proofs.YtfhhfilkabjhaaaDoor

/- It is proved what ColourMany of the program returns; conditions: those of each statement. -/
namespace Go.Proofs.YtfhhfilkabjhaaaDoor
open Go.RowKit Go.Shelf

attribute [local go_sem] Oper.semAt_some

def cntCM (m : Nat) (zs : List Int) (k : Nat) : Nat := (wordsL (palI k) m).countP (mixB zs)
theorem cntCM_le (m : Nat) (zs : List Int) (k : Nat) : cntCM m zs k ≤ k ^ m := by
  unfold cntCM
  have := List.countP_le_length (p := mixB zs) (l := wordsL (palI k) m)
  rw [wordsL_card, palI_len] at this
  exact this

def outCM (m : Int) (zs : List Int) (k : Int) : Int := if famIn m zs && colIn k 0 then ((cntCM m.toNat zs k.toNat : Nat) : Int) else 0
def okCM (m : Int) (zs : List Int) (k : Int) : Bool := famIn m zs && colIn k 0
theorem colIn_nat {k l : Int} (hl : 0 ≤ l) (h : colIn k l = true) : ∃ n : Nat, k = (n : Int) ∧ n ≤ 4 ∧ l ≤ k := by
  unfold colIn at h
  rw [Bool.and_eq_true, decide_eq_true_eq, decide_eq_true_eq] at h
  exact ⟨k.toNat, by omega, by omega, h.1⟩

set_option maxRecDepth 100000 in
theorem fair_any (m : Int) (a : Option Addr) (n c : Nat) (k : Int) (w : World) :
    Calls Tryd.prog 52 #[.agg #[.int .i64 m, .slice a n c], .int .i64 k] w fun e w' => ∃ p : Nat, e = .returned (.func (.func 82) #[] #[.pointer (some ⟨p, 0, none⟩), .pointer (some ⟨p + 1, 0, none⟩), .pointer (some ⟨p + 2, 0, none⟩)]) ∧ w.heap.size ≤ p ∧ p + 2 < w'.heap.size ∧
      HasBlk w' p #[.int .i64 m, .slice a n c] 27 ∧ Boxed w' (p + 1) 3 (.int .i64 k) ∧ Boxed w' (p + 2) 73 (.func (.func 75) #[] #[]) ∧ Below w.heap.size w w' := by
  have HB := Lib.hid (below1 w (.cells #[.int .i64 m, .slice a n c] 27))
  go_enter Tryd.func52, Tryd.ntmps52
  go_wp2_with fail
  refine (coloured_any _ _ _ _ _ _ _).mono ?_
  rintro e w1 ⟨rfl, hw⟩
  have HW := Lib.hid hw
  clear hw
  go_wp2
  go_ret
  refine ⟨_, rfl, by simp, ?_⟩
  rw [HW.out]
  have e0 := alloc3_0 (w.alloc (.cells #[.int .i64 m, .slice a n c] 27)) (.cells #[.int .i64 m, .slice a n c] 27) (.cells #[.int .i64 k] 3) (.cells #[.func (.func 75) #[] #[]] 73)
  have e1 := alloc3_1 (w.alloc (.cells #[.int .i64 m, .slice a n c] 27)) (.cells #[.int .i64 m, .slice a n c] 27) (.cells #[.int .i64 k] 3) (.cells #[.func (.func 75) #[] #[]] 73)
  have e2 := alloc3_2 (w.alloc (.cells #[.int .i64 m, .slice a n c] 27)) (.cells #[.int .i64 m, .slice a n c] 27) (.cells #[.int .i64 k] 3) (.cells #[.func (.func 75) #[] #[]] 73)
  simp only [World.size_alloc] at e0 e1 e2
  exact ⟨by simp, e0, e1, e2, HB.out.trans ((below3 _ _ _ _).mono (by simp))⟩

set_option maxRecDepth 100000 in
set_option maxHeartbeats 4000000 in
theorem implColourMany_any (m k : Int) (a : Option Addr) (c : Nat) (zs : List Int) (w : World) (ha : Ints w w.heap.size a zs) (hT : Tab w) (hx : zs.length ≤ 1048576) :
    Calls Tryd.prog 22 #[.agg #[.int .i64 m, .slice a zs.length c], .int .i64 k] w (RetIB w (outCM m zs k) (okCM m zs k)) := by
  have HB0 := Lib.hid (below1 w (.cells #[.int .i64 m, .slice a zs.length c] 27))
  have HA := Lib.hid (ha.below HB0.out)
  have HA0 := Lib.hid ha
  clear ha
  cases hf : famIn m zs
  · have HF := Lib.hid hf
    have HZ : Hid (outCM m zs k = 0) := Lib.hid (by unfold outCM; rw [hf]; rfl)
    have HO : Hid (okCM m zs k = false) := Lib.hid (by unfold okCM; rw [hf]; rfl)
    clear hf hT
    go_enter Tryd.func22, Tryd.ntmps22
    go_wp2_with fail
    refine (implFamilyIn_any _ _ _ zs _ (HA.out.mono (by simp)) hx).mono ?_
    rintro e w1 ⟨rfl, hb⟩
    rw [HF.out]
    have HB := Lib.hid (HB0.out.trans (hb.mono (by simp)))
    clear hb
    go_wp2
    go_ret2
    exact ⟨by rw [HZ.out, HO.out]; rfl, HB.out⟩
  · cases hc : colIn k 0
    · have HF := Lib.hid hf
      have HC := Lib.hid hc
      have HZ : Hid (outCM m zs k = 0) := Lib.hid (by unfold outCM; rw [hf, hc]; rfl)
      have HO : Hid (okCM m zs k = false) := Lib.hid (by unfold okCM; rw [hf, hc]; rfl)
      clear hf hc hT
      go_enter Tryd.func22, Tryd.ntmps22
      go_wp2_with fail
      refine (implFamilyIn_any _ _ _ zs _ (HA.out.mono (by simp)) hx).mono ?_
      rintro e w1 ⟨rfl, hb⟩
      rw [HF.out]
      have HB := Lib.hid (HB0.out.trans (hb.mono (by simp)))
      clear hb
      go_wp2_with fail
      refine (coloursIn_any _ _ _).mono ?_
      rintro e w2 ⟨rfl, rfl⟩
      rw [HC.out]
      go_wp2
      go_ret2
      exact ⟨by rw [HZ.out, HO.out]; rfl, HB.out⟩
    · have HF := Lib.hid hf
      obtain ⟨k, rfl, hk4, -⟩ := colIn_nat (Int.le_refl 0) hc
      obtain ⟨m, rfl, hm1, hm6, hset, hl8⟩ := fam_nat2 hf
      have HC := Lib.hid hc
      have HZ : Hid (outCM (m : Int) zs (k : Int) = ((cntCM m zs k : Nat) : Int)) := Lib.hid (by unfold outCM; rw [hf, hc]; rfl)
      have HO : Hid (okCM (m : Int) zs (k : Int) = true) := Lib.hid (by unfold okCM; rw [hf, hc]; rfl)
      have HSET := Lib.hid hset
      have HFI := Lib.hid (implFamilyIn_any (m : Int) a c zs _ (HA.out.mono (show w.heap.size ≤ (w.alloc (.cells #[.int .i64 (m : Int), .slice a zs.length c] 27)).heap.size by simp)) hx)
      have hkm : k ^ m ≤ 4096 := Nat.le_trans (Nat.pow_le_pow_left hk4 m) (Nat.pow_le_pow_right (n := 4) (by decide) hm6)
      have hT1 := hT.lt
      have HT := Lib.hid hT
      have h16 : 1 ≤ 6 := by omega
      clear hf hc hset hT
      refine (callsIn_wide (n := 6)).1 ?_
      refine callsIn_of_wp_marks Tryd.func22 rfl trivial ?_ rfl
      simp only [Tryd.ntmps22, List.size_toArray, List.length_cons, List.length_nil, Nat.reduceAdd, Nat.reduceSub, Array.replicate_succ, Array.replicate_zero, List.push_toArray, List.append_toArray, List.nil_append, List.cons_append]
      gi_wp2_with fail
      refine ⟨trivial, ?_⟩
      refine (callsIn_wide.2 HFI.out).mono ?_
      rintro e w1 ⟨rfl, hb⟩
      rw [HF.out]
      gi_wp2_with fail
      refine ⟨trivial, ?_⟩
      refine (callsIn_wide.2 (coloursIn_any _ _ _)).mono ?_
      rintro e w2 ⟨rfl, rfl⟩
      rw [HC.out]
      have b0 : HasBlk w1 w.heap.size #[.int .i64 (m : Int), .slice a zs.length c] 27 := (hb.block _ (by simp)).trans (alloc_new w _)
      obtain ⟨W2, hW2, q0, q1, hs2, hb2⟩ : ∃ W2, w1.alloc (.cells #[.int .i64 0] 3) = W2 ∧ HasBlk W2 w.heap.size #[.int .i64 (m : Int), .slice a zs.length c] 27 ∧ Boxed W2 w1.heap.size 3 (.int .i64 ((([] : List (Value × List Int)).length : Nat) : Int)) ∧ W2.heap.size = w1.heap.size + 1 ∧ Below w1.heap.size w1 W2 :=
        ⟨_, rfl, HasBlk.alloc b0 _, alloc_new w1 _, by simp, below1 w1 _⟩
      have y0 := (blk_cell q0 0).trans (cell2_0 _ _)
      have y1 := (blk_cell q0 1).trans (cell2_1 _ _)
      rw [← hW2] at y0 y1
      have HW2 := Lib.hid hW2
      have HB1 : Hid (Below w.heap.size w w1) := Lib.hid (HB0.out.trans (hb.mono (by simp)))
      have HB2 := Lib.hid (HB1.out.trans (hb2.mono (Nat.le_of_lt (lt_of_some b0))))
      have HS2 := Lib.hid hs2
      have HQ1 := Lib.hid q1
      have HZ1 : Hid (w.heap.size < w1.heap.size) := Lib.hid (lt_of_some b0)
      clear hb b0 q0 q1 hs2 hb2 hW2
      gi_wp2_with fail
      refine ⟨trivial, ?_⟩
      rw [HW2.out]
      refine (callsIn_wide.2 (fair_any _ _ _ _ _ _)).mono ?_
      rintro e w3 ⟨p, rfl, hp0, hp1, bf, bk, bx, hb3⟩
      have hlo : Below w.heap.size w w3 := HB2.out.trans (hb3.mono HB2.out.size)
      have hseq := coloured1M_in (6 - 1) w.heap.size p (p + 1) (p + 2) m k hm1 hm6 (by omega) a c zs hx HSET.out (fun j => j = w1.heap.size) w3 hlo.size (fun j e => by have := HZ1.out; omega) (fun e => by have := HS2.out; omega) (fun e => by have := HS2.out; omega) (fun e => by have := HS2.out; omega) bf bk bx (HA0.out.below hlo) (HT.out.below hlo hT1) (by omega)
      have HSEQ := Lib.hid hseq
      have HLO := Lib.hid hlo
      have HQ3 : Hid (Boxed w3 w1.heap.size 3 (.int .i64 ((([] : List (Value × List Int)).length : Nat) : Int))) := Lib.hid ((hb3.block _ (by have := HS2.out; omega)).trans HQ1.out)
      have HS3 : Hid (w1.heap.size < w3.heap.size) := Lib.hid (by have := hb3.size; have := HS2.out; omega)
      clear hb3 hlo hseq bf bk bx hp0 hp1
      gi_wp2
      refine wpIn_rangeFunc_but (n := 6) h16 (gf := 82) (lb := #[.pointer (some ⟨p, 0, none⟩), .pointer (some ⟨p + 1, 0, none⟩), .pointer (some ⟨p + 2, 0, none⟩)]) rfl (enters_of Tryd.func82 (by kernel_rfl) rfl)
        HSEQ.out (Below.refl _ _) (fun j e => by have := HS3.out; omega) (fun _ => rfl)
        (fun x A l' o h hl => ⟨h.1, by obtain ⟨a', e, hi⟩ := h.2; exact ⟨a', e, by have := ints_putObj (o := o) hi hl; simpa using this⟩⟩)
        (fun pre Wr => Boxed Wr w1.heap.size 3 (.int .i64 ((pre.length : Nat) : Int)) ∧ But (fun j => j = w1.heap.size) w3 Wr)
        (fun _ _ => False)
        ?own (fun _ _ _ _ h _ _ => h) ⟨HQ3.out, But.refl _ _⟩
        (fun x a' _ => a' = { tmps := #[.agg #[.int .i64 (m : Int), .slice a zs.length c], .int .i64 (k : Int), .pointer (some ⟨w.heap.size, 0, none⟩), undef, .int .i64 0, .bool false, .pointer (some ⟨w1.heap.size, 0, none⟩), .agg #[.int .i64 (m : Int), .slice a zs.length c], .bool true, .bool false, .bool false, .int .i64 (k : Int), .bool true, .bool false, .bool false, .agg #[.int .i64 (m : Int), .slice a zs.length c], .int .i64 (k : Int), .func (.func 82) #[] #[.pointer (some ⟨p, 0, none⟩), .pointer (some ⟨p + 1, 0, none⟩), .pointer (some ⟨p + 2, 0, none⟩)], x.1, undef, undef, undef], defers := [] })
        (fun _ _ _ _ _ h _ => h) ?assign ?body ?done (fun _ _ _ _ _ h _ => h.elim)
      case own =>
        rintro s A C row ⟨hj, hb⟩ hg hr
        have hs3 := HS3.out
        refine ⟨HasBlk.kept hj hg (fun e => by have := hr _ e; omega), ?_⟩
        exact ⟨hg.os.trans hb.os, hg.tape.trans hb.tape, hg.output.trans hb.output, Nat.le_trans hb.size hg.size, fun i hi hX => (hg.block i (Nat.lt_of_lt_of_le hi hb.size) (fun e => by have := hr i e.symm; omega)).trans (hb.same i hi hX)⟩
      case assign =>
        rintro l1 pre ⟨x1, x2⟩ Wr K hI ⟨hlen, a', ha', hints⟩ hsz hK
        dsimp only at ha' hlen hints
        subst ha'
        gi_wp2
        exact hK _ _ (But.refl _ _) hI ⟨hlen, _, rfl, hints⟩ rfl
      case body =>
        rintro l1 pre ⟨x1, x2⟩ a2 Wr hl1' ⟨hj, hb⟩ hok rfl hlt
        have hl0 : pre.length < 4096 := Nat.lt_of_lt_of_le hlt hkm
        obtain ⟨N, hN⟩ : ∃ N, N = pre.length := ⟨_, rfl⟩
        rw [← hN] at hj hl0
        have hNI : (N : Int) < 4096 := by omega
        have hN0 : (0 : Int) ≤ (N : Int) := by omega
        have c1 := hj.cell
        have g1 := hj.frozen
        have HJ2 : Hid (Boxed (Wr.setCell ⟨w1.heap.size, 0, none⟩ (.int .i64 ((N : Int) + 1))) w1.heap.size 3 (.int .i64 ((N : Int) + 1))) := Lib.hid (hj.set _)
        have HBS : Hid (But (fun j => j = w1.heap.size) Wr (Wr.setCell ⟨w1.heap.size, 0, none⟩ (.int .i64 ((N : Int) + 1)))) := Lib.hid (But.setCell _ _ _ _ (fun _ => rfl))
        have HB := Lib.hid hb
        have HN := Lib.hid hN
        clear hj hb hok hlt hN
        gi_wp2
        refine ⟨HBS.out, ?_, HB.out.trans HBS.out⟩
        rw [List.length_append, List.length_singleton, ← HN.out, show ((N + 1 : Nat) : Int) = (N : Int) + 1 from by omega]
        exact HJ2.out
      case done =>
        rintro E xs Wr hE hS ⟨hj, hb⟩ hK
        have hc2 : xs.length = cntCM m zs k := by
          have := congrArg List.length hS
          rw [List.length_map] at this
          rw [this, cntCM, List.countP_eq_length_filter]
        rw [hc2] at hj
        have c1 := hj.cell
        have HK := Lib.hid hK
        have HBB : Hid (Below w.heap.size w Wr) := Lib.hid (HLO.out.trans (hb.below (B := w.heap.size) HLO.out.size (fun j e => by have := HZ1.out; omega)))
        have HE : Hid (w.heap.size ≤ E) := Lib.hid (Nat.le_trans HLO.out.size hE)
        clear hj hb hK hS hc2
        gi_wp2
        refine ⟨by simp, .inl ⟨_, _, rfl, run_takeDeferred HK.out, ?_⟩⟩
        refine ⟨.tuple #[.int .i64 ((cntCM m zs k : Nat) : Int), .bool true], by simp [results, Tryd.results22, go_sem], ?_, ?_⟩
        · rw [HZ.out, HO.out]
        · exact HBB.out.grown (grownBy_putObj' Wr E _) HBB.out.size (fun g e => by injection e with e; subst e; exact HE.out)

end Go.Proofs.YtfhhfilkabjhaaaDoor
