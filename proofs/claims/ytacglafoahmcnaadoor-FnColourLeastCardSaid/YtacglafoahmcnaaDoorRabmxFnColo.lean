/- It is proved what ColourMany of the program returns; conditions: those of each statement. -/
import Derived.RowKit
import Derived.Laws.CopyRow
import Derived.Lib.SlBuf
import Derived.Deep.QuietTactic
import Derived.RangeFuncNested
import Derived.RangeFuncBound
import Derived.RangeFuncCalls
import Derived.RangeFuncLeaves
import Derived.RangeFuncBox
import Derived.RangeFuncWrites
import Derived.StillTailTactics
import Derived.Maps.OwnIn
import Derived.Maps.Ext
import Derived.DeepKeys4
import Derived.MapKept
import Derived.Test.YtacglafoahmcnaaDoorRows
import Derived.WalkKit
import Derived.WalkSpells
import Derived.ProofKit
import Derived.OpenShut
import Derived.ShutString
import Derived.ChangeOld
import Derived.Below
import Derived.Deep.RegionHeld3
import Derived.BigQuiet
import Derived.Lib.Hide
import Derived.Lib.SmallJoins
import Derived.Outline
import Derived.Laws.MakeOwn
import Derived.Laws.OwnMore
import Derived.IntWalk
import Derived.Maps.AppendAt
import Derived.Deep.RegionLaw
import Derived.Deep.AppendLies
import Derived.Lib.AppendZeros
import Derived.OwnWalk
import Derived.Lib.SlicesCompact
import Derived.Lib.OwnBridge
import Derived.OrdersIn
import Derived.TacticsIn
import Derived.Shelf.Sort.Plain
import Derived.Shelf.Slices.In.SortNone
import Derived.Shelf.Slices.CompactI
import Derived.Ground.Names2Prog
import Derived.Lib.SliceRun
import Derived.Shelf.Abstract
import Derived.Shelf.RegionOpen
import Derived.OwnWalkIn
import Derived.TacticsInMore
import Derived.LoopNIn
import Derived.LoopIn
import Derived.StillTail
import Derived.StillTactics
import Derived.Shelf.Spec.TrailingZeros
import Derived.Deep.LoopGhost
import Derived.Test.YtacglafoahmcnaaDoorRaal
import Derived.Test.YtacglafoahmcnaaDoorRabhxFnColo
import Derived.Test.YtacglafoahmcnaaDoorRaaa
import Derived.Test.YtacglafoahmcnaaDoorRaac
import Derived.Test.YtacglafoahmcnaaDoorRaag
import Derived.Test.YtacglafoahmcnaaDoorRaazxFnColo
import Derived.Test.YtacglafoahmcnaaDoorRablxFnColo
import Derived.Test.YtacglafoahmcnaaDoorRaam
import Derived.Test.YtacglafoahmcnaaDoorRabjxFnColo
import Derived.Test.YtacglafoahmcnaaDoorRabbxFnColo
import Derived.Test.YtacglafoahmcnaaDoorRaab
import Derived.Test.YtacglafoahmcnaaDoorRaae
import Derived.Test.YtacglafoahmcnaaDoorRabgxFnColo
import Derived.Sort.MapsRangeIn
import Derived.Test.YtacglafoahmcnaaDoorRaaw
import Derived.Test.YtacglafoahmcnaaDoorYa
namespace Go.Proofs.YtacglafoahmcnaaDoor
open Go.RowKit Go.Shelf

attribute [local go_sem] Oper.semAt_some

def cntCM (m : Nat) (zs : List Int) (k : Nat) : Nat := (wordsL (palI k) m).countP (mixB zs)
theorem cntCM_le (m : Nat) (zs : List Int) (k : Nat) : cntCM m zs k ≤ k ^ m := by
  unfold cntCM
  have := List.countP_le_length (p := mixB zs) (l := wordsL (palI k) m)
  rw [wordsL_card, palI_len] at this
  exact this

def outCM (m : Int) (zs : List Int) (k : Int) : Int := if famIn m zs && colIn k 0 then ((cntCM m.toNat zs k.toNat : Nat) : Int) else 0
def okCM (m : Int) (zs : List Int) (k : Int) : Bool := famIn m zs && colIn k 0
theorem colIn_nat {k l : Int} (hl : 0 ≤ l) (h : colIn k l = true) : ∃ n : Nat, k = (n : Int) ∧ n ≤ 4 ∧ l ≤ k := by
  unfold colIn at h
  rw [Bool.and_eq_true, decide_eq_true_eq, decide_eq_true_eq] at h
  exact ⟨k.toNat, by omega, by omega, h.1⟩

set_option maxRecDepth 100000 in
theorem fair_any (m : Int) (a : Option Addr) (n c : Nat) (k : Int) (w : World) :
    Calls Tryd.prog 74 #[.agg #[.int .i64 m, .slice a n c], .int .i64 k] w fun e w' => ∃ p : Nat, e = .returned (.func (.func 132) #[] #[.pointer (some ⟨p, 0, none⟩), .pointer (some ⟨p + 1, 0, none⟩), .pointer (some ⟨p + 2, 0, none⟩)]) ∧ w.heap.size ≤ p ∧ p + 2 < w'.heap.size ∧
      HasBlk w' p #[.int .i64 m, .slice a n c] 25 ∧ Boxed w' (p + 1) 3 (.int .i64 k) ∧ Boxed w' (p + 2) 105 (.func (.func 107) #[] #[]) ∧ Below w.heap.size w w' := by
  have HB := Lib.hid (below1 w (.cells #[.int .i64 m, .slice a n c] 25))
  go_enter Tryd.func74, Tryd.ntmps74
  go_wp2_with fail
  refine (coloured_any _ _ _ _ _ _ _).mono ?_
  rintro e w1 ⟨rfl, hw⟩
  have HW := Lib.hid hw
  clear hw
  go_wp2
  go_ret
  refine ⟨_, rfl, by simp, ?_⟩
  rw [HW.out]
  have e0 := alloc3_0 (w.alloc (.cells #[.int .i64 m, .slice a n c] 25)) (.cells #[.int .i64 m, .slice a n c] 25) (.cells #[.int .i64 k] 3) (.cells #[.func (.func 107) #[] #[]] 105)
  have e1 := alloc3_1 (w.alloc (.cells #[.int .i64 m, .slice a n c] 25)) (.cells #[.int .i64 m, .slice a n c] 25) (.cells #[.int .i64 k] 3) (.cells #[.func (.func 107) #[] #[]] 105)
  have e2 := alloc3_2 (w.alloc (.cells #[.int .i64 m, .slice a n c] 25)) (.cells #[.int .i64 m, .slice a n c] 25) (.cells #[.int .i64 k] 3) (.cells #[.func (.func 107) #[] #[]] 105)
  simp only [World.size_alloc] at e0 e1 e2
  exact ⟨by simp, e0, e1, e2, HB.out.trans ((below3 _ _ _ _).mono (by simp))⟩

set_option maxRecDepth 100000 in
set_option maxHeartbeats 4000000 in
theorem implColourMany_any (m k : Int) (a : Option Addr) (c : Nat) (zs : List Int) (w : World) (ha : Ints w w.heap.size a zs) (hT : Tab w) (hx : zs.length ≤ 1048576) :
    Calls Tryd.prog 29 #[.agg #[.int .i64 m, .slice a zs.length c], .int .i64 k] w (RetIB w (outCM m zs k) (okCM m zs k)) := by
  have HB0 := Lib.hid (below1 w (.cells #[.int .i64 m, .slice a zs.length c] 25))
  have HA := Lib.hid (ha.below HB0.out)
  have HA0 := Lib.hid ha
  clear ha
  cases hf : famIn m zs
  · have HF := Lib.hid hf
    have HZ : Hid (outCM m zs k = 0) := Lib.hid (by unfold outCM; rw [hf]; rfl)
    have HO : Hid (okCM m zs k = false) := Lib.hid (by unfold okCM; rw [hf]; rfl)
    clear hf hT
    go_enter Tryd.func29, Tryd.ntmps29
    go_wp2_with fail
    refine (implFamilyIn_any _ _ _ zs _ (HA.out.mono (by simp)) hx).mono ?_
    rintro e w1 ⟨rfl, hb⟩
    rw [HF.out]
    have HB := Lib.hid (HB0.out.trans (hb.mono (by simp)))
    clear hb
    go_wp2
    go_ret2
    exact ⟨by rw [HZ.out, HO.out]; rfl, HB.out⟩
  · cases hc : colIn k 0
    · have HF := Lib.hid hf
      have HC := Lib.hid hc
      have HZ : Hid (outCM m zs k = 0) := Lib.hid (by unfold outCM; rw [hf, hc]; rfl)
      have HO : Hid (okCM m zs k = false) := Lib.hid (by unfold okCM; rw [hf, hc]; rfl)
      clear hf hc hT
      go_enter Tryd.func29, Tryd.ntmps29
      go_wp2_with fail
      refine (implFamilyIn_any _ _ _ zs _ (HA.out.mono (by simp)) hx).mono ?_
      rintro e w1 ⟨rfl, hb⟩
      rw [HF.out]
      have HB := Lib.hid (HB0.out.trans (hb.mono (by simp)))
      clear hb
      go_wp2_with fail
      refine (coloursIn_any _ _ _).mono ?_
      rintro e w2 ⟨rfl, rfl⟩
      rw [HC.out]
      go_wp2
      go_ret2
      exact ⟨by rw [HZ.out, HO.out]; rfl, HB.out⟩
    · have HF := Lib.hid hf
      obtain ⟨k, rfl, hk4, -⟩ := colIn_nat (Int.le_refl 0) hc
      obtain ⟨m, rfl, hm1, hm6, hset, hl8⟩ := fam_nat2 hf
      have HC := Lib.hid hc
      have HZ : Hid (outCM (m : Int) zs (k : Int) = ((cntCM m zs k : Nat) : Int)) := Lib.hid (by unfold outCM; rw [hf, hc]; rfl)
      have HO : Hid (okCM (m : Int) zs (k : Int) = true) := Lib.hid (by unfold okCM; rw [hf, hc]; rfl)
      have HSET := Lib.hid hset
      have HFI := Lib.hid (implFamilyIn_any (m : Int) a c zs _ (HA.out.mono (show w.heap.size ≤ (w.alloc (.cells #[.int .i64 (m : Int), .slice a zs.length c] 25)).heap.size by simp)) hx)
      have hkm : k ^ m ≤ 4096 := Nat.le_trans (Nat.pow_le_pow_left hk4 m) (Nat.pow_le_pow_right (n := 4) (by decide) hm6)
      have hT1 := hT.lt
      have HT := Lib.hid hT
      have h16 : 1 ≤ 6 := by omega
      clear hf hc hset hT
      refine (callsIn_wide (n := 6)).1 ?_
      refine callsIn_of_wp_marks Tryd.func29 rfl trivial ?_ rfl
      simp only [Tryd.ntmps29, List.size_toArray, List.length_cons, List.length_nil, Nat.reduceAdd, Nat.reduceSub, Array.replicate_succ, Array.replicate_zero, List.push_toArray, List.append_toArray, List.nil_append, List.cons_append]
      gi_wp2_with fail
      refine ⟨trivial, ?_⟩
      refine (callsIn_wide.2 HFI.out).mono ?_
      rintro e w1 ⟨rfl, hb⟩
      rw [HF.out]
      gi_wp2_with fail
      refine ⟨trivial, ?_⟩
      refine (callsIn_wide.2 (coloursIn_any _ _ _)).mono ?_
      rintro e w2 ⟨rfl, rfl⟩
      rw [HC.out]
      have b0 : HasBlk w1 w.heap.size #[.int .i64 (m : Int), .slice a zs.length c] 25 := (hb.block _ (by simp)).trans (alloc_new w _)
      obtain ⟨W2, hW2, q0, q1, hs2, hb2⟩ : ∃ W2, w1.alloc (.cells #[.int .i64 0] 3) = W2 ∧ HasBlk W2 w.heap.size #[.int .i64 (m : Int), .slice a zs.length c] 25 ∧ Boxed W2 w1.heap.size 3 (.int .i64 ((([] : List (Value × List Int)).length : Nat) : Int)) ∧ W2.heap.size = w1.heap.size + 1 ∧ Below w1.heap.size w1 W2 :=
        ⟨_, rfl, HasBlk.alloc b0 _, alloc_new w1 _, by simp, below1 w1 _⟩
      have y0 := (blk_cell q0 0).trans (cell2_0 _ _)
      have y1 := (blk_cell q0 1).trans (cell2_1 _ _)
      rw [← hW2] at y0 y1
      have HW2 := Lib.hid hW2
      have HB1 : Hid (Below w.heap.size w w1) := Lib.hid (HB0.out.trans (hb.mono (by simp)))
      have HB2 := Lib.hid (HB1.out.trans (hb2.mono (Nat.le_of_lt (lt_of_some b0))))
      have HS2 := Lib.hid hs2
      have HQ1 := Lib.hid q1
      have HZ1 : Hid (w.heap.size < w1.heap.size) := Lib.hid (lt_of_some b0)
      clear hb b0 q0 q1 hs2 hb2 hW2
      gi_wp2_with fail
      refine ⟨trivial, ?_⟩
      rw [HW2.out]
      refine (callsIn_wide.2 (fair_any _ _ _ _ _ _)).mono ?_
      rintro e w3 ⟨p, rfl, hp0, hp1, bf, bk, bx, hb3⟩
      have hlo : Below w.heap.size w w3 := HB2.out.trans (hb3.mono HB2.out.size)
      have hseq := coloured1M_in (6 - 1) w.heap.size p (p + 1) (p + 2) m k hm1 hm6 (by omega) a c zs hx HSET.out (fun j => j = w1.heap.size) w3 hlo.size (fun j e => by have := HZ1.out; omega) (fun e => by have := HS2.out; omega) (fun e => by have := HS2.out; omega) (fun e => by have := HS2.out; omega) bf bk bx (HA0.out.below hlo) (HT.out.below hlo hT1) (by omega)
      have HSEQ := Lib.hid hseq
      have HLO := Lib.hid hlo
      have HQ3 : Hid (Boxed w3 w1.heap.size 3 (.int .i64 ((([] : List (Value × List Int)).length : Nat) : Int))) := Lib.hid ((hb3.block _ (by have := HS2.out; omega)).trans HQ1.out)
      have HS3 : Hid (w1.heap.size < w3.heap.size) := Lib.hid (by have := hb3.size; have := HS2.out; omega)
      clear hb3 hlo hseq bf bk bx hp0 hp1
      gi_wp2
      refine wpIn_rangeFunc_but (n := 6) h16 (gf := 132) (lb := #[.pointer (some ⟨p, 0, none⟩), .pointer (some ⟨p + 1, 0, none⟩), .pointer (some ⟨p + 2, 0, none⟩)]) rfl (enters_of Tryd.func132 (by kernel_rfl) rfl)
        HSEQ.out (Below.refl _ _) (fun j e => by have := HS3.out; omega) (fun _ => rfl)
        (fun x A l' o h hl => ⟨h.1, by obtain ⟨a', e, hi⟩ := h.2; exact ⟨a', e, by have := ints_putObj (o := o) hi hl; simpa using this⟩⟩)
        (fun pre Wr => Boxed Wr w1.heap.size 3 (.int .i64 ((pre.length : Nat) : Int)) ∧ But (fun j => j = w1.heap.size) w3 Wr)
        (fun _ _ => False)
        ?own (fun _ _ _ _ h _ _ => h) ⟨HQ3.out, But.refl _ _⟩
        (fun x a' _ => a' = { tmps := #[.agg #[.int .i64 (m : Int), .slice a zs.length c], .int .i64 (k : Int), .pointer (some ⟨w.heap.size, 0, none⟩), undef, .int .i64 0, .bool false, .pointer (some ⟨w1.heap.size, 0, none⟩), .agg #[.int .i64 (m : Int), .slice a zs.length c], .bool true, .bool false, .bool false, .int .i64 (k : Int), .bool true, .bool false, .bool false, .agg #[.int .i64 (m : Int), .slice a zs.length c], .int .i64 (k : Int), .func (.func 132) #[] #[.pointer (some ⟨p, 0, none⟩), .pointer (some ⟨p + 1, 0, none⟩), .pointer (some ⟨p + 2, 0, none⟩)], x.1, undef, undef, undef], defers := [] })
        (fun _ _ _ _ _ h _ => h) ?assign ?body ?done (fun _ _ _ _ _ h _ => h.elim)
      case own =>
        rintro s A C row ⟨hj, hb⟩ hg hr
        have hs3 := HS3.out
        refine ⟨HasBlk.kept hj hg (fun e => by have := hr _ e; omega), ?_⟩
        exact ⟨hg.os.trans hb.os, hg.tape.trans hb.tape, hg.output.trans hb.output, Nat.le_trans hb.size hg.size, fun i hi hX => (hg.block i (Nat.lt_of_lt_of_le hi hb.size) (fun e => by have := hr i e.symm; omega)).trans (hb.same i hi hX)⟩
      case assign =>
        rintro l1 pre ⟨x1, x2⟩ Wr K hI ⟨hlen, a', ha', hints⟩ hsz hK
        dsimp only at ha' hlen hints
        subst ha'
        gi_wp2
        exact hK _ _ (But.refl _ _) hI ⟨hlen, _, rfl, hints⟩ rfl
      case body =>
        rintro l1 pre ⟨x1, x2⟩ a2 Wr hl1' ⟨hj, hb⟩ hok rfl hlt
        have hl0 : pre.length < 4096 := Nat.lt_of_lt_of_le hlt hkm
        obtain ⟨N, hN⟩ : ∃ N, N = pre.length := ⟨_, rfl⟩
        rw [← hN] at hj hl0
        have hNI : (N : Int) < 4096 := by omega
        have hN0 : (0 : Int) ≤ (N : Int) := by omega
        have c1 := hj.cell
        have g1 := hj.frozen
        have HJ2 : Hid (Boxed (Wr.setCell ⟨w1.heap.size, 0, none⟩ (.int .i64 ((N : Int) + 1))) w1.heap.size 3 (.int .i64 ((N : Int) + 1))) := Lib.hid (hj.set _)
        have HBS : Hid (But (fun j => j = w1.heap.size) Wr (Wr.setCell ⟨w1.heap.size, 0, none⟩ (.int .i64 ((N : Int) + 1)))) := Lib.hid (But.setCell _ _ _ _ (fun _ => rfl))
        have HB := Lib.hid hb
        have HN := Lib.hid hN
        clear hj hb hok hlt hN
        gi_wp2
        refine ⟨HBS.out, ?_, HB.out.trans HBS.out⟩
        rw [List.length_append, List.length_singleton, ← HN.out, show ((N + 1 : Nat) : Int) = (N : Int) + 1 from by omega]
        exact HJ2.out
      case done =>
        rintro E xs Wr hE hS ⟨hj, hb⟩ hK
        have hc2 : xs.length = cntCM m zs k := by
          have := congrArg List.length hS
          rw [List.length_map] at this
          rw [this, cntCM, List.countP_eq_length_filter]
        rw [hc2] at hj
        have c1 := hj.cell
        have HK := Lib.hid hK
        have HBB : Hid (Below w.heap.size w Wr) := Lib.hid (HLO.out.trans (hb.below (B := w.heap.size) HLO.out.size (fun j e => by have := HZ1.out; omega)))
        have HE : Hid (w.heap.size ≤ E) := Lib.hid (Nat.le_trans HLO.out.size hE)
        clear hj hb hK hS hc2
        gi_wp2
        refine ⟨by simp, .inl ⟨_, _, rfl, run_takeDeferred HK.out, ?_⟩⟩
        refine ⟨.tuple #[.int .i64 ((cntCM m zs k : Nat) : Int), .bool true], by simp [results, Tryd.results29, go_sem], ?_, ?_⟩
        · rw [HZ.out, HO.out]
        · exact HBB.out.grown (grownBy_putObj' Wr E _) HBB.out.size (fun g e => by injection e with e; subst e; exact HE.out)

end Go.Proofs.YtacglafoahmcnaaDoor

/- It is proved what compare of clubList returns; conditions: those of each statement. -/
namespace Go.Proofs.YtacglafoahmcnaaDoor
open Go.RowKit Go.Shelf

theorem ints_blk {W : World} {b : Nat} {t : TypeId} {xs : List Int} (h : HasBlk W b (iv xs) t) (B : Nat) (hb : b < B) : Ints W B (some ⟨b, 0, none⟩) xs :=
  .inr ⟨b, 0, rfl, hb, fun j hj => by rw [Nat.zero_add]; exact (blk_cell h j).trans (iv_at xs j hj)⟩

end Go.Proofs.YtacglafoahmcnaaDoor

/- It is proved what the reference model's powers, lists of colours and questions for mixed colours return; conditions: those of each statement. -/
namespace Go.Proofs.YtacglafoahmcnaaDoor
open Go.RowKit

set_option maxRecDepth 100000 in
theorem l7Power_any (k n : Nat) (hk : k ≤ 6) (hn : n ≤ 6) (w : World) :
    Calls Tryd.prog 103 #[.int .i64 (k : Int), .int .i64 (n : Int)] w fun e w' => e = .returned (.int .i64 ((k ^ n : Nat) : Int)) ∧ w = w' := by
  have hle : ∀ i, i ≤ n → k ^ i ≤ 46656 := fun i hi => Nat.le_trans (Nat.pow_le_pow_left hk i) (Nat.le_trans (Nat.pow_le_pow_right (n := 6) (by decide) (show i ≤ 6 by omega)) (by decide))
  have HLE := Lib.hid hle
  clear hle
  go_enter Tryd.func103, Tryd.ntmps103
  go_wp2
  go_loop [5, 6] (fun o i => ∃ j : Nat, j ≤ n ∧ i = .int .i64 (j : Int) ∧ o = .int .i64 ((k ^ j : Nat) : Int)) (fun _ i => n - (intOf i).toNat)
  case atStart => exact ⟨0, Nat.zero_le _, rfl, by simp⟩
  case round =>
    obtain ⟨j, hj, rfl, rfl⟩ := hrel
    have hP := HLE.out j hj
    by_cases hlt : j < n
    · have hji : (j : Int) < (n : Int) := by omega
      have hP2 := HLE.out (j + 1) hlt
      have hmul : ((k ^ j : Nat) : Int) * (k : Int) = ((k ^ (j + 1) : Nat) : Int) := by rw [Nat.pow_succ]; norm_cast
      obtain ⟨P, hPP⟩ : ∃ P, P = k ^ j := ⟨_, rfl⟩
      obtain ⟨P2, hPP2⟩ : ∃ P2, P2 = k ^ (j + 1) := ⟨_, rfl⟩
      rw [← hPP, ← hPP2] at hmul
      rw [← hPP] at hP ⊢
      rw [← hPP2] at hP2
      have HPP2 := Lib.hid hPP2
      have hP2I : (P2 : Int) ≤ 46656 := by omega
      have hP20 : (0 : Int) ≤ (P2 : Int) := by omega
      clear hPP hPP2
      go_wp2
      go_round
      case rel => exact ⟨j + 1, by omega, by go_num, by
        rw [← HPP2.out]⟩
      case measure => simp [intOf]; omega
    · obtain rfl : j = n := by omega
      go_wp2
      go_ret
      exact ⟨rfl, rfl⟩

set_option maxRecDepth 100000 in
set_option maxHeartbeats 2000000 in
theorem l7Colours_any (n k code : Nat) (hn1 : 1 ≤ n) (hn : n ≤ 6) (hk1 : 1 ≤ k) (hk : k ≤ 6) (hc : code ≤ 100000) (w : World) :
    Calls Tryd.prog 105 #[.int .i64 (n : Int), .int .i64 (k : Int), .int .i64 (code : Int)] w fun e w' => e = .returned (.slice (some ⟨w.heap.size, 0, none⟩) n n) ∧ Nums w' w.heap.size 3 (digs k n code) ∧ Below w.heap.size w w' := by
  have hmk := run_makeP n (by omega) w
  obtain ⟨W1, hW1, q1, hb1⟩ : ∃ W1, w.alloc (.cells (Array.replicate n (.int .i64 0)) 3) = W1 ∧ Nums W1 w.heap.size 3 (List.replicate n 0) ∧ Below w.heap.size w W1 :=
    ⟨_, rfl, by
      have := alloc_new w (.cells (Array.replicate n (.int .i64 0)) 3)
      unfold Nums HasBlk iv
      simpa using this, below1 w _⟩
  rw [hW1] at hmk
  have H0 : Hid (Nums W1 w.heap.size 3 (List.replicate n 0) ∧ Below w.heap.size w W1 ∧ (List.replicate n (0 : Int)).length = n ∧ digs k n code ++ (List.replicate n (0 : Int)).drop n = digs k n code) := Lib.hid ⟨q1, hb1, by simp, by simp⟩
  clear q1 hb1 hW1
  have hkI : (1 : Int) ≤ (k : Int) := by omega
  have hk6 : (k : Int) ≤ 6 := by omega
  have hcI : (code : Int) ≤ 100000 := by omega
  have hc0 : (0 : Int) ≤ (code : Int) := by omega
  go_enter Tryd.func105, Tryd.ntmps105
  go_wp2
  clear hmk
  go_loopw [2, 8] (fun s2 s8 wr => ∃ (j c' : Nat) (X : List Int), j ≤ n ∧ c' ≤ 100000 ∧ s8 = .int .i64 ((j : Int) - 1) ∧ s2 = .int .i64 (c' : Int) ∧ Hid (Nums wr w.heap.size 3 X ∧ Below w.heap.size w wr ∧ X.length = n ∧ digs k j c' ++ X.drop j = digs k n code)) (fun _ s8 _ => (intOf s8 + 1).toNat)
  case atStart => exact ⟨n, code, _, Nat.le_refl _, hc, rfl, rfl, H0⟩
  case round =>
    obtain ⟨j, c', X, hj, hc', rfl, rfl, HS⟩ := hrel
    have hc'I : (c' : Int) ≤ 100000 := by omega
    have hc'0 : (0 : Int) ≤ (c' : Int) := by omega
    cases j with
    | zero =>
      have hX : X = digs k n code := by have := HS.out.2.2.2; simpa [digs] using this
      have HR : Hid (Nums wr w.heap.size 3 (digs k n code) ∧ Below w.heap.size w wr) := Lib.hid ⟨by rw [← hX]; exact HS.out.1, HS.out.2.1⟩
      clear H0 HS hX
      go_wp2
      go_ret
      exact ⟨rfl, HR.out⟩
    | succ j =>
      have hjn : (j : Int) < (n : Int) := by omega
      have hj0 : (0 : Int) ≤ (j : Int) := by omega
      have e1 : (((j + 1 : Nat) : Int) - 1) = (j : Int) := by omega
      rw [e1]
      have hXl := HS.out.2.2.1
      have c1 := HS.out.1.cell j (by omega)
      have f1 := HS.out.1.frozen j
      have hrem : Int.tmod (c' : Int) (k : Int) = ((c' % k : Nat) : Int) := by rw [Int.ofNat_tmod]
      have hquo : Int.tdiv (c' : Int) (k : Int) = ((c' / k : Nat) : Int) := by rw [Int.ofNat_tdiv]
      have hr1 : c' % k < k := Nat.mod_lt _ (by omega)
      have hr2 : c' / k ≤ c' := Nat.div_le_self _ _
      obtain ⟨r, hr⟩ : ∃ r, r = c' % k := ⟨_, rfl⟩
      obtain ⟨q, hq⟩ : ∃ q, q = c' / k := ⟨_, rfl⟩
      have HR : Hid (Nums (wr.setCell ⟨w.heap.size, j, none⟩ (.int .i64 (r : Int))) w.heap.size 3 (X.set j (r : Int)) ∧ Below w.heap.size w (wr.setCell ⟨w.heap.size, j, none⟩ (.int .i64 (r : Int))) ∧ (X.set j (r : Int)).length = n ∧ digs k j q ++ (X.set j (r : Int)).drop j = digs k n code) := Lib.hid ⟨HS.out.1.set j _, HS.out.2.1.setCell (p := ⟨w.heap.size, j, none⟩) (Nat.le_refl _) _, by rw [List.length_set]; exact hXl, by
        rw [← HS.out.2.2.2, digs, ← hq, ← hr, List.append_assoc]
        congr 1
        rw [List.drop_eq_getElem_cons (by rw [List.length_set]; omega)]
        simp [List.drop_set]⟩
      rw [← hr] at hrem hr1
      rw [← hq] at hquo hr2
      have hrI : (r : Int) ≤ 6 := by omega
      have hr0 : (0 : Int) ≤ (r : Int) := by omega
      have hqI : (q : Int) ≤ 100000 := by omega
      have hq0 : (0 : Int) ≤ (q : Int) := by omega
      clear H0 HS hXl hr hq
      go_wp2
      go_roundw
      case rel => exact ⟨j, q, _, by omega, by omega, by go_num, by first | rfl | go_num | rw [hquo], by first | exact HR | (rw [← hrem] at HR; exact HR)⟩
      case measure => simp [intOf]

end Go.Proofs.YtacglafoahmcnaaDoor

/- It is proved what the reference model's l7Mixed and l7Many return; conditions: those of each statement. -/
namespace Go.Proofs.YtacglafoahmcnaaDoor
open Go.RowKit

/-- The model's question, up to a member, and up to a pair. -/
def mixW (cs : List Int) (z : Int) (v w : Nat) : Bool := (List.range w).any fun w => Bt v z && Bt w z && (cs[v]?.getD 0 != cs[w]?.getD 0)

def mixV (cs : List Int) (z : Int) (v : Nat) : Bool := (List.range v).any fun v => mixW cs z v v
theorem mixW_succ (cs : List Int) (z : Int) (v w : Nat) : mixW cs z v (w + 1) = (mixW cs z v w || (Bt v z && Bt w z && (cs[v]?.getD 0 != cs[w]?.getD 0))) := by simp [mixW, List.range_succ]
theorem mixV_succ (cs : List Int) (z : Int) (v : Nat) : mixV cs z (v + 1) = (mixV cs z v || mixW cs z v v) := by simp [mixV, List.range_succ]
theorem allM_no {cs zs : List Int} {k : Nat} (hk : k < zs.length) (h : mixM cs (zs[k]?.getD 0) = false) : zs.all (mixM cs) = false := by
  rw [List.all_eq_false]
  refine ⟨zs[k], List.getElem_mem hk, ?_⟩
  rw [List.getElem?_eq_getElem hk, Option.getD_some] at h
  simp [h]

theorem allM_yes {cs zs : List Int} (h : ∀ j, j < zs.length → mixM cs (zs[j]?.getD 0) = true) : zs.all (mixM cs) = true := by
  rw [List.all_eq_true]
  intro z hz
  obtain ⟨j, hj, rfl⟩ := List.mem_iff_getElem.1 hz
  have := h j hj
  rwa [List.getElem?_eq_getElem hj, Option.getD_some] at this

set_option maxRecDepth 100000 in
set_option maxHeartbeats 8000000 in
theorem l7Mixed_any (n : Nat) (hn : n ≤ 6) (a : Option Addr) (c : Nat) (zs : List Int) (b : Option Addr) (d : Nat) (cs : List Int) (hcs : cs.length = n) (w : World) (ha : Ints w w.heap.size a zs) (hb : Ints w w.heap.size b cs) (hx : zs.length ≤ 1048576) (hz : ∀ z ∈ zs, 0 ≤ z ∧ z.toNat < 64) :
    Calls Tryd.prog 104 #[.slice a zs.length c, .slice b n d] w fun e w' => e = .returned (.bool (zs.all (mixM cs))) ∧ Below w.heap.size w w' := by
  obtain ⟨N, hN⟩ : ∃ N, N = zs.length := ⟨_, rfl⟩
  have HN := Lib.hid hN
  have HCS := Lib.hid hcs
  have HA := Lib.hid ha
  have HB := Lib.hid hb
  have HZ := Lib.hid hz
  rw [← hN]
  rw [← hN] at hx
  clear hN hcs ha hb hz
  go_enter Tryd.func104, Tryd.ntmps104
  go_wp2
  go_loopw [5, 6, 7, 8] (fun s5 _ _ _ wr => ∃ i : Nat, i ≤ N ∧ s5 = .int .i64 (i : Int) ∧ Hid ((∀ j, j < i → mixM cs (zs[j]?.getD 0) = true) ∧ Below w.heap.size w wr)) (fun s5 _ _ _ _ => N - (intOf s5).toNat)
  case atStart => exact ⟨0, Nat.zero_le _, rfl, Lib.hid ⟨fun j hj => by omega, Below.refl _ _⟩⟩
  case round =>
    obtain ⟨i, hi, rfl, HS⟩ := hrel
    obtain ⟨wo, rfl⟩ : ∃ wo, wo = wr := ⟨wr, rfl⟩
    by_cases hlt : i < N
    · have hiI : (i : Int) < (N : Int) := by omega
      have hi0 : (0 : Int) ≤ (i : Int) := by omega
      obtain ⟨ba, oa, rfl, hba, hca⟩ := HA.out.at_ (k := i) (by rw [← HN.out]; exact hlt)
      obtain ⟨z, hzz⟩ : ∃ z, z = zs[i]?.getD 0 := ⟨_, rfl⟩
      have hzm : z ∈ zs := by rw [hzz]; exact at_in (by rw [← HN.out]; exact hlt)
      obtain ⟨hz0, hz64⟩ := HZ.out z hzm
      have hz63 : z ≤ 63 := by omega
      rw [← hzz] at hca
      have HZZ := Lib.hid hzz
      have HV0 : Hid (Below wo.heap.size wo wo) := Lib.hid (Below.refl _ _)
      clear hzz hzm
      go_wp2
      go_loopw [6, 7, 8] (fun s6 s7 _ wv => ∃ v : Nat, v ≤ n ∧ s7 = .int .i64 (v : Int) ∧ s6 = .bool (mixV cs z v) ∧ Hid (Below wo.heap.size wo wv)) (fun _ s7 _ _ => n - (intOf s7).toNat)
      case atStart => exact ⟨0, Nat.zero_le _, rfl, by simp [mixV], HV0⟩
      case round =>
        obtain ⟨v, hv, rfl, rfl, HV⟩ := hrel
        obtain ⟨wv, rfl⟩ : ∃ wv, wv = wr := ⟨wr, rfl⟩
        by_cases hvn : v < n
        · have hvI : (v : Int) < (n : Int) := by omega
          have hv0 : (0 : Int) ≤ (v : Int) := by omega
          have hv6 : (v : Int) < 64 := by omega
          obtain ⟨bb, ob, rfl, hbb, hcb⟩ := HB.out.at_ (k := v) (by rw [HCS.out]; exact hvn)
          obtain ⟨x, hx1⟩ : ∃ x, x = cs[v]?.getD 0 := ⟨_, rfl⟩
          rw [← hx1] at hcb
          have HX := Lib.hid hx1
          have hbt := bt_int hz0 hz64 (show v < 6 by omega)
          have HBT := Lib.hid hbt
          have HW0 : Hid (mixV cs z v = (mixV cs z v || mixW cs z v 0)) := Lib.hid (by simp [mixW])
          clear hx1 hbt
          go_wp2
          go_loopw [6, 8] (fun s6 s8 ww => ∃ u : Nat, u ≤ v ∧ s8 = .int .i64 (u : Int) ∧ s6 = .bool (mixV cs z v || mixW cs z v u) ∧ Hid (Below wo.heap.size wo ww)) (fun _ s8 _ => v - (intOf s8).toNat)
          case atStart => exact ⟨0, Nat.zero_le _, rfl, by rw [← HW0.out], HV⟩
          case round =>
            obtain ⟨u, hu, rfl, rfl, HU⟩ := hrel
            by_cases huv : u < v
            · have huI : (u : Int) < (v : Int) := by omega
              have hu0 : (0 : Int) ≤ (u : Int) := by omega
              have hu6 : (u : Int) < 64 := by omega
              have hcu : w.cell? ⟨bb, ob + u, none⟩ = some (.int .i64 (cs[u]?.getD 0)) := by
                rcases HB.out with h | ⟨b', o', e, hb', hc'⟩
                · have := HCS.out; rw [h] at this; simp at this; omega
                · injection e with e; injection e with e1 e2; subst e1; subst e2
                  exact hc' u (by rw [HCS.out]; omega)
              obtain ⟨y, hy⟩ : ∃ y, y = cs[u]?.getD 0 := ⟨_, rfl⟩
              rw [← hy] at hcu
              have HY := Lib.hid hy
              have hall := HS.out.2.trans (HU.out.mono HS.out.2.size)
              have ca := (hall.cell (p := ⟨ba, oa + i, none⟩) hba).trans hca
              have cb := (hall.cell (p := ⟨bb, ob + v, none⟩) hbb).trans hcb
              have cu := (hall.cell (p := ⟨bb, ob + u, none⟩) hbb).trans hcu
              have hbv := HBT.out
              have hbu := bt_int hz0 hz64 (show u < 6 by omega)
              have HSU := Lib.hid (mixW_succ cs z v u)
              obtain ⟨M, hM⟩ : ∃ M, M = (mixV cs z v || mixW cs z v u) := ⟨_, rfl⟩
              have HM := Lib.hid hM
              rw [← hM]
              clear hy hM HW0 HV0
              cases h1 : Bt v z
              · have HE : Hid (M = (mixV cs z v || mixW cs z v (u + 1))) := Lib.hid (by rw [HSU.out, h1, HM.out]; simp)
                rw [h1] at hbv
                simp only [Bool.false_eq_true, if_false] at hbv
                clear h1 hbu
                go_wp2
                go_quiet (fail)
                go_wp2
                go_roundw
                case rel => exact ⟨u + 1, by omega, by go_num, by rw [HE.out], Lib.hid (below_drewN HU.out _)⟩
                case measure => simp [intOf]; omega
              · rw [h1] at hbv
                simp only [if_true] at hbv
                cases h2 : Bt u z
                · have HE : Hid (M = (mixV cs z v || mixW cs z v (u + 1))) := Lib.hid (by rw [HSU.out, h2, HM.out]; simp)
                  rw [h2] at hbu
                  simp only [Bool.false_eq_true, if_false] at hbu
                  clear h1 h2
                  go_wp2
                  go_quiet (fail)
                  go_wp2
                  go_roundw
                  case rel => exact ⟨u + 1, by omega, by go_num, by rw [HE.out], Lib.hid (below_drewN HU.out _)⟩
                  case measure => simp [intOf]; omega
                · rw [h2] at hbu
                  simp only [if_true] at hbu
                  by_cases hxy : x = y
                  · have HE : Hid (M = (mixV cs z v || mixW cs z v (u + 1))) := Lib.hid (by rw [HSU.out, ← HX.out, ← HY.out, hxy, HM.out]; simp)
                    subst hxy
                    clear h1 h2
                    go_wp2
                    go_quiet (fail)
                    go_wp2
                    go_roundw
                    case rel => exact ⟨u + 1, by omega, by go_num, by rw [HE.out], Lib.hid (below_drewN HU.out _)⟩
                    case measure => simp [intOf]; omega
                  · have HE : Hid (true = (mixV cs z v || mixW cs z v (u + 1))) := Lib.hid (by rw [HSU.out, h1, h2, ← HX.out, ← HY.out]; simp [hxy])
                    clear h1 h2
                    go_wp2
                    go_quiet (fail)
                    go_wp2
                    go_roundw
                    case rel => exact ⟨u + 1, by omega, by go_num, by rw [← HE.out], Lib.hid (below_drewN HU.out _)⟩
                    case measure => simp [intOf]; omega
            · obtain rfl : u = v := by omega
              have HE : Hid ((mixV cs z u || mixW cs z u u) = mixV cs z (u + 1)) := Lib.hid (mixV_succ cs z u).symm
              rw [HE.out]
              go_wp2
              go_roundw
              case rel => exact ⟨u + 1, by omega, by go_num, rfl, HU⟩
              case measure => simp [intOf]; omega
        · obtain rfl : v = n := by omega
          have HE : Hid (mixV cs z v = mixM cs z) := Lib.hid (by rw [← HCS.out]; rfl)
          have HBW : Hid (Below w.heap.size w wv) := Lib.hid (HS.out.2.trans (HV.out.mono HS.out.2.size))
          rw [HE.out]
          cases hm : mixM cs z
          · have HNO : Hid (zs.all (mixM cs) = false) := Lib.hid (allM_no (k := i) (by rw [← HN.out]; exact hlt) (by rw [← HZZ.out]; exact hm))
            clear hm
            go_wp2
            go_ret
            exact ⟨by rw [HNO.out]; rfl, HBW.out⟩
          · have HR : Hid ((∀ j, j < i + 1 → mixM cs (zs[j]?.getD 0) = true) ∧ Below w.heap.size w wv) := Lib.hid ⟨fun j hj => by
              rcases Nat.lt_succ_iff_lt_or_eq.1 hj with h | rfl
              · exact HS.out.1 j h
              · rw [← HZZ.out]; exact hm, HBW.out⟩
            clear hm
            go_wp2
            go_roundw
            case rel => exact ⟨i + 1, by omega, by go_num, HR⟩
            case measure => simp [intOf]; omega
    · obtain rfl : i = N := by omega
      have HR : Hid (zs.all (mixM cs) = true) := Lib.hid (allM_yes (by rw [← HN.out]; exact HS.out.1))
      go_wp2
      go_ret
      exact ⟨by rw [HR.out]; rfl, HS.out.2⟩

end Go.Proofs.YtacglafoahmcnaaDoor
