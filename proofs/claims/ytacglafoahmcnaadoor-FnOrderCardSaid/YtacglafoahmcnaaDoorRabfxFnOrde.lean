/- It is proved what EarOrder of the program returns; conditions: those of each statement. -/
import Derived.Maps.AppendAt
import Derived.OwnWalk
import Derived.RowKit
import Derived.Laws.CopyRow
import Derived.Lib.SlBuf
import Derived.Deep.QuietTactic
import Derived.RangeFuncNested
import Derived.RangeFuncBound
import Derived.RangeFuncCalls
import Derived.RangeFuncLeaves
import Derived.RangeFuncBox
import Derived.RangeFuncWrites
import Derived.StillTailTactics
import Derived.Maps.OwnIn
import Derived.Maps.Ext
import Derived.DeepKeys4
import Derived.MapKept
import Derived.Test.YtacglafoahmcnaaDoorRows
import Derived.WalkKit
import Derived.WalkSpells
import Derived.ProofKit
import Derived.OpenShut
import Derived.ShutString
import Derived.ChangeOld
import Derived.Below
import Derived.Deep.RegionHeld3
import Derived.BigQuiet
import Derived.Lib.Hide
import Derived.Lib.SmallJoins
import Derived.Outline
import Derived.Laws.MakeOwn
import Derived.Laws.OwnMore
import Derived.IntWalk
import Derived.Sort.MapsRangeIn
import Derived.Deep.RegionLaw
import Derived.Deep.AppendLies
import Derived.Lib.AppendZeros
import Derived.Lib.SlicesCompact
import Derived.Lib.OwnBridge
import Derived.OrdersIn
import Derived.TacticsIn
import Derived.Orders
import Derived.Tactics
import Derived.Shelf.Sort.Plain
import Derived.Shelf.Slices.In.SortNone
import Derived.Shelf.Slices.CompactI
import Derived.Ground.Names2Prog
import Derived.Lib.SliceRun
import Derived.Laws.BitsAllLaws
import Derived.Shelf.RegionOpen
import Derived.Shelf.Abstract
import Derived.OwnWalkIn
import Derived.TacticsInMore
import Derived.LoopNIn
import Derived.LoopIn
import Derived.StillTail
import Derived.StillTactics
import Derived.Shelf.Spec.TrailingZeros
import Derived.Deep.LoopGhost
import Derived.Test.YtacglafoahmcnaaDoorRaah
import Derived.Test.YtacglafoahmcnaaDoorRaal
import Derived.Test.YtacglafoahmcnaaDoorRaazxFnOrde
import Derived.Test.YtacglafoahmcnaaDoorRaaa
import Derived.Test.YtacglafoahmcnaaDoorRaac
import Derived.Test.YtacglafoahmcnaaDoorRaaw
import Derived.Test.YtacglafoahmcnaaDoorRaag
import Derived.Test.YtacglafoahmcnaaDoorRaad
import Derived.Test.YtacglafoahmcnaaDoorRabaxFnOrde
import Derived.Test.YtacglafoahmcnaaDoorRaam
import Derived.Test.YtacglafoahmcnaaDoorRaai
import Derived.Test.YtacglafoahmcnaaDoorRaab
import Derived.Test.YtacglafoahmcnaaDoorRaae
import Derived.Test.YtacglafoahmcnaaDoorYa
import Derived.Test.YtacglafoahmcnaaDoorRabbxFnOrde
import Derived.Test.YtacglafoahmcnaaDoorRabcxFnOrde
import Derived.Test.YtacglafoahmcnaaDoorRabdxFnOrde
import Derived.Test.YtacglafoahmcnaaDoorRabexFnOrde
import Derived.Test.YtacglafoahmcnaaDoorRaat
import Derived.Test.YtacglafoahmcnaaDoorRaax
import Derived.Deep.RegionWith
import Derived.Test.YtacglafoahmcnaaDoorTb
namespace Go.Proofs.YtacglafoahmcnaaDoor
open Go.RowKit Go.Shelf

theorem ints_grown {W W' : World} {B B' : Nat} {a : Option Addr} {zs : List Int} {row : Option Nat} (h : Ints W B a zs) (hB : B ≤ W.heap.size) (hg : W.grownBy W' row) (hne : zs ≠ [] → ∀ b o, a = some ⟨b, o, none⟩ → row ≠ some b) (hB' : B ≤ B') : Ints W' B' a zs := by
  by_cases h0 : zs = []
  · exact .inl h0
  · rcases h with h1 | ⟨b, off, rfl, hb, hc⟩
    · exact .inl h1
    · exact .inr ⟨b, off, rfl, by omega, fun j hj => (World.cell?_of_block (hg.block b (by omega) (fun e => hne h0 b off rfl e.symm))).trans (hc j hj)⟩

theorem ints_but1 {W W' : World} {B B' X : Nat} {a : Option Addr} {zs : List Int} (h : Ints W B a zs) (hB : B ≤ W.heap.size) (hg : But (fun k => k = X) W W') (hne : zs ≠ [] → ∀ b o, a = some ⟨b, o, none⟩ → b ≠ X) (hB' : B ≤ B') : Ints W' B' a zs := by
  by_cases h0 : zs = []
  · exact .inl h0
  · rcases h with h1 | ⟨b, off, rfl, hb, hc⟩
    · exact .inl h1
    · exact .inr ⟨b, off, rfl, by omega, fun j hj => (World.cell?_of_block (hg.same b (by omega) (hne h0 b off rfl))).trans (hc j hj)⟩

theorem own_at {W : World} {B : Nat} {a : Option Addr} {n c : Nat} {zs : List Int} (h : OwnI W B (.slice a n c) zs) : zs ≠ [] → ∀ b o, a = some ⟨b, o, none⟩ → B ≤ b := fun _ b o e => by
  subst e
  rcases h.2 with ⟨e, _⟩ | ⟨g, cap, cur, e, hb, _⟩
  · cases e
  · injection e with e1; injection e1 with e1; injection e1 with e1
    subst e1; exact hb

theorem mem_pos {t : Nat} (ht : t < 64) (h0 : t ≠ 0) : 1 ≤ (memK 6 t).length := by
  obtain ⟨i, hi⟩ := Nat.exists_testBit_of_ne_zero h0
  exact List.length_pos_of_mem (mem_six.2 ⟨bit_six ht hi, hi⟩)

def ordL (m : Int) (zs : List Int) : List Int := (ordR m zs).getD []
set_option maxRecDepth 100000 in
set_option maxHeartbeats 4000000 in
theorem implOrder_yes (k : Nat) (hk1 : 1 ≤ k) (hk6 : k ≤ 6) (a : Option Addr) (c : Nat) (zs : List Int) (w : World) (ha : Ints w w.heap.size a zs) (h8 : zs.length ≤ 8) (hS : Sets k zs) (hf : famIn (k : Int) zs = true) (hT : Tab w) :
    Calls Tryd.prog 21 #[.agg #[.int .i64 (k : Int), .slice a zs.length c]] w (RetSB w ((ordN 6 zs (2 ^ k - 1)).getD []) (ordN 6 zs (2 ^ k - 1)).isSome) := by
  obtain ⟨i0, hi0, hz0, hz1, hz2⟩ := info_parts Tryd.info3
  have hmx : Tryd.prog.follows .mixedOrders = true := by kernel_rfl
  have F1 := FB.start (m := (k : Int)) (c := c) ha
  have HB0 := Lib.hid (below1 w (.cells #[.int .i64 (k : Int), .slice a zs.length c] 25))
  have HF1 := Lib.hid F1
  have HFI := Lib.hid (implFamilyIn_any (k : Int) a c zs _ F1.ints (by omega))
  have HF := Lib.hid hf
  have HTB : Hid (∀ W, Below w.heap.size w W → Tab W) := Lib.hid fun W h => hT.below h hT.lt
  have HFL : Hid (∀ (a : Option Addr) (c : Nat) (zs : List Int) (t : Nat) (W : World), t < 64 → Ints W W.heap.size a zs → zs.length ≤ 8 → Sets k zs → Tab W → Calls Tryd.prog 58 #[.agg #[.int .i64 (k : Int), .slice a zs.length c], .int .i64 (t : Int)] W fun e w' => e = .returned (.tuple #[.int .i64 (((firstV zs t).getD 0 : Nat) : Int), .bool (firstV zs t).isSome]) ∧ Below W.heap.size W w') := Lib.hid fun a c zs t W ht hi h8 hz hT => firstLeaving_any k hk6 a c zs t ht W hi h8 hz hT
  have HTO : Hid (∀ (a : Option Addr) (c : Nat) (zs : List Int) (v : Nat) (W : World), v < 6 → Ints W W.heap.size a zs → zs.length ≤ 8 → Sets k zs → Calls Tryd.prog 60 #[.agg #[.int .i64 (k : Int), .slice a zs.length c], .int .i64 (v : Int)] W (RetFam W (k : Int) (zs.map (woZ v)))) := Lib.hid fun a c zs v W hv hi h8 hz => takenOut_any k hk1 hk6 a c zs v hv W hi (by omega) hz
  have HFU := Lib.hid (full_nat k)
  have f_0 := F1.x0
  have f_1 := F1.x1
  have HI0 := Lib.hid ha
  have HSET := Lib.hid hS
  clear F1 ha hf hT hS
  go_enter Tryd.func21, Tryd.ntmps21
  go_wp2_with fail
  refine HFI.out.mono ?_
  rintro e w2 ⟨rfl, hb2⟩
  rw [HF.out]
  have F2 := HF1.out.step hb2
  have HB2 := Lib.hid (HB0.out.trans (hb2.mono (by simp)))
  have HX2 : Hid (w.heap.size < w2.heap.size) := Lib.hid (lt_of_some F2.blk)
  clear hb2 f_0 f_1 HF1 HB0
  obtain ⟨w3, hrun, hown, hgrow⟩ := run_make_own (P := Tryd.prog) w2 w2.heap.size 23 3 i0 (.int .i64 0) 1 Tryd.underlying23 hi0 hz0 hz1 .i64 .i64 k (by rw [hz2]; omega) (by simp only [maxLen]; omega) (Nat.le_refl _)
  have hb3 : Below w2.heap.size w2 w3 := (Below.refl _ _).grown hgrow (Nat.le_refl _) (by simp)
  have F3 := F2.step hb3
  have g_0 := F2.x0
  have f_0 := F3.x0
  have f_1 := F3.x1
  have HF3 := Lib.hid F3
  have HB3 := Lib.hid (HB2.out.trans (hb3.mono HB2.out.size))
  have HO3 := Lib.hid hown
  have HS3 := Lib.hid hb3.size
  clear F2 F3 hown hgrow hb3
  go_wp2_with fail
  refine (full_any (k : Int) _ _ _ _ (by omega) (by omega)).mono ?_
  rintro e w4 ⟨rfl, rfl⟩
  rw [HFU.out]
  have HB4 : Hid (Below w.heap.size w (w3.alloc (.cells #[.int .i64 (k : Int), .slice a zs.length c] 25))) := Lib.hid (HB3.out.alloc HB3.out.size _)
  have HO4 : Hid ((w3.alloc (.cells #[.int .i64 (k : Int), .slice a zs.length c] 25)).ownsRow w2.heap.size 3 1 (.slice (some ⟨w2.heap.size, 0, none⟩) 0 k) 0 (([] : List Int).map (Value.int .i64))) := Lib.hid (HO3.out.alloc _)
  have HF4 := Lib.hid (HF3.out.step (below1 w3 (.cells #[.int .i64 (k : Int), .slice a zs.length c] 25)))
  have HW4 : Hid (w2.heap.size ≤ (w3.alloc (.cells #[.int .i64 (k : Int), .slice a zs.length c] 25)).heap.size) := Lib.hid (by have := HS3.out; simp; omega)
  obtain ⟨w4, hw4⟩ : ∃ w4, w4 = w3.alloc (.cells #[.int .i64 (k : Int), .slice a zs.length c] 25) := ⟨_, rfl⟩
  rw [← hw4] at HB4 HO4 HF4 HW4 ⊢
  clear f_0 f_1 g_0 hrun HF3 HB3 HO3 hw4
  go_wp2
  go_loopw [4, 5] (fun o t' wr => ∃ (f t : Nat) (acc zs2 : List Int) (ao : Option Addr) (co : Nat) (af : Option Addr) (cf : Nat),
      o = .slice ao acc.length co ∧ t' = .int .i64 (t : Int) ∧ t < 64 ∧ (memK 6 t).length ≤ f ∧ Hid (ordN 6 zs (2 ^ k - 1) = (ordN f zs2 t).map (acc ++ ·)) ∧ Hid (Sets k zs2) ∧ Hid (zs2.length = zs.length) ∧ acc.length + f ≤ 6 ∧
      wr.ownsRow w2.heap.size 3 1 (.slice ao acc.length co) acc.length (acc.map (Value.int .i64)) ∧ HasBlk wr w.heap.size #[.int .i64 (k : Int), .slice af zs2.length cf] 25 ∧ Ints wr wr.heap.size af zs2 ∧
      Hid (zs2 ≠ [] → ∀ b o, af = some ⟨b, o, none⟩ → (Value.slice ao acc.length co).ownBlock ≠ some b ∧ b ≠ w.heap.size) ∧ Hid (w2.heap.size ≤ wr.heap.size) ∧ Below w.heap.size w wr) (fun _ t' _ => (memK 6 (intOf t').toNat).length)
  case atStart =>
    refine ⟨6, 2 ^ k - 1, [], zs, some ⟨w2.heap.size, 0, none⟩, k, a, c, rfl, rfl, ?_, memK_len 6 _, Lib.hid (by simp), HSET, Lib.hid rfl, by simp, HO4.out, HF4.out.blk, HF4.out.ints, Lib.hid (fun h0 b o e => ?_), HW4, HB4.out⟩
    · have := Nat.pow_le_pow_right (n := 2) (by decide) hk6; omega
    · have hbw : b < w.heap.size := by
        rcases HI0.out with h1 | ⟨b', off, e', hb', _⟩
        · exact (h0 h1).elim
        · rw [e] at e'; injection e' with e'; injection e' with e1; omega
      have := HX2.out
      exact ⟨by simp [Value.ownBlock]; omega, by omega⟩
  case round =>
    obtain ⟨f, t, acc, zs2, ao, co, af, cf, rfl, rfl, ht, hfu, HR, HZ2, HL2, hacc, ho, hbx, hin, HSEP, HW2, hb⟩ := hrel
    have HO := Lib.hid ho
    have HBX := Lib.hid hbx
    have HIN := Lib.hid hin
    have HB := Lib.hid hb
    have y0 := (blk_cell hbx 0).trans (cell2_0 _ _)
    have y1 := (blk_cell hbx 1).trans (cell2_1 _ _)
    clear ho hbx hin hb
    by_cases h0 : t = 0
    · subst h0
      have HRR : Hid (ordN 6 zs (2 ^ k - 1) = some acc) := Lib.hid (by rw [HR.out, ord_zero]; simp)
      have HD : Hid (RetSB w ((ordN 6 zs (2 ^ k - 1)).getD []) (ordN 6 zs (2 ^ k - 1)).isSome (.returned (.tuple #[.slice ao acc.length co, .bool true])) wr) := Lib.hid (by
        rw [HRR.out]
        refine ⟨ao, co, rfl, ?_, HB.out⟩
        exact ownsRow_base HO.out (by have := HX2.out; omega))
      go_wp2
      go_ret2
      exact HD.out
    · have htb : ((t : Int) == 0) = false := by rw [beq_eq_false_iff_ne]; omega
      have htn : ((t : Int) != 0) = true := by rw [bne_iff_ne]; omega
      have HC := Lib.hid (HFL.out af cf zs2 t wr ht HIN.out (by rw [HL2.out]; exact h8) HZ2.out (HTB.out _ HB.out))
      cases hv : firstV zs2 t with
      | none =>
        have HRR : Hid (ordN 6 zs (2 ^ k - 1) = none) := Lib.hid (by
          have h6 : memK 8 t = memK 6 t := memW_is (k := 6) (by omega) ht
          unfold firstV at hv
          rw [h6] at hv
          obtain ⟨f', rfl⟩ : ∃ f', f = f' + 1 := ⟨f - 1, by have := mem_pos ht h0; omega⟩
          rw [HR.out, ord_step, if_neg h0, hv]
          rfl)
        rw [hv] at HC
        simp only [Option.getD_none, Option.isSome_none] at HC
        clear hv
        go_wp2_with fail
        refine HC.out.mono ?_
        rintro e w5 ⟨rfl, hb5⟩
        have HB5 := Lib.hid (HB.out.trans (hb5.mono HB.out.size))
        clear hb5 y0 y1
        go_wp2
        go_ret2
        exact ⟨none, 0, by rw [HRR.out]; rfl, by rw [HRR.out]; exact own_nil _ _, HB5.out⟩
      | some v =>
        rw [hv] at HC
        simp only [Option.getD_some, Option.isSome_some] at HC
        have hvt : v < 6 ∧ t.testBit v = true := by
          have := List.mem_of_find?_eq_some hv
          have h2 := (mem8_iff (by omega)).1 this
          exact ⟨bit_six ht h2, h2⟩
        have HV := Lib.hid hv
        clear hv
        go_wp2_with fail
        refine HC.out.mono ?_
        rintro e w5 ⟨rfl, hb5⟩
        have HB5 := Lib.hid (HB.out.trans (hb5.mono HB.out.size))
        have HO5 := Lib.hid (ownsRow_below HO.out hb5)
        have HBX5 : Hid (HasBlk w5 w.heap.size #[.int .i64 (k : Int), .slice af zs2.length cf] 25) := Lib.hid ((hb5.block _ (lt_of_some HBX.out)).trans HBX.out)
        have HIN5 := Lib.hid (HIN.out.step hb5)
        have HX5 : Hid (w2.heap.size ≤ w5.heap.size) := Lib.hid (by have h1 := HW2.out; have h2 := hb5.size; omega)
        have hz5 := HX5.out
        clear hb5 y0 y1
        go_wp2_with (at_builtin; refine wpList_append_own_at _ rfl _ _ 23 rfl w2.heap.size 3 i0 (.int .i64 0) 1 8 Tryd.underlying23 hi0 hz0 hz1 hz2 rfl (by decide) _ _ _ rfl (HO5.out.alloc _) ⟨w5.heap.size, 0, none⟩ 1 1 [.int .i64 (v : Int)] rfl rfl (cell_one_new _ _ _) (by simp [Value.oneCell']) (by simp only [maxLen]; omega) (by omega) (by simp; omega) ?_; intro v' w9 hown hgrow _ hat; obtain ⟨g', cap', rfl, _, _⟩ := World.ownsRow.form hown (by omega))
        have HG9 : Hid (g' < w9.heap.size) := Lib.hid ((World.ownsRow.lt hown _ rfl).2)
        have hszA : (w5.alloc (.cells #[.int .i64 (v : Int)] 3)).heap.size = w5.heap.size + 1 := by simp
        have HSZ9 : Hid (w5.heap.size + 1 ≤ w9.heap.size) := Lib.hid (by have := hgrow.size; omega)
        have HBX9 : Hid (HasBlk w9 w.heap.size #[.int .i64 (k : Int), .slice af zs2.length cf] 25) := Lib.hid ((HBX5.out.alloc _).kept hgrow (fun e => by have := (World.ownsRow.lt HO5.out _ e).1; have := HX2.out; omega))
        have HIN9 : Hid (Ints w9 w9.heap.size af zs2) := Lib.hid (ints_grown (HIN5.out.step (below1 w5 (.cells #[.int .i64 (v : Int)] 3))) (Nat.le_refl _) hgrow (fun h0 b o e => (HSEP.out h0 b o e).1) hgrow.size)
        have HB9 : Hid (Below w.heap.size w w9) := Lib.hid ((HB5.out.alloc HB5.out.size _).grown hgrow (by rw [hszA]; have := HB5.out.size; omega) (fun g e => by have := (World.ownsRow.lt HO5.out g e).1; have := HX2.out; omega))
        have HO9 := Lib.hid hown
        have HTA := Lib.hid (HTO.out af cf zs2 v w9.drew hvt.1 (show Ints w9.drew w9.drew.heap.size af zs2 from HIN9.out) (by rw [HL2.out]; exact h8) HZ2.out)
        have HWO := Lib.hid (fun W => without_any t v ht hvt.1 W)
        have HLM : Hid ((zs2.map (woZ v)).length = zs2.length) := Lib.hid (by simp)
        have d0 : w9.drew.cell? ⟨w.heap.size, 0, none⟩ = some (.int .i64 (k : Int)) := (blk_cell HBX9.out 0).trans (cell2_0 _ _)
        have d1 : w9.drew.cell? ⟨w.heap.size, 1, none⟩ = some (.slice af zs2.length cf) := (blk_cell HBX9.out 1).trans (cell2_1 _ _)
        have HLV : Hid (∃ f', f = f' + 1) := Lib.hid ⟨f - 1, by have := mem_pos ht h0; omega⟩
        obtain ⟨T, hTT⟩ : ∃ T, T = woP t v := ⟨_, rfl⟩
        have HTT := Lib.hid hTT
        rw [← hTT] at HWO
        clear hown hgrow hat hszA hTT
        go_wp2
        go_region_with (first
          | (go_at_call 59; refine (HWO.out _).mono ?_; rintro e w' ⟨rfl, rfl⟩)
          | (go_at_call 60; refine HTA.out.mono ?_; rintro e w10 ⟨a10, c10, rfl, ho10, hb10⟩; have HBX10 : HasBlk w10 w.heap.size #[.int .i64 (k : Int), .slice af zs2.length cf] 25 := (hb10.block _ (lt_of_some HBX9.out)).trans HBX9.out; have z0 := (blk_cell HBX10 0).trans (cell2_0 _ _); have z1 := (blk_cell HBX10 1).trans (cell2_1 _ _); have y0 := blk_frozen HBX10 0; have y1 := blk_frozen HBX10 1))
        all_goals
          have hz9 : w9.drew.heap.size = w9.heap.size := rfl
          have hs10 := hb10.size
          have hx2 := HX2.out
          have hw5 := HX5.out
          have hs9 := HSZ9.out
          have b1 : But (fun b => b = w.heap.size) w10 ((w10.setCell ⟨w.heap.size, 0, none⟩ (.int .i64 (k : Int))).setCell ⟨w.heap.size, 1, none⟩ (.slice a10 (zs2.map (woZ v)).length c10)) := (But.setCell (X := fun b => b = w.heap.size) _ _ _ _ (fun _ => rfl)).trans (But.setCell (X := fun b => b = w.heap.size) _ _ _ _ (fun _ => rfl))
          have hin' := ints_but1 (own_ints ho10) (Nat.le_refl _) b1 (fun h0 b o e => by have := own_at ho10 h0 b o e; omega) b1.size
          have q1 := heap_setCell_same w10 w.heap.size 0 #[.int .i64 (k : Int), .slice af zs2.length cf] 25 (.int .i64 (k : Int)) HBX10
          have q2 := heap_setCell_same _ w.heap.size 1 _ 25 (.slice a10 (zs2.map (woZ v)).length c10) q1
          have hbx' : HasBlk ((w10.setCell ⟨w.heap.size, 0, none⟩ (.int .i64 (k : Int))).setCell ⟨w.heap.size, 1, none⟩ (.slice a10 (zs2.map (woZ v)).length c10)) w.heap.size #[.int .i64 (k : Int), .slice a10 (zs2.map (woZ v)).length c10] 25 := q2
          have hg9 := HG9.out
          have hgX : (Value.slice (some ⟨g', 0, none⟩) (acc.length + 1) cap').ownBlock ≠ some w.heap.size := fun e => by have := (World.ownsRow.lt HO9.out _ e).1; omega
          have ho' := ownsRow_setCell_ne (ownsRow_setCell_ne (ownsRow_below (show w9.drew.ownsRow _ _ _ _ _ _ from HO9.out) hb10) (p := ⟨w.heap.size, 0, none⟩) hgX (.int .i64 (k : Int))) (p := ⟨w.heap.size, 1, none⟩) hgX (.slice a10 (zs2.map (woZ v)).length c10)
          have hsep' : zs2.map (woZ v) ≠ [] → ∀ b o, a10 = some ⟨b, o, none⟩ → (Value.slice (some ⟨g', 0, none⟩) (acc ++ [(v : Int)]).length cap').ownBlock ≠ some b ∧ b ≠ w.heap.size := fun h0 b o e => by
            have := own_at ho10 h0 b o e
            refine ⟨?_, by omega⟩
            simp [Value.ownBlock]
            omega
          have hb' := ((HB9.out.drew.trans (hb10.mono (show w.heap.size ≤ w9.drew.heap.size by omega))).setCell (p := ⟨w.heap.size, 0, none⟩) (Nat.le_refl _) (.int .i64 (k : Int))).setCell (p := ⟨w.heap.size, 1, none⟩) (Nat.le_refl _) (.slice a10 (zs2.map (woZ v)).length c10)
          have hn1 : (acc ++ [(v : Int)]).length = acc.length + 1 := by simp
          obtain ⟨f', hf'⟩ := HLV.out
          have hcn := less_cnt ht hvt.1 hvt.2
          have hR' : ordN 6 zs (2 ^ k - 1) = (ordN f' (zs2.map (woZ v)) (lessP t v)).map ((acc ++ [(v : Int)]) ++ ·) := by
            have h6 : memK 8 t = memK 6 t := memW_is (k := 6) (by omega) ht
            have hfv := HV.out
            unfold firstV at hfv
            rw [h6] at hfv
            rw [HR.out, hf', ord_step, if_neg h0, hfv]
            simp [Option.map_map, Function.comp_def]
          have hlt := less_lt ht hvt.1
          have hTT := HTT.out
          have HIN' := Lib.hid hin'
          have HBX' := Lib.hid hbx'
          have HO' := Lib.hid ho'
          have HS' := Lib.hid hsep'
          have HB' := Lib.hid hb'
          have HR' := Lib.hid hR'
          have HWW : Hid (w2.heap.size ≤ ((w10.setCell ⟨w.heap.size, 0, none⟩ (.int .i64 (k : Int))).setCell ⟨w.heap.size, 1, none⟩ (.slice a10 (zs2.map (woZ v)).length c10)).heap.size) := Lib.hid (by simp only [World.size_setCell]; omega)
          clear hin' hbx' ho' hsep' hb' hR' q1 q2 b1 ho10 hb10 HBX10
          go_wp2
          go_roundw
          case rel =>
            refine ⟨f', lessP t v, acc ++ [(v : Int)], zs2.map (woZ v), some ⟨g', 0, none⟩, cap', a10, c10, by rw [hn1], by rw [hTT]; rfl, hlt, by omega, HR', Lib.hid (woZ_sets HZ2.out), Lib.hid (by rw [List.length_map]; exact HL2.out), by omega, ?_, ?_, ?_, HS', ?_, ?_⟩
            · rw [hn1, List.map_append]; simpa using HO'.out
            · simpa using HBX'.out
            · simpa using HIN'.out
            · simpa using HWW
            · simpa using HB'.out
          case measure => simp [intOf, hTT]; show (memK 6 (lessP t v)).length < _; omega

theorem ordL_len (m : Int) (zs : List Int) : (ordL m zs).length ≤ 1048576 := by
  unfold ordL ordR
  cases hf : famIn m zs
  · simp
  · obtain ⟨k, rfl, hk1, hk6, hS, -⟩ := fam_nat2 hf
    simp only [if_true, Int.toNat_natCast]
    cases h : ordN 6 zs (2 ^ k - 1) with
    | none => simp
    | some l =>
      have := ord_len hk6 6 zs (2 ^ k - 1) l hS (by have := Nat.pow_le_pow_right (n := 2) (by decide) hk6; omega) (memK_len 6 _) h
      have h2 := memK_len 6 (2 ^ k - 1)
      simp only [Option.getD_some]
      omega

set_option maxRecDepth 100000 in
set_option maxHeartbeats 1000000 in
theorem implOrder_any (m : Int) (a : Option Addr) (c : Nat) (zs : List Int) (w : World) (ha : Ints w w.heap.size a zs) (hT : Tab w) (hx : zs.length ≤ 1048576) :
    Calls Tryd.prog 21 #[.agg #[.int .i64 m, .slice a zs.length c]] w (RetSB w (ordL m zs) (ordR m zs).isSome) := by
  cases hf : famIn m zs
  · have F1 := FB.start (m := m) (c := c) ha
    have HB0 := Lib.hid (below1 w (.cells #[.int .i64 m, .slice a zs.length c] 25))
    have HFI := Lib.hid (implFamilyIn_any m a c zs _ F1.ints hx)
    have HF := Lib.hid hf
    have HR : Hid (ordR m zs = none) := Lib.hid (by unfold ordR; rw [hf]; rfl)
    have HL : Hid (ordL m zs = []) := Lib.hid (by unfold ordL; rw [HR.out]; rfl)
    have f_0 := F1.x0
    have f_1 := F1.x1
    clear F1 ha hf
    go_enter Tryd.func21, Tryd.ntmps21
    go_wp2_with fail
    refine HFI.out.mono ?_
    rintro e w2 ⟨rfl, hb2⟩
    rw [HF.out]
    have HB2 := Lib.hid (HB0.out.trans (hb2.mono (by simp)))
    clear hb2 f_0 f_1
    go_wp2
    go_ret2
    exact ⟨none, 0, by rw [HL.out, HR.out]; rfl, by rw [HL.out]; exact own_nil _ _, HB2.out⟩
  · obtain ⟨k, rfl, hk1, hk6, hS, h8⟩ := fam_nat2 hf
    have e : ordR (k : Int) zs = ordN 6 zs (2 ^ k - 1) := by unfold ordR; rw [hf, if_pos rfl, Int.toNat_natCast]
    unfold ordL
    rw [e]
    exact implOrder_yes k hk1 hk6 a c zs w ha h8 hS hf hT

end Go.Proofs.YtacglafoahmcnaaDoor

/- It is proved that the sizes of a set and of its others are all members; conditions: those of each statement. -/
namespace Go.Proofs.YtacglafoahmcnaaDoor
open Go.RowKit

set_option maxRecDepth 100000 in
theorem other_in_fin : ∀ k : Fin 6, ∀ z : Fin 64, (z.val : Int) ≤ fullI ((k.val : Int) + 1) → 0 ≤ bits .andNot .i64 (fullI ((k.val : Int) + 1)) (z.val : Int) ∧ bits .andNot .i64 (fullI ((k.val : Int) + 1)) (z.val : Int) ≤ fullI ((k.val : Int) + 1) := by decide +kernel

theorem other_in {m z : Int} (h1 : 1 ≤ m) (h2 : m ≤ 6) (h3 : 0 ≤ z) (h4 : z ≤ fullI m) : 0 ≤ bits .andNot .i64 (fullI m) z ∧ bits .andNot .i64 (fullI m) z ≤ fullI m := by
  have h5 := fullI_63 h1 h2
  have := other_in_fin ⟨(m - 1).toNat, by omega⟩ ⟨z.toNat, by omega⟩
  simp only [Int.toNat_of_nonneg (show 0 ≤ m - 1 by omega), Int.toNat_of_nonneg h3, show m - 1 + 1 = m by omega] at this
  exact this h4

theorem other_fam {m : Int} {zs : List Int} (h : famIn m zs = true) : famIn m (zs.map fun z => bits .andNot .i64 (fullI m) z) = true := by
  obtain ⟨h1, h2, h3, h4⟩ := famIn_out h
  simp only [famIn, Bool.and_eq_true, decide_eq_true_eq, List.all_eq_true, List.mem_map, List.length_map]
  refine ⟨inB_true h1 h2, h3, ?_⟩
  rintro _ ⟨z, hz, rfl⟩
  obtain ⟨h5, h6⟩ := other_in h1 h2 (h4 z hz).1 (h4 z hz).2
  exact inB_true h5 h6

end Go.Proofs.YtacglafoahmcnaaDoor

/- It is proved what FamilyAll of the program and of the model return; conditions: those of each statement. -/
namespace Go.Proofs.YtacglafoahmcnaaDoor
open Go.RowKit Go.Shelf

attribute [local go_sem] Oper.semAt_some

def orAll (zs : List Int) : Int := zs.foldl (fun s z => bits .or .i64 s z) 0
def famAll (m : Int) (zs : List Int) : Int := if famIn m zs then orAll zs else 0
end Go.Proofs.YtacglafoahmcnaaDoor

/- It is proved that the call of the law FnOther returns true; conditions: those of each statement. -/
namespace Go.Proofs.YtacglafoahmcnaaDoor
open Go.RowKit

theorem whole_any (m : Int) (a : Option Addr) (n cap : Nat) (w : World) (h1 : 1 ≤ m) (h2 : m ≤ 6) :
    Calls Tryd.prog 24 #[.agg #[.int .i64 m, .slice a n cap]] w fun e w' => e = .returned (.int .i64 (fullI m)) ∧ Below w.heap.size w w' := by
  rcases m16 h1 h2 with rfl | rfl | rfl | rfl | rfl | rfl
  all_goals
    go_enter Tryd.func24, Tryd.ntmps24
    go_wp2
    go_ret
    exact ⟨rfl, below1 _ _⟩

set_option maxRecDepth 100000 in
theorem other_other_fin : ∀ k : Fin 6, ∀ z : Fin 64, (z.val : Int) ≤ fullI ((k.val : Int) + 1) → bits .andNot .i64 (fullI ((k.val : Int) + 1)) (bits .andNot .i64 (fullI ((k.val : Int) + 1)) (z.val : Int)) = (z.val : Int) := by decide +kernel

theorem other_other {m z : Int} (h1 : 1 ≤ m) (h2 : m ≤ 6) (h3 : 0 ≤ z) (h4 : z ≤ fullI m) : bits .andNot .i64 (fullI m) (bits .andNot .i64 (fullI m) z) = z := by
  have h5 := fullI_63 h1 h2
  have := other_other_fin ⟨(m - 1).toNat, by omega⟩ ⟨z.toNat, by omega⟩
  simp only [Int.toNat_of_nonneg (show 0 ≤ m - 1 by omega), Int.toNat_of_nonneg h3, show m - 1 + 1 = m by omega] at this
  exact this h4

set_option maxRecDepth 100000 in
theorem orF_fin : ∀ a b : Fin 64, bits .or .i64 (a.val : Int) (b.val : Int) = ((a.val ||| b.val : Nat) : Int) := by decide +kernel

set_option maxRecDepth 100000 in
theorem andF_fin : ∀ a b : Fin 64, bits .and .i64 (a.val : Int) (b.val : Int) = ((a.val &&& b.val : Nat) : Int) := by decide +kernel

set_option maxRecDepth 100000 in
theorem notF_fin : ∀ k : Fin 6, ∀ b : Fin 64, bits .andNot .i64 (fullI ((k.val : Int) + 1)) (b.val : Int) = (((2 ^ (k.val + 1) - 1) ^^^ ((2 ^ (k.val + 1) - 1) &&& b.val) : Nat) : Int) := by decide +kernel

theorem bits_or_nat (a b : Nat) (ha : a < 64) (hb : b < 64) : bits .or .i64 (a : Int) (b : Int) = ((a ||| b : Nat) : Int) := by
  have := orF_fin ⟨a, ha⟩ ⟨b, hb⟩
  simpa using this

theorem bits_and_nat (a b : Nat) (ha : a < 64) (hb : b < 64) : bits .and .i64 (a : Int) (b : Int) = ((a &&& b : Nat) : Int) := by
  have := andF_fin ⟨a, ha⟩ ⟨b, hb⟩
  simpa using this

theorem bits_not_nat (k b : Nat) (hk1 : 1 ≤ k) (hk : k ≤ 6) (hb : b < 64) : bits .andNot .i64 (fullI (k : Int)) (b : Int) = (((2 ^ k - 1) ^^^ ((2 ^ k - 1) &&& b) : Nat) : Int) := by
  have := notF_fin ⟨k - 1, by omega⟩ ⟨b, hb⟩
  simp only [show ((k - 1 : Nat) : Int) + 1 = (k : Int) by omega, show k - 1 + 1 = k by omega] at this
  exact this

theorem pow64 (k : Nat) (hk : k ≤ 6) : 2 ^ k ≤ 64 := Nat.pow_le_pow_right (by decide) hk
theorem demorgan (F s z : Nat) : (F ^^^ (F &&& s)) ||| (F ^^^ (F &&& z)) = F ^^^ (F &&& (s &&& z)) := by
  apply Nat.eq_of_testBit_eq
  intro i
  simp only [Nat.testBit_or, Nat.testBit_xor, Nat.testBit_and]
  cases F.testBit i <;> cases s.testBit i <;> cases z.testBit i <;> rfl

theorem or_other (k : Nat) (hk1 : 1 ≤ k) (hk : k ≤ 6) : ∀ (zs : List Int) (s : Nat), s < 64 → (∀ z ∈ zs, 0 ≤ z ∧ z ≤ fullI (k : Int)) →
    (zs.map fun z => bits .andNot .i64 (fullI (k : Int)) z).foldl (fun s z => bits .or .i64 s z) (bits .andNot .i64 (fullI (k : Int)) (s : Int)) = bits .andNot .i64 (fullI (k : Int)) (zs.foldl (fun s z => bits .and .i64 s z) (s : Int)) := by
  intro zs
  induction zs with
  | nil => intro s _ _; rfl
  | cons z zs ih =>
    intro s hs hz
    have h1 := hz z (by simp)
    have h5 := fullI_63 (m := (k : Int)) (by omega) (by omega)
    obtain ⟨t, rfl⟩ : ∃ t : Nat, z = (t : Int) := ⟨z.toNat, by omega⟩
    have h64 : 2 ^ k ≤ 64 := pow64 k hk
    have hx : ∀ b, (2 ^ k - 1) ^^^ ((2 ^ k - 1) &&& b) < 64 := fun b => Nat.lt_of_lt_of_le (Nat.xor_lt_two_pow (n := k) (by have := Nat.one_le_two_pow (n := k); omega) (Nat.lt_of_le_of_lt Nat.and_le_left (by have := Nat.one_le_two_pow (n := k); omega))) h64
    rw [List.map_cons, List.foldl_cons, List.foldl_cons, bits_not_nat k s hk1 hk hs, bits_not_nat k t hk1 hk (by omega), bits_or_nat _ _ (hx _) (hx _), demorgan, bits_and_nat s t hs (by omega)]
    have hst : s &&& t < 64 := Nat.lt_of_le_of_lt Nat.and_le_left hs
    rw [← bits_not_nat k _ hk1 hk hst]
    exact ih _ hst (fun y hy => hz y (by simp [hy]))

theorem other_facts {m : Int} {zs : List Int} (h : famIn m zs = true) : famIn (otherM m zs) (otherZ m zs) = true ∧ otherM (otherM m zs) (otherZ m zs) = m ∧ otherZ (otherM m zs) (otherZ m zs) = zs ∧ (famAll (otherM m zs) (otherZ m zs) == bits .andNot .i64 (fullI m) (famCommon m zs)) = true := by
  have e1 : otherM m zs = m := by simp [otherM, h]
  have e2 : otherZ m zs = zs.map fun z => bits .andNot .i64 (fullI m) z := by simp [otherZ, h]
  have hf := other_fam h
  obtain ⟨h1, h2, h3, h4⟩ := famIn_out h
  rw [e1, e2]
  refine ⟨hf, by simp [otherM, hf], ?_, ?_⟩
  · rw [otherZ, if_pos hf, List.map_map]
    conv => rhs; rw [← List.map_id zs]
    apply List.map_congr_left
    intro z hz
    exact other_other h1 h2 (h4 z hz).1 (h4 z hz).2
  · rw [famAll, if_pos hf, famCommon, if_pos h, beq_iff_eq]
    obtain ⟨k, rfl⟩ : ∃ k : Nat, m = (k : Int) := ⟨m.toNat, by omega⟩
    have h5 := fullI_63 h1 h2
    have h6 : 0 ≤ fullI (k : Int) := by
      rcases m16 h1 h2 with h | h | h | h | h | h <;> rw [h] <;> decide
    obtain ⟨s, hs⟩ : ∃ s : Nat, fullI (k : Int) = (s : Int) := ⟨(fullI (k : Int)).toNat, by omega⟩
    have := or_other k (by omega) (by omega) zs s (by omega) h4
    have e0 : bits .andNot .i64 (fullI (k : Int)) (s : Int) = 0 := by
      rw [← hs]
      rcases m16 h1 h2 with h | h | h | h | h | h <;> rw [h] <;> decide
    rw [e0, ← hs] at this
    exact this

end Go.Proofs.YtacglafoahmcnaaDoor

/- It is proved what l1None, l1With and the model's FamilyMeet return; conditions: those of each statement. -/
namespace Go.Proofs.YtacglafoahmcnaaDoor
open Go.RowKit

/-- The condition of FamilyMeet. -/
def meetIn (m : Int) (zs : List Int) (x : Int) : Bool := famIn m zs && inB x 0 (fullI m)

def meetZ (m : Int) (zs : List Int) (x : Int) : List Int := if meetIn m zs x then zs.map fun z => bits .and .i64 z x else []
def meetM (m : Int) (zs : List Int) (x : Int) : Int := if meetIn m zs x then m else 0
end Go.Proofs.YtacglafoahmcnaaDoor

/- It is proved how the greatest set of clubs that meet, stars and packs compare, and what the dual of a family with one for all is; conditions: those of each statement. -/
namespace Go.Proofs.YtacglafoahmcnaaDoor
open Go.RowKit Go.Shelf

theorem count_bit_fin : ∀ s : Fin 64, ∀ v : Fin 6, (mem s.val).count v.val = if s.val.testBit v.val then 1 else 0 := by decide +kernel
end Go.Proofs.YtacglafoahmcnaaDoor

/- It is proved that the orbits of a family's own names divide its members, have members of one degree, and sizes that divide the number of own names; conditions: those of each statement. -/
namespace Go.Proofs.YtacglafoahmcnaaDoor
open Go.RowKit

/-! ### orbits as sets -/
/-! ### sizes -/
/-! ### degrees -/
theorem count_bit {s v : Nat} (hs : s < 64) (hv : v < 6) : (mem s).count v = if s.testBit v then 1 else 0 := count_bit_fin ⟨s, hs⟩ ⟨v, hv⟩
theorem deg_countP {v : Nat} (hv : v < 6) : ∀ (zs : List Int), (∀ z ∈ zs, z.toNat < 64) → (allMem zs).count v = zs.countP fun z => z.toNat.testBit v
  | [], _ => by simp [allMem]
  | z :: zs, h => by
    rw [allMem_cons, List.count_append, deg_countP hv zs (fun x hx => h x (by simp [hx])), count_bit (h z (by simp)) hv, List.countP_cons, Nat.add_comm]

/-! ### all at once -/
end Go.Proofs.YtacglafoahmcnaaDoor
