/- It is proved what the reference model's l7Many, ColourMany and ColourFirst return; conditions: those of each statement. -/
import Derived.RowKit
import Derived.Laws.CopyRow
import Derived.Lib.SlBuf
import Derived.Deep.QuietTactic
import Derived.RangeFuncNested
import Derived.RangeFuncBound
import Derived.RangeFuncCalls
import Derived.RangeFuncLeaves
import Derived.RangeFuncBox
import Derived.RangeFuncWrites
import Derived.StillTailTactics
import Derived.Maps.OwnIn
import Derived.Maps.Ext
import Derived.DeepKeys4
import Derived.MapKept
import Derived.Test.YtacglafoahmcnaaDoorRows
import Derived.WalkKit
import Derived.WalkSpells
import Derived.ProofKit
import Derived.OpenShut
import Derived.ShutString
import Derived.ChangeOld
import Derived.Below
import Derived.Deep.RegionHeld3
import Derived.BigQuiet
import Derived.Lib.Hide
import Derived.Lib.SmallJoins
import Derived.Outline
import Derived.Laws.MakeOwn
import Derived.Laws.OwnMore
import Derived.IntWalk
import Derived.Maps.AppendAt
import Derived.Sort.MapsRangeIn
import Derived.Deep.RegionLaw
import Derived.Deep.AppendLies
import Derived.Lib.AppendZeros
import Derived.OwnWalk
import Derived.Lib.SlicesCompact
import Derived.Lib.OwnBridge
import Derived.OrdersIn
import Derived.TacticsIn
import Derived.Shelf.Sort.Plain
import Derived.Shelf.Slices.In.SortNone
import Derived.Shelf.Slices.CompactI
import Derived.Ground.Names2Prog
import Derived.Lib.SliceRun
import Derived.Shelf.RegionOpen
import Derived.Shelf.Abstract
import Derived.OwnWalkIn
import Derived.TacticsInMore
import Derived.LoopNIn
import Derived.LoopIn
import Derived.StillTail
import Derived.StillTactics
import Derived.Shelf.Spec.TrailingZeros
import Derived.Deep.LoopGhost
import Derived.Test.YtacglafoahmcnaaDoorRabgxFnColo
import Derived.Test.YtacglafoahmcnaaDoorRaaa
import Derived.Test.YtacglafoahmcnaaDoorRabmxFnColo
import Derived.Test.YtacglafoahmcnaaDoorRaac
import Derived.Test.YtacglafoahmcnaaDoorRaaw
import Derived.Test.YtacglafoahmcnaaDoorRaag
import Derived.Test.YtacglafoahmcnaaDoorRaazxFnColo
import Derived.Test.YtacglafoahmcnaaDoorRaal
import Derived.Test.YtacglafoahmcnaaDoorRaam
import Derived.Test.YtacglafoahmcnaaDoorRabjxFnColo
import Derived.Test.YtacglafoahmcnaaDoorRaab
import Derived.Test.YtacglafoahmcnaaDoorRabhxFnColo
import Derived.Test.YtacglafoahmcnaaDoorRabixFnColo
import Derived.Test.YtacglafoahmcnaaDoorRablxFnColo
import Derived.Test.YtacglafoahmcnaaDoorRaai
import Derived.Test.YtacglafoahmcnaaDoorRaad
import Derived.Test.YtacglafoahmcnaaDoorRaae
import Derived.Test.YtacglafoahmcnaaDoorRaat
import Derived.Test.YtacglafoahmcnaaDoorRabaxFnColo
import Derived.Test.YtacglafoahmcnaaDoorRabbxFnColo
namespace Go.Proofs.YtacglafoahmcnaaDoor
open Go.RowKit

theorem allM_mix {m : Nat} (hm : m ≤ 6) {zs : List Int} (hz : Sets m zs) {cs : List Int} (hc : cs.length = m) : zs.all (mixM cs) = mixB zs cs := by
  unfold mixB
  rw [Bool.eq_iff_iff, List.all_eq_true, List.all_eq_true]
  refine forall_congr' fun z => forall_congr' fun h => ?_
  rw [mixM_is (by omega) (by rw [hc]; exact (hz z h).2)]

/-- How many of the first lists are mixed. -/
def manyTo (m : Nat) (zs : List Int) (k j : Nat) : Nat := (List.range j).countP fun c => mixB zs (digs k m c)

theorem manyTo_succ (m : Nat) (zs : List Int) (k j : Nat) : manyTo m zs k (j + 1) = manyTo m zs k j + if mixB zs (digs k m j) then 1 else 0 := by
  unfold manyTo
  rw [List.range_succ, List.countP_append]
  cases h : mixB zs (digs k m j) <;> simp [h]

theorem manyTo_all (m : Nat) (zs : List Int) (k : Nat) : manyTo m zs k (k ^ m) = cntCM m zs k := by
  unfold manyTo cntCM
  rw [← digs_words, List.countP_map]
  rfl

theorem manyTo_le (m : Nat) (zs : List Int) (k j : Nat) : manyTo m zs k j ≤ j := by
  unfold manyTo
  exact Nat.le_trans List.countP_le_length (by simp)

theorem pow_le6 {k m : Nat} (hk : k ≤ 6) (hm : m ≤ 6) : k ^ m ≤ 46656 := Nat.le_trans (Nat.pow_le_pow_left hk m) (Nat.le_trans (Nat.pow_le_pow_right (n := 6) (by decide) hm) (by decide))
theorem kpos {k m j : Nat} (hm : 1 ≤ m) (h : j < k ^ m) : 1 ≤ k := by
  cases k with
  | zero => rw [Nat.zero_pow (by omega)] at h; omega
  | succ k => omega

set_option maxRecDepth 100000 in
set_option maxHeartbeats 4000000 in
theorem l7Many_any (m k : Nat) (hm1 : 1 ≤ m) (hm : m ≤ 6) (hk : k ≤ 6) (a : Option Addr) (c : Nat) (zs : List Int) (w : World) (ha : Ints w w.heap.size a zs) (hx : zs.length ≤ 1048576) (hz : Sets m zs) :
    Calls Tryd.prog 72 #[.agg #[.int .i64 (m : Int), .slice a zs.length c], .int .i64 (k : Int)] w fun e w' => e = .returned (.int .i64 ((cntCM m zs k : Nat) : Int)) ∧ Below w.heap.size w w' := by
  have hP := pow_le6 hk hm
  obtain ⟨P, hPP⟩ : ∃ P, P = k ^ m := ⟨_, rfl⟩
  have HP : Hid (∀ W, Calls Tryd.prog 103 #[.int .i64 (k : Int), .int .i64 (m : Int)] W fun e w' => e = .returned (.int .i64 (P : Int)) ∧ W = w') := Lib.hid fun W => by rw [hPP]; exact l7Power_any k m hk hm W
  have HPP := Lib.hid hPP
  rw [← hPP] at hP
  have hz64 : ∀ z ∈ zs, 0 ≤ z ∧ z.toNat < 64 := fun z h => ⟨(hz z h).1, p64 hm (hz z h).2⟩
  obtain ⟨W1, hW1, b0, hs1, hb1⟩ : ∃ W1, w.alloc (.cells #[.int .i64 (m : Int), .slice a zs.length c] 25) = W1 ∧ HasBlk W1 w.heap.size #[.int .i64 (m : Int), .slice a zs.length c] 25 ∧ W1.heap.size = w.heap.size + 1 ∧ Below w.heap.size w W1 := ⟨_, rfl, alloc_new w _, by simp, below1 w _⟩
  have HB1 := Lib.hid hb1
  have HI1 : Hid (Ints W1 W1.heap.size a zs) := Lib.hid ((ha.below hb1).mono (by omega))
  have HKEEP : Hid (∀ W, Below W1.heap.size W1 W → W.cell? ⟨w.heap.size, 0, none⟩ = some (.int .i64 (m : Int)) ∧ W.cell? ⟨w.heap.size, 1, none⟩ = some (.slice a zs.length c)) := Lib.hid fun W hW =>
    ⟨(hW.cell (p := ⟨w.heap.size, 0, none⟩) (show w.heap.size < W1.heap.size by omega)).trans ((blk_cell b0 0).trans (cell2_0 _ _)), (hW.cell (p := ⟨w.heap.size, 1, none⟩) (show w.heap.size < W1.heap.size by omega)).trans ((blk_cell b0 1).trans (cell2_1 _ _))⟩
  have HS1 := Lib.hid hs1
  have HZ := Lib.hid hz
  have HZ64 := Lib.hid hz64
  have HR0 : Hid (Below W1.heap.size W1 W1) := Lib.hid (Below.refl _ _)
  have hm1I : (1 : Int) ≤ (m : Int) := by omega
  have hm6I : (m : Int) ≤ 6 := by omega
  have hPI : (P : Int) ≤ 46656 := by omega
  clear ha b0 hs1 hb1 hPP hz hz64
  go_enter Tryd.func72, Tryd.ntmps72
  go_wp2
  clear hW1
  go_loopw [5, 6] (fun s5 s6 wr => ∃ j : Nat, j ≤ P ∧ s6 = .int .i64 (j : Int) ∧ s5 = .int .i64 ((manyTo m zs k j : Nat) : Int) ∧ Hid (Below W1.heap.size W1 wr)) (fun _ s6 _ => P - (intOf s6).toNat)
  case atStart => exact ⟨0, Nat.zero_le _, rfl, rfl, HR0⟩
  case round =>
    obtain ⟨j, hj, rfl, rfl, HB⟩ := hrel
    clear HR0
    obtain ⟨x0, x1⟩ := HKEEP.out _ HB.out
    have hMl := manyTo_le m zs k j
    obtain ⟨M, hM⟩ : ∃ M, M = manyTo m zs k j := ⟨_, rfl⟩
    have HM := Lib.hid hM
    rw [← hM] at hMl ⊢
    clear hM
    have hjI : (j : Int) ≤ 46656 := by omega
    have hj0 : (0 : Int) ≤ (j : Int) := by omega
    have hMI : (M : Int) ≤ 46656 := by omega
    have hM0 : (0 : Int) ≤ (M : Int) := by omega
    by_cases hlt : j < P
    · have hjP : (j : Int) < (P : Int) := by omega
      have hk1 : 1 ≤ k := kpos hm1 (by rw [← HPP.out]; exact hlt)
      have HCO : Hid (∀ W, Calls Tryd.prog 105 #[.int .i64 (m : Int), .int .i64 (k : Int), .int .i64 (j : Int)] W fun e w' => e = .returned (.slice (some ⟨W.heap.size, 0, none⟩) m m) ∧ Nums w' W.heap.size 3 (digs k m j) ∧ Below W.heap.size W w') := Lib.hid fun W => l7Colours_any m k j hm1 hm hk1 hk (by omega) W
      have HSU := Lib.hid (manyTo_succ m zs k j)
      have HMX : Hid (∀ W (g : Nat), Below W1.heap.size W1 W → Nums W g 3 (digs k m j) → Calls Tryd.prog 104 #[.slice a zs.length c, .slice (some ⟨g, 0, none⟩) m m] W fun e w' => e = .returned (.bool (mixB zs (digs k m j))) ∧ Below W.heap.size W w') := Lib.hid fun W g hW hn => by
        have := l7Mixed_any m hm a c zs (some ⟨g, 0, none⟩) m (digs k m j) (digs_len k m j) W (HI1.out.step hW) (ints_blk (show HasBlk W g (iv (digs k m j)) 3 from hn) _ hn.lt) hx HZ64.out
        rwa [allM_mix hm HZ.out (digs_len k m j)] at this
      have HRX := Lib.hid HB.out
      cases hmx : mixB zs (digs k m j)
      · have HF := Lib.hid hmx
        have HEE : Hid (manyTo m zs k (j + 1) = M) := Lib.hid (by have HE := HSU.out; rw [hmx, ← HM.out] at HE; simpa using HE)
        rw [hmx] at HMX
        clear hmx HSU
        go_wp2_with (go_at_call 103; refine (HP.out _).mono ?_; rintro e w2 ⟨rfl, rfl⟩)
        have hbz : Below W1.heap.size W1 wr.drew := HB.out.drew
        have HDR : Hid (∀ W, Below wr.heap.size wr.drew W → Below W1.heap.size W1 W) := Lib.hid fun W h => HB.out.drew.trans (h.mono HB.out.size)
        go_region_held3 (fun w' => w'.cell? ⟨w.heap.size, 0, none⟩ = some (.int .i64 (m : Int)) ∧ w'.cell? ⟨w.heap.size, 1, none⟩ = some (.slice a zs.length c))
          (first | exact ⟨x0, x1⟩ | exact HKEEP.out _ (by assumption))
          (first
            | (go_at_call 105; refine (HCO.out _).mono ?_; rintro e w3 ⟨rfl, hn3, hb3⟩; have hb31 := HDR.out _ hb3; have HN3 := Lib.hid hn3)
            | (go_at_call 104; refine (HMX.out _ _ (by assumption) HN3.out).mono ?_; rintro e w4 ⟨rfl, hb4⟩; have HB4 := Lib.hid (hb31.trans (hb4.mono hb31.size))))
        all_goals
          go_wp2
          go_roundw
          case rel => exact ⟨j + 1, by omega, by go_num, by rw [HEE.out], HB4⟩
          case measure => simp [intOf]; omega
      · have HF := Lib.hid hmx
        have HEE : Hid (manyTo m zs k (j + 1) = M + 1) := Lib.hid (by have HE := HSU.out; rw [hmx, ← HM.out] at HE; simpa using HE)
        rw [hmx] at HMX
        clear hmx HSU
        go_wp2_with (go_at_call 103; refine (HP.out _).mono ?_; rintro e w2 ⟨rfl, rfl⟩)
        have hbz : Below W1.heap.size W1 wr.drew := HB.out.drew
        have HDR : Hid (∀ W, Below wr.heap.size wr.drew W → Below W1.heap.size W1 W) := Lib.hid fun W h => HB.out.drew.trans (h.mono HB.out.size)
        go_region_held3 (fun w' => w'.cell? ⟨w.heap.size, 0, none⟩ = some (.int .i64 (m : Int)) ∧ w'.cell? ⟨w.heap.size, 1, none⟩ = some (.slice a zs.length c))
          (first | exact ⟨x0, x1⟩ | exact HKEEP.out _ (by assumption))
          (first
            | (go_at_call 105; refine (HCO.out _).mono ?_; rintro e w3 ⟨rfl, hn3, hb3⟩; have hb31 := HDR.out _ hb3; have HN3 := Lib.hid hn3)
            | (go_at_call 104; refine (HMX.out _ _ (by assumption) HN3.out).mono ?_; rintro e w4 ⟨rfl, hb4⟩; have HB4 := Lib.hid (hb31.trans (hb4.mono hb31.size))))
        all_goals
          go_wp2
          go_roundw
          case rel => exact ⟨j + 1, by omega, by go_num, by rw [HEE.out]; go_num, HB4⟩
          case measure => simp [intOf]; omega
    · obtain rfl : j = P := by omega
      have HE : Hid (M = cntCM m zs k) := Lib.hid (by rw [HM.out, HPP.out, manyTo_all])
      have HR : Hid (Below w.heap.size w wr) := Lib.hid (HB1.out.trans (HB.out.mono (by have := HS1.out; omega)))
      go_wp2_with (go_at_call 103; refine (HP.out _).mono ?_; rintro e w2 ⟨rfl, rfl⟩)
      go_ret
      exact ⟨by rw [← HE.out]; rfl, HR.out⟩

end Go.Proofs.YtacglafoahmcnaaDoor

/- It is proved what the reference model's ColourMany and ColourFirst return; conditions: those of each statement. -/
namespace Go.Proofs.YtacglafoahmcnaaDoor
open Go.RowKit

/-- The first fair colours. -/
def firstC (m : Nat) (zs : List Int) (k : Nat) : Option (List Int) := (wordsL (palI k) m).find? (mixB zs)

theorem find_range {α : Type} (f : Nat → α) (p : α → Bool) {P j : Nat} (hj : j < P) (h0 : ∀ i, i < j → p (f i) = false) (h1 : p (f j) = true) : ((List.range P).map f).find? p = some (f j) := by
  obtain ⟨r, rfl⟩ : ∃ r, P = j + (r + 1) := ⟨P - j - 1, by omega⟩
  rw [List.range_add, List.map_append, List.find?_append, List.range_succ_eq_map]
  rw [List.find?_eq_none.2 (fun x hx => by
    obtain ⟨i, hi, rfl⟩ := List.mem_map.1 hx
    rw [h0 i (List.mem_range.1 hi)]; simp)]
  simp [h1]

end Go.Proofs.YtacglafoahmcnaaDoor

/- It is proved what rows of the call's own rows are, and what appending one leaves; conditions: those of each statement. -/
namespace Go.Proofs.YtacglafoahmcnaaDoor
open Go.RowKit Go.Shelf

theorem wp_append_eq {P : Program} (w : World) {o : Oper} {a : Act} {K : Act → World → Prop} {Q : Exit → Act → World → Prop} (s x : Operand) (t t' : TypeId)
    (ho : o.op = .call { callee := .builtin .append, args := #[s, x], argTypes := #[t, t'] }) (v u : Value) (hs : a.eval s = v) (hx : a.eval x = u) {v' : Value} {w' : World}
    (hr : (Builtin.append_ #[t, t'] o.type #[v, u]).run P w = .ok v' w') (h : K (a.put o.dst v') w') : o.wp P a w K Q := by
  unfold Oper.wp execOp
  simp only [ho, resolve, invoke, builtin, Sem.run_bind, Sem.run_pure, Result.andThen_ok, List.map_toArray, List.map_cons, List.map_nil, hs, hx, hr]
  exact h

theorem wpList_append_eq {P : Program} (w : World) {ops : Array Oper} {rest : List Oper} {o : Oper} {a : Act} {Q : Exit → Act → World → Prop} (hg : o.guard = none) (s x : Operand) (t t' : TypeId)
    (ho : o.op = .call { callee := .builtin .append, args := #[s, x], argTypes := #[t, t'] }) (v u : Value) (hs : a.eval s = v) (hx : a.eval x = u) {v' : Value} {w' : World}
    (hr : (Builtin.append_ #[t, t'] o.type #[v, u]).run P w = .ok v' w') (h : wpList P ops Q rest (a.put o.dst v') w') : wpList P ops Q (o :: rest) a w :=
  wpList_plain hg fun _ hK => wp_append_eq w s x t t' ho v u hs hx hr (hK _ _ h)

end Go.Proofs.YtacglafoahmcnaaDoor

/- It is proved what the first fair colours of the program are; conditions: those of each statement. -/
namespace Go.Proofs.YtacglafoahmcnaaDoor
open Go.RowKit Go.Shelf

attribute [local go_sem] Oper.semAt_some

theorem app_runC {w : World} {B : Nat} {v : Value} (h : w.ownsRow B 3 1 v 0 []) (hB : B ≤ w.heap.size) (g o c : Nat) (zs : List Int) (hz : Ints w w.heap.size (some ⟨g, o, none⟩) zs) (hzn : zs.length ≤ 1048576) :
    ∃ a' c' w', (Builtin.append_ #[100, 100] 100 #[v, .slice (some ⟨g, o, none⟩) zs.length c]).run Tryd.prog w = .ok (.slice a' zs.length c') w' ∧
      w'.ownsRow B 3 1 (.slice a' zs.length c') zs.length (zs.map (Value.int .i64)) ∧ w.grownBy w' v.ownBlock := by
  obtain ⟨i0, hi0, hz0, hz1, hz2⟩ := info_parts Tryd.info3
  have form : ∀ {w' : World} {v' : Value} {k : Nat} {ys : List Value}, w'.ownsRow B 3 1 v' k ys → ∃ a' c', v' = .slice a' k c' := fun {w' v' k ys} h' => by
    rcases h'.2 with ⟨rfl, rfl⟩ | ⟨g, cap, cur, rfl, _⟩
    · exact ⟨none, 0, rfl⟩
    · exact ⟨_, _, rfl⟩
  obtain ⟨v', w', hr, h2, h3, _⟩ := run_append_own (P := Tryd.prog) w B 100 100 3 i0 (.int .i64 0) 1 8 underC hi0 hz0 hz1 hz2 rfl (by decide) v 0 [] h ⟨g, o, none⟩ zs.length c (zs.map (Value.int .i64)) (by simp) hz.add_ (ints_oneCell _ _) (by simp only [maxLen]; omega) (by omega) hB
  rw [Nat.zero_add, List.nil_append] at h2
  obtain ⟨a', c', rfl⟩ := form h2
  exact ⟨a', c', w', hr, h2, h3⟩

theorem slice_nilC (g o n c : Nat) (w : World) : (binOp BinOp.eql 100 (.slice (some ⟨g, o, none⟩) n c) (.slice none 0 0)).run Tryd.prog w = .ok (.bool false) w := by kernel_rfl
set_option maxRecDepth 100000 in
set_option maxHeartbeats 1000000 in
theorem cloneC_any (a : Option Addr) (c n : Nat) (xs : List Int) (hn : xs.length = n) (hn1 : 1 ≤ n) (hx : n ≤ 1048576) (w : World) (ha : Ints w w.heap.size a xs) :
    Calls Tryd.prog 102 #[.slice a n c] w fun e w' => ∃ a' c', e = .returned (.slice a' n c') ∧ OwnN w' w.heap.size a' n c' xs ∧ Below w.heap.size w w' := by
  obtain ⟨g, o, rfl⟩ : ∃ g o, a = some ⟨g, o, none⟩ := by
    rcases ha with h | ⟨b, o, e, _⟩
    · rw [h] at hn; simp at hn; omega
    · exact ⟨b, o, e⟩
  have hE : OwnI (w.alloc (.cells #[] 3)) w.heap.size (.slice (some ⟨w.heap.size, 0, none⟩) 0 0) [] := own_empty (alloc_new w _) (Nat.le_refl _)
  have hB0 : Below w.heap.size w (w.alloc (.cells #[] 3)) := below1 w (.cells #[] 3)
  obtain ⟨a3, c3, w3, hr3, ho3, hg3⟩ := app_runC hE hB0.size g o c xs ((ha.below hB0).mono hB0.size) (by omega)
  have hb3 : Below w.heap.size w w3 := hB0.grown hg3 hB0.size (fun g e => (World.ownsRow.lt hE g e).1)
  rw [hn] at hr3 ho3
  have HO := Lib.hid (show OwnN w3 w.heap.size a3 n c3 xs from ho3)
  have HB := Lib.hid hb3
  have hnl := slice_nilC g o n c w
  clear ha hE hB0 ho3 hg3 hb3 hn
  go_enter Tryd.func102, Tryd.ntmps102
  go_wp2_with (at_builtin; refine wpList_append_eq _ rfl _ _ 100 100 rfl _ _ rfl rfl hr3 ?_)
  go_ret
  exact ⟨_, _, rfl, HO.out, HB.out⟩

set_option maxRecDepth 100000 in
set_option maxHeartbeats 4000000 in
theorem firstFair_any (m k : Nat) (hm1 : 1 ≤ m) (hm6 : m ≤ 6) (hk4 : k ≤ 6) (a : Option Addr) (c : Nat) (zs : List Int) (w : World) (ha : Ints w w.heap.size a zs) (hT : Tab w) (hx : zs.length ≤ 1048576) (hset : Sets m zs) :
    Calls Tryd.prog 70 #[.agg #[.int .i64 (m : Int), .slice a zs.length c], .int .i64 (k : Int)] w (RetSB w ((firstC m zs k).getD []) (firstC m zs k).isSome) := by
  have hT1 := hT.lt
  have h16 : 1 ≤ 6 := by omega
  obtain ⟨W3, hW3, q0, q1, q2, hs3, hb3⟩ : ∃ W3, ((w.alloc (.cells #[.int .i64 (m : Int), .slice a zs.length c] 25)).alloc (.cells #[.slice none 0 0] 23)).alloc (.cells #[.bool false] 4) = W3 ∧ HasBlk W3 w.heap.size #[.int .i64 (m : Int), .slice a zs.length c] 25 ∧ Boxed W3 (w.heap.size + 1) 23 (.slice none 0 0) ∧ Boxed W3 (w.heap.size + 1 + 1) 4 (.bool false) ∧ W3.heap.size = w.heap.size + 1 + 1 + 1 ∧ Below w.heap.size w W3 :=
    ⟨_, rfl, alloc3_0 w _ _ _, alloc3_1 w _ _ _, alloc3_2 w _ _ _, by simp, below3 w _ _ _⟩
  have y0 := (blk_cell q0 0).trans (cell2_0 _ _)
  have y1 := (blk_cell q0 1).trans (cell2_1 _ _)
  rw [← hW3] at y0 y1
  have HW3 := Lib.hid hW3
  have HS3 := Lib.hid hs3
  have HB3 := Lib.hid hb3
  have HQ1 := Lib.hid q1
  have HQ2 := Lib.hid q2
  have HA := Lib.hid ha
  have HT := Lib.hid hT
  have HSET := Lib.hid hset
  clear ha hT hset q0 q1 q2 hs3 hb3 hW3
  refine (callsIn_wide (n := 6)).1 ?_
  refine callsIn_of_wp_marks Tryd.func70 rfl trivial ?_ rfl
  simp only [Tryd.ntmps70, List.size_toArray, List.length_cons, List.length_nil, Nat.reduceAdd, Nat.reduceSub, Array.replicate_succ, Array.replicate_zero, List.push_toArray, List.append_toArray, List.nil_append, List.cons_append]
  gi_wp2_with fail
  refine ⟨trivial, ?_⟩
  rw [HW3.out]
  refine (callsIn_wide.2 (fair_any _ _ _ _ _ _)).mono ?_
  rintro e w3 ⟨p, rfl, hp0, hp1, bf, bk, bx, hb3⟩
  have hlo : Below w.heap.size w w3 := HB3.out.trans (hb3.mono HB3.out.size)
  have hseq := coloured1M_in (6 - 1) w.heap.size p (p + 1) (p + 2) m k hm1 hm6 hk4 a c zs hx HSET.out (fun j => j = w.heap.size + 1 ∨ j = w.heap.size + 1 + 1) w3 hlo.size (fun j e => by omega) (fun e => by have := HS3.out; omega) (fun e => by have := HS3.out; omega) (fun e => by have := HS3.out; omega) bf bk bx (HA.out.below hlo) (HT.out.below hlo hT1) (by omega)
  have HSEQ := Lib.hid hseq
  have HLO := Lib.hid hlo
  have HR1 : Hid (Boxed w3 (w.heap.size + 1) 23 (.slice none 0 0)) := Lib.hid ((hb3.block _ (by have := HS3.out; omega)).trans HQ1.out)
  have HR2 : Hid (Boxed w3 (w.heap.size + 1 + 1) 4 (.bool false)) := Lib.hid ((hb3.block _ (by have := HS3.out; omega)).trans HQ2.out)
  have HSZ : Hid (w.heap.size + 1 + 1 < w3.heap.size) := Lib.hid (by have := hb3.size; have := HS3.out; omega)
  clear hb3 hlo hseq bf bk bx hp0 hp1
  gi_wp2
  refine wpIn_rangeFunc_but (n := 6) h16 (gf := 132) (lb := #[.pointer (some ⟨p, 0, none⟩), .pointer (some ⟨p + 1, 0, none⟩), .pointer (some ⟨p + 2, 0, none⟩)]) rfl (enters_of Tryd.func132 (by kernel_rfl) rfl)
    HSEQ.out (Below.refl _ _) (fun j e => by have := HSZ.out; omega) (fun _ => rfl)
    (fun x A l' o h hl => ⟨h.1, by obtain ⟨a', e, hi⟩ := h.2; exact ⟨a', e, by have := ints_putObj (o := o) hi hl; simpa using this⟩⟩)
    (fun pre Wr => pre = [] ∧ Boxed Wr (w.heap.size + 1) 23 (.slice none 0 0) ∧ Boxed Wr (w.heap.size + 1 + 1) 4 (.bool false) ∧ But (fun j => j = w.heap.size + 1 ∨ j = w.heap.size + 1 + 1) w3 Wr)
    (fun pre Wr => ∃ x a' c', pre = [x] ∧ x.2.length = m ∧ Boxed Wr (w.heap.size + 1) 23 (.slice a' m c') ∧ Boxed Wr (w.heap.size + 1 + 1) 4 (.bool true) ∧ OwnN Wr w.heap.size a' m c' x.2 ∧ Below w.heap.size w Wr)
    ?own ?ownx ⟨rfl, HR1.out, HR2.out, But.refl _ _⟩
    (fun x a' _ => a' = { tmps := #[.agg #[.int .i64 (m : Int), .slice a zs.length c], .int .i64 (k : Int), .pointer (some ⟨w.heap.size, 0, none⟩), undef, .pointer (some ⟨w.heap.size + 1, 0, none⟩), .pointer (some ⟨w.heap.size + 1 + 1, 0, none⟩), x.1, .agg #[.int .i64 (m : Int), .slice a zs.length c], .int .i64 (k : Int), .func (.func 132) #[] #[.pointer (some ⟨p, 0, none⟩), .pointer (some ⟨p + 1, 0, none⟩), .pointer (some ⟨p + 2, 0, none⟩)], x.1, undef, undef], defers := [] })
    (fun _ _ _ _ _ h _ => h) ?assign ?body ?done ?stop
  case own =>
    rintro s A C row ⟨h0, h1, h2, hb⟩ hg hr
    have hs3 := HSZ.out
    refine ⟨h0, HasBlk.kept h1 hg (fun e => by have := hr _ e; omega), HasBlk.kept h2 hg (fun e => by have := hr _ e; omega), ?_⟩
    exact ⟨hg.os.trans hb.os, hg.tape.trans hb.tape, hg.output.trans hb.output, Nat.le_trans hb.size hg.size, fun i hi hX => (hg.block i (Nat.lt_of_lt_of_le hi hb.size) (fun e => by have := hr i e.symm; omega)).trans (hb.same i hi hX)⟩
  case ownx =>
    rintro s A C row ⟨x, a', c', h0, hxl, h1, h2, h3, hb⟩ hg hr
    have hs3 := HSZ.out
    refine ⟨x, a', c', h0, hxl, HasBlk.kept h1 hg (fun e => by have := (hr _ e).1; omega), HasBlk.kept h2 hg (fun e => by have := (hr _ e).1; omega), h3.kept hg ?_, hb.grown hg hb.size (fun r e => by have := (hr r e).1; omega)⟩
    rcases h3.2 with ⟨e0, _⟩ | ⟨g, cap, cur, e0, _, hgb, _⟩
    · left; injection e0 with e1 e2 e3; subst e1; subst e3; rw [e2]; rfl
    · refine .inr fun e' => ?_
      obtain ⟨-, o, ho, hc⟩ := hr g (by rw [e0] at e'; simpa [Value.ownBlock] using e'.symm)
      rw [hgb] at ho; cases ho; cases hc
  case assign =>
    rintro l1 pre ⟨x1, x2⟩ Wr K hI ⟨hlen, a', ha', hints⟩ hsz hK
    dsimp only at ha' hlen hints
    subst ha'
    gi_wp2
    exact hK _ _ (But.refl _ _) hI ⟨hlen, _, rfl, hints⟩ rfl
  case body =>
    rintro l1 pre ⟨x1, x2⟩ a2 Wr hl1' ⟨h0, h1, h2, hb⟩ ⟨hlen, a', ha', hints⟩ rfl hlt
    dsimp only at ha' hlen hints
    subst ha'
    have hcl := cloneC_any a' m m x2 hlen hm1 (by omega) Wr hints
    have HCL := Lib.hid hcl
    have HL := Lib.hid hlen
    have H0 := Lib.hid h0
    have H1 := Lib.hid h1
    have H2 := Lib.hid h2
    have HB := Lib.hid hb
    clear hcl hlen h0 h1 h2 hb hints
    dsimp only
    gi_wp2_with fail
    refine ⟨trivial, ?_⟩
    refine (CallsIn.inRound l1 (callsIn_wide.2 HCL.out)).mono ?_
    rintro e w4 ⟨a4, c4, rfl, ho4, hb4⟩
    have r1 : Boxed w4 (w.heap.size + 1) 23 (.slice none 0 0) := (hb4.block _ H1.out.lt).trans H1.out
    have r2 : Boxed w4 (w.heap.size + 1 + 1) 4 (.bool false) := (hb4.block _ H2.out.lt).trans H2.out
    have c1 := r1.cell
    have f1 := r1.frozen
    have r2' : Boxed (w4.setCell ⟨w.heap.size + 1, 0, none⟩ (.slice a4 m c4)) (w.heap.size + 1 + 1) 4 (.bool false) := Boxed.other r2 (by omega) _
    have c2 := r2'.cell
    have f2 := r2'.frozen
    have hsz3 := HSZ.out
    have hszW : w3.heap.size ≤ Wr.heap.size := HB.out.size
    have ho5 : OwnN ((w4.setCell ⟨w.heap.size + 1, 0, none⟩ (.slice a4 m c4)).setCell ⟨w.heap.size + 1 + 1, 0, none⟩ (.bool true)) Wr.heap.size a4 m c4 x2 :=
      ownsRow_setCell_ne (p := ⟨w.heap.size + 1 + 1, 0, none⟩) (ownsRow_setCell_ne (p := ⟨w.heap.size + 1, 0, none⟩) ho4 (ho4.ne (.inl (show w.heap.size + 1 < Wr.heap.size by omega))) _) (ho4.ne (.inl (show w.heap.size + 1 + 1 < Wr.heap.size by omega))) _
    have hbt : But (fun j => j = w.heap.size + 1 ∨ j = w.heap.size + 1 + 1) Wr ((w4.setCell ⟨w.heap.size + 1, 0, none⟩ (.slice a4 m c4)).setCell ⟨w.heap.size + 1 + 1, 0, none⟩ (.bool true)) := ((But.of_below hb4).trans (But.setCell _ _ _ _ (fun _ => .inl rfl))).trans (But.setCell _ _ _ _ (fun _ => .inr rfl))
    have HBT := Lib.hid hbt
    have HO5 := Lib.hid ho5
    have HE1 : Hid (Boxed ((w4.setCell ⟨w.heap.size + 1, 0, none⟩ (.slice a4 m c4)).setCell ⟨w.heap.size + 1 + 1, 0, none⟩ (.bool true)) (w.heap.size + 1) 23 (.slice a4 m c4)) := Lib.hid (Boxed.other (r1.set _) (by omega) _)
    have HE2 : Hid (Boxed ((w4.setCell ⟨w.heap.size + 1, 0, none⟩ (.slice a4 m c4)).setCell ⟨w.heap.size + 1 + 1, 0, none⟩ (.bool true)) (w.heap.size + 1 + 1) 4 (.bool true)) := Lib.hid (r2'.set _)
    clear r1 r2 r2' ho4 hb4 ho5 hbt
    gi_wp2
    have hbw : Below w.heap.size w ((w4.setCell ⟨w.heap.size + 1, 0, none⟩ (.slice a4 m c4)).setCell ⟨w.heap.size + 1 + 1, 0, none⟩ (.bool true)) := HLO.out.trans ((HB.out.trans HBT.out).below HLO.out.size (fun j e => by omega))
    exact ⟨HBT.out, (.slice a' m m, x2), a4, c4, by rw [H0.out]; rfl, HL.out, HE1.out, HE2.out, HO5.out.base (by omega), hbw⟩
  case done =>
    rintro E xs Wr hE hS ⟨h0, h1, h2, hb⟩ hK
    have hF : firstC m zs k = none := by
      rw [h0] at hS
      unfold firstC
      rw [List.find?_eq_none]
      intro x hx hp
      have : x ∈ (wordsL (palI k) m).filter (mixB zs) := List.mem_filter.2 ⟨hx, hp⟩
      rw [← hS] at this
      simp at this
    have HFN := Lib.hid hF
    have hsz3 := HSZ.out
    have hb1 : But (fun j => j = w.heap.size + 1 ∨ j = w.heap.size + 1 + 1) Wr ((Wr.setCell ⟨w.heap.size + 1, 0, none⟩ (.slice none 0 0)).setCell ⟨w.heap.size + 1 + 1, 0, none⟩ (.bool false)) := (But.setCell _ _ _ _ (fun _ => .inl rfl)).trans (But.setCell _ _ _ _ (fun _ => .inr rfl))
    have hK5 := hb1.keep (k := E) (by omega) hK
    have c1 := h1.cell
    have f1 := h1.frozen
    have h2' : Boxed (Wr.setCell ⟨w.heap.size + 1, 0, none⟩ (.slice none 0 0)) (w.heap.size + 1 + 1) 4 (.bool false) := Boxed.other h2 (by omega) _
    have c2 := h2'.cell
    have f2 := h2'.frozen
    have e1 : HasBlk (((Wr.setCell ⟨w.heap.size + 1, 0, none⟩ (.slice none 0 0)).setCell ⟨w.heap.size + 1 + 1, 0, none⟩ (.bool false)).putObj E (.deferred none)) (w.heap.size + 1) #[.slice none 0 0] 23 := (World.putObj_heap_other (by omega)).trans (Boxed.other (h1.set _) (by omega) _)
    have e2 : HasBlk (((Wr.setCell ⟨w.heap.size + 1, 0, none⟩ (.slice none 0 0)).setCell ⟨w.heap.size + 1 + 1, 0, none⟩ (.bool false)).putObj E (.deferred none)) (w.heap.size + 1 + 1) #[.bool false] 4 := (World.putObj_heap_other (by omega)).trans (h2'.set _)
    have g1 := (blk_cell e1 0).trans (cell1_0 _)
    have g2 := (blk_cell e2 0).trans (cell1_0 _)
    have HBW : Hid (Below w.heap.size w ((Wr.setCell ⟨w.heap.size + 1, 0, none⟩ (.slice none 0 0)).setCell ⟨w.heap.size + 1 + 1, 0, none⟩ (.bool false))) := Lib.hid (HLO.out.trans ((hb.trans hb1).below HLO.out.size (fun j e => by omega)))
    have HK5 := Lib.hid hK5
    clear h1 h2 h2' hb hb1 hK hK5 e1 e2 hS h0 hF
    gi_wp2
    refine ⟨by simp, .inl ⟨_, _, rfl, run_takeDeferred HK5.out, ?_⟩⟩
    refine ⟨.tuple #[.slice none 0 0, .bool false], by simp [results, Tryd.results70, go_sem, g1, g2], none, 0, by rw [HFN.out]; rfl, by rw [HFN.out]; exact World.ownsRow_nil _ _ _ _, ?_⟩
    exact HBW.out.grown (grownBy_putObj' _ E _) HBW.out.size (fun g e => by injection e; omega)
  case stop =>
    rintro E pre Wr hE ⟨hS, -⟩ ⟨x, a', c', h0, hxl, h1, h2, h3, hb⟩ hK
    have hF : firstC m zs k = some x.2 := by
      rw [h0] at hS
      unfold firstC
      rw [← List.head?_filter]
      obtain ⟨r, hr⟩ := hS
      rw [← hr]; rfl
    rw [hF, Option.getD_some, Option.isSome_some]
    have hsz3 := HSZ.out
    have e1 : HasBlk (Wr.putObj E (.deferred none)) (w.heap.size + 1) #[.slice a' m c'] 23 := (World.putObj_heap_other (by omega)).trans h1
    have e2 : HasBlk (Wr.putObj E (.deferred none)) (w.heap.size + 1 + 1) #[.bool true] 4 := (World.putObj_heap_other (by omega)).trans h2
    have g1 := (blk_cell e1 0).trans (cell1_0 _)
    have g2 := (blk_cell e2 0).trans (cell1_0 _)
    have HO : Hid (OwnN (Wr.putObj E (.deferred none)) w.heap.size a' m c' x.2) := Lib.hid (ownsRow_putObj h3 _ hK rfl)
    have HBW := Lib.hid hb
    have HK5 := Lib.hid hK
    have HXL := Lib.hid hxl
    clear h1 h2 h3 hb hK e1 e2 hS h0 hF hxl
    gi_wp2
    refine ⟨by simp, .inl ⟨_, _, rfl, run_takeDeferred HK5.out, ?_⟩⟩
    refine ⟨.tuple #[.slice a' m c', .bool true], by simp [results, Tryd.results70, go_sem, g1, g2], a', c', by rw [HXL.out], by unfold OwnI; rw [HXL.out]; exact HO.out, ?_⟩
    exact HBW.out.grown (grownBy_putObj' _ E _) HBW.out.size (fun g e => by injection e; omega)

end Go.Proofs.YtacglafoahmcnaaDoor

/- It is proved that the most clubs that get a member of a set are all clubs but as many as the worst set of places falls short by; conditions: those of each statement. -/
namespace Go.Proofs.YtacglafoahmcnaaDoor
open Go.RowKit

/-- How many of the first k numbers a set has. -/
def cntK (k s : Nat) : Nat := (memK k s).length

end Go.Proofs.YtacglafoahmcnaaDoor

/- It is proved what together and over return; conditions: those of each statement. -/
namespace Go.Proofs.YtacglafoahmcnaaDoor
open Go.RowKit Go.Shelf

attribute [local go_sem] Oper.semAt_some

theorem cntK_bound (k s : Nat) : cntK k s ≤ k := memK_len k s
end Go.Proofs.YtacglafoahmcnaaDoor

/- It is proved what pairs returns; conditions: those of each statement. -/
namespace Go.Proofs.YtacglafoahmcnaaDoor
open Go.RowKit Go.Shelf

attribute [local go_sem] Oper.semAt_some

theorem memK_zero (k : Nat) : memK k 0 = [] := by
  unfold memK
  rw [List.filter_eq_nil_iff]
  simp

end Go.Proofs.YtacglafoahmcnaaDoor
