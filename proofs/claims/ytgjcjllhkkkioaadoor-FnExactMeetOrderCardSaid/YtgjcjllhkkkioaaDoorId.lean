/- It is proved what inClub and loose return for sets of at most eight members; conditions: those of each statement. -/
import Derived.RowKit
import Derived.Laws.CopyRow
import Derived.Lib.SlBuf
import Derived.Deep.QuietTactic
import Derived.RangeFuncNested
import Derived.RangeFuncBound
import Derived.RangeFuncCalls
import Derived.RangeFuncLeaves
import Derived.RangeFuncBox
import Derived.RangeFuncWrites
import Derived.StillTailTactics
import Derived.Maps.OwnIn
import Derived.Maps.Ext
import Derived.DeepKeys4
import Derived.MapKept
import Derived.Test.YtgjcjllhkkkioaaDoorRows
import Derived.WalkKit
import Derived.WalkSpells
import Derived.ProofKit
import Derived.OpenShut
import Derived.ShutString
import Derived.ChangeOld
import Derived.Below
import Derived.Deep.RegionHeld3
import Derived.BigQuiet
import Derived.Lib.Hide
import Derived.Lib.SmallJoins
import Derived.Outline
import Derived.Laws.MakeOwn
import Derived.Laws.OwnMore
import Derived.IntWalk
import Derived.Lib.AppendZeros
import Derived.Maps.AppendAt
import Derived.Deep.AppendLies
import Derived.OwnWalk
import Derived.Lib.SlicesCompact
import Derived.Lib.OwnBridge
import Derived.OrdersIn
import Derived.TacticsIn
import Derived.Shelf.Sort.Plain
import Derived.Shelf.Slices.In.SortNone
import Derived.Shelf.Slices.CompactI
import Derived.Ground.Names2Prog
import Derived.Lib.SliceRun
import Derived.Laws.BitsAllLaws
import Derived.Shelf.RegionOpen
import Derived.Shelf.Abstract
import Derived.OwnWalkIn
import Derived.TacticsInMore
import Derived.LoopNIn
import Derived.LoopIn
import Derived.StillTail
import Derived.StillTactics
import Derived.Shelf.Spec.TrailingZeros
import Derived.Test.YtgjcjllhkkkioaaDoorRaaa
import Derived.Test.YtgjcjllhkkkioaaDoorRaab
import Derived.Test.YtgjcjllhkkkioaaDoorRaad
import Derived.Test.YtgjcjllhkkkioaaDoorRaaq
import Derived.Test.YtgjcjllhkkkioaaDoorRaaf
import Derived.Test.YtgjcjllhkkkioaaDoorRaar
import Derived.Test.YtgjcjllhkkkioaaDoorIb
import Derived.Test.YtgjcjllhkkkioaaDoorIc
import Derived.Test.YtgjcjllhkkkioaaDoorRaav
import Derived.Test.YtgjcjllhkkkioaaDoorRaac
namespace Go.Proofs.YtgjcjllhkkkioaaDoor
open Go.RowKit Go.Shelf

theorem in1_any (s z : Nat) (hs : s < 256) (hz : z < 256) (Bs : Nat) (w : World) (hb : Boxed w Bs 59 (.int .i64 (s : Int))) :
    Calls Tryd.prog 89 #[.int .i64 (z : Int), .pointer (some ⟨Bs, 0, none⟩)] w fun e w' => e = .returned (.bool (subN s z)) ∧ w = w' := by
  have x0 := (blk_cell hb 0).trans (cell1_0 _)
  have H := Lib.hid (partOf8_any s z hs hz w)
  clear hb
  go_enter Tryd.func89, Tryd.ntmps89
  go_wp2_with fail
  refine H.out.mono ?_
  rintro e w1 ⟨rfl, rfl⟩
  go_wp2
  go_ret
  exact ⟨rfl, rfl⟩

theorem in_yes {s : Nat} {zs : List Int} {k : Nat} (hk : k < zs.length) (h : subN s (zs[k]?.getD 0).toNat = true) : inC zs s = true := by
  unfold inC
  rw [List.any_eq_true]
  exact ⟨_, getD_mem hk, h⟩

theorem in_no {s : Nat} {zs : List Int} (h : ∀ j, j < zs.length → subN s (zs[j]?.getD 0).toNat = false) : inC zs s = false := by
  unfold inC
  rw [List.any_eq_false]
  intro z hz
  obtain ⟨j, hj, rfl⟩ := List.mem_iff_getElem.1 hz
  have := h j hj
  rw [List.getElem?_eq_getElem hj, Option.getD_some] at this
  rw [this]
  decide

set_option maxRecDepth 100000 in
set_option maxHeartbeats 2000000 in
theorem indexIn_any (k : Nat) (hk8 : k ≤ 8) (b : Option Addr) (c : Nat) (zs : List Int) (s : Nat) (hs : s < 256) (hz : Sets k zs) (hx8 : zs.length ≤ 1048576) (Bs : Nat) (w : World) (hb : Ints w w.heap.size b zs) (hx : Boxed w Bs 59 (.int .i64 (s : Int))) :
    Calls Tryd.prog 83 #[.slice b zs.length c, .func (.func 89) #[] #[.pointer (some ⟨Bs, 0, none⟩)]] w fun e w' =>
      ∃ r : Int, e = .returned (.int .i64 r) ∧ decide (0 ≤ r) = inC zs s ∧ w = w' := by
  obtain ⟨N, hN⟩ : ∃ N, N = zs.length := ⟨_, rfl⟩
  have HN : Hid (N = zs.length) := Lib.hid hN
  have HI := Lib.hid hb
  have HW : Hid (∀ (z : Nat), z < 256 → Calls Tryd.prog 89 #[.int .i64 (z : Int), .pointer (some ⟨Bs, 0, none⟩)] w fun e w' => e = .returned (.bool (subN s z)) ∧ w = w') := Lib.hid fun z hzz => in1_any s z hs hzz Bs w hx
  have HZ := Lib.hid hz
  rw [← hN]
  rw [← hN] at hx8
  clear hN hb hx hz
  go_enter Tryd.func83, Tryd.ntmps83
  go_wp2
  go_loop [5, 8] (fun _ i => ∃ k : Nat, k ≤ N ∧ i = .int .i64 k ∧ Hid (∀ j, j < k → subN s (zs[j]?.getD 0).toNat = false)) (fun _ i => N - (intOf i).toNat)
  case atStart => exact ⟨0, Nat.zero_le _, rfl, Lib.hid (fun j hj => by omega)⟩
  case round =>
    obtain ⟨j, hk, rfl, HE⟩ := hrel
    by_cases hlt : j < N
    · have hki : (j : Int) < (N : Int) := by omega
      have hk0 : (0 : Int) ≤ (j : Int) := by omega
      obtain ⟨b1, o1, rfl, hb1, hc⟩ := HI.out.at_ (k := j) (by rw [← HN.out]; exact hlt)
      have hzm := HZ.out _ (getD_mem (zs := zs) (i := j) (by rw [← HN.out]; exact hlt))
      obtain ⟨z, hzz⟩ : ∃ z : Nat, zs[j]?.getD 0 = (z : Int) := ⟨(zs[j]?.getD 0).toNat, by have := hzm.1; omega⟩
      have hzn : z < 256 := by
        have := p256 hk8 hzm.2
        rw [hzz, Int.toNat_natCast] at this
        exact this
      have HC := Lib.hid (HW.out z hzn)
      have HZZ : Hid ((zs[j]?.getD 0).toNat = z) := Lib.hid (by rw [hzz, Int.toNat_natCast])
      rw [hzz] at hc
      clear hzz hzm
      cases hf : subN s z
      · have HF := Lib.hid hf
        clear hf
        go_wp2_with fail
        refine HC.out.mono ?_
        rintro e w3 ⟨rfl, rfl⟩
        rw [HF.out]
        have HR : Hid (∀ i, i < j + 1 → subN s (zs[i]?.getD 0).toNat = false) := Lib.hid fun i hi => by
          rcases Nat.lt_succ_iff_lt_or_eq.1 hi with h | rfl
          · exact HE.out i h
          · rw [HZZ.out]; exact HF.out
        go_wp2
        go_round
        case rel => exact ⟨j + 1, by omega, by go_num, HR⟩
        case measure => simp [intOf]; omega
      · have HF := Lib.hid hf
        clear hf
        go_wp2_with fail
        refine HC.out.mono ?_
        rintro e w3 ⟨rfl, rfl⟩
        rw [HF.out]
        go_wp2
        go_ret
        exact ⟨_, rfl, by rw [in_yes (k := j) (by rw [← HN.out]; exact hlt) (by rw [HZZ.out]; exact HF.out)]; simp, rfl⟩
    · obtain rfl : j = N := by omega
      go_wp2
      go_ret
      exact ⟨_, rfl, by rw [in_no (by rw [← HN.out]; exact HE.out)]; decide, rfl⟩

set_option maxRecDepth 100000 in
set_option maxHeartbeats 1600000 in
theorem containsIn_any (k : Nat) (hk8 : k ≤ 8) (b : Option Addr) (c : Nat) (zs : List Int) (s : Nat) (hs : s < 256) (hz : Sets k zs) (hx8 : zs.length ≤ 1048576) (Bs : Nat) (w : World) (hb : Ints w w.heap.size b zs) (hx : Boxed w Bs 59 (.int .i64 (s : Int))) :
    Calls Tryd.prog 71 #[.slice b zs.length c, .func (.func 89) #[] #[.pointer (some ⟨Bs, 0, none⟩)]] w fun e w' => e = .returned (.bool (inC zs s)) ∧ w = w' := by
  have H := Lib.hid (indexIn_any k hk8 b c zs s hs hz hx8 Bs w hb hx)
  clear hb hx hz
  go_enter Tryd.func71, Tryd.ntmps71
  go_wp2_with fail
  refine H.out.mono ?_
  rintro e w1 ⟨r, rfl, hr, rfl⟩
  have HR := Lib.hid hr
  clear hr
  by_cases h : 0 ≤ r
  · go_wp2
    go_ret
    exact ⟨by rw [← HR.out, decide_eq_true h]; rfl, rfl⟩
  · have h' : r < 0 := by omega
    go_wp2
    go_ret
    exact ⟨by rw [← HR.out]; rfl, rfl⟩

set_option maxRecDepth 100000 in
theorem inClub8_any (k : Nat) (hk8 : k ≤ 8) (a : Option Addr) (c : Nat) (zs : List Int) (s : Nat) (hs : s < 256) (w : World) (ha : Ints w w.heap.size a zs) (h8 : zs.length ≤ 8) (hz : Sets k zs) :
    Calls Tryd.prog 82 #[.agg #[.int .i64 (k : Int), .slice a zs.length c], .int .i64 (s : Int)] w fun e w' => e = .returned (.bool (inC zs s)) ∧ Below w.heap.size w w' := by
  have HB := Lib.hid (below2 w (.cells #[.int .i64 (k : Int), .slice a zs.length c] 26) (.cells #[.int .i64 (s : Int)] 59))
  have HC := Lib.hid (containsIn_any k hk8 a c zs s hs hz (by omega) (w.heap.size + 1) ((w.alloc (.cells #[.int .i64 (k : Int), .slice a zs.length c] 26)).alloc (.cells #[.int .i64 (s : Int)] 59)) ((ha.below HB.out).mono (by simp; omega)) (alloc2_1 w _ _))
  clear ha hz
  go_enter Tryd.func82, Tryd.ntmps82
  go_wp2_with fail
  refine HC.out.mono ?_
  rintro e w1 ⟨rfl, rfl⟩
  go_wp2
  go_ret
  exact ⟨rfl, HB.out⟩

set_option maxRecDepth 100000 in
theorem loose8_any (k : Nat) (hk8 : k ≤ 8) (a : Option Addr) (c : Nat) (zs : List Int) (s : Nat) (hs : s < 256) (w : World) (ha : Ints w w.heap.size a zs) (h8 : zs.length ≤ 8) (hz : Sets k zs) (hT : Tab w) :
    Calls Tryd.prog 68 #[.agg #[.int .i64 (k : Int), .slice a zs.length c], .int .i64 (s : Int)] w fun e w' => e = .returned (.bool (looB zs s)) ∧ Below w.heap.size w w' := by
  have F1 := FB.start (m := (k : Int)) (c := c) ha
  have HB0 := Lib.hid (below1 w (.cells #[.int .i64 (k : Int), .slice a zs.length c] 26))
  have HF1 := Lib.hid F1
  have HTI := Lib.hid (tied8_any k hk8 a c zs s hs _ F1.ints h8 hz (hT.step HB0.out))
  have HIC : Hid (∀ W, Ints W W.heap.size a zs → Calls Tryd.prog 82 #[.agg #[.int .i64 (k : Int), .slice a zs.length c], .int .i64 (s : Int)] W fun e w' => e = .returned (.bool (inC zs s)) ∧ Below W.heap.size W w') := Lib.hid fun W h => inClub8_any k hk8 a c zs s hs W h h8 hz
  have HLO : Hid (looB zs s = (tieB zs s && !inC zs s)) := Lib.hid rfl
  obtain ⟨T, hT'⟩ : ∃ T, T = tieB zs s := ⟨_, rfl⟩
  obtain ⟨I, hI⟩ : ∃ I, I = inC zs s := ⟨_, rfl⟩
  rw [← hT'] at HTI HLO
  rw [← hI] at HIC HLO
  have f_0 := F1.x0
  have f_1 := F1.x1
  clear F1 ha hz hT' hI hT
  go_enter Tryd.func68, Tryd.ntmps68
  go_wp2_with fail
  refine HTI.out.mono ?_
  rintro e w2 ⟨rfl, hb2⟩
  have HF2 := Lib.hid (HF1.out.step hb2)
  have HB2 := Lib.hid (HB0.out.trans (hb2.mono (by simp)))
  clear hb2 f_0 f_1 HF1 HB0 HTI
  have f_0 := HF2.out.x0
  have f_1 := HF2.out.x1
  have HC := Lib.hid (HIC.out w2 HF2.out.ints)
  cases T
  · have HR : Hid (looB zs s = false) := Lib.hid (by rw [HLO.out]; rfl)
    clear HLO
    go_wp2
    go_ret
    exact ⟨by rw [HR.out]; rfl, HB2.out⟩
  · have HR : Hid (looB zs s = !I) := Lib.hid (by rw [HLO.out]; rfl)
    clear HLO
    go_wp2_with fail
    refine HC.out.mono ?_
    rintro e w3 ⟨rfl, hb3⟩
    have HB3 := Lib.hid (HB2.out.trans (hb3.mono HB2.out.size))
    clear hb3
    go_wp2
    go_ret
    exact ⟨by rw [HR.out]; rfl, HB3.out⟩

end Go.Proofs.YtgjcjllhkkkioaaDoor
