/- It is proved whether some club has colours that are not mixed; conditions: those of each statement. -/
import Derived.RowKit
import Derived.Laws.CopyRow
import Derived.Lib.SlBuf
import Derived.Deep.QuietTactic
import Derived.RangeFuncNested
import Derived.RangeFuncBound
import Derived.RangeFuncCalls
import Derived.RangeFuncLeaves
import Derived.RangeFuncBox
import Derived.RangeFuncWrites
import Derived.StillTailTactics
import Derived.Maps.OwnIn
import Derived.Maps.Ext
import Derived.DeepKeys4
import Derived.MapKept
import Derived.Test.YtfhhfilkabjhaaaDoorRows
import Derived.WalkKit
import Derived.WalkSpells
import Derived.ProofKit
import Derived.OpenShut
import Derived.ShutString
import Derived.ChangeOld
import Derived.Below
import Derived.Deep.RegionHeld3
import Derived.BigQuiet
import Derived.Lib.Hide
import Derived.Lib.SmallJoins
import Derived.Outline
import Derived.Laws.MakeOwn
import Derived.Laws.OwnMore
import Derived.IntWalk
import Derived.Maps.AppendAt
import Derived.Lib.AppendZeros
import Derived.Deep.AppendLies
import Derived.OwnWalk
import Derived.Lib.SlicesCompact
import Derived.Lib.OwnBridge
import Derived.OrdersIn
import Derived.TacticsIn
import Derived.Shelf.Sort.Plain
import Derived.Shelf.Slices.In.SortNone
import Derived.Shelf.Slices.CompactI
import Derived.Ground.Names2Prog
import Derived.Lib.SliceRun
import Derived.Shelf.Abstract
import Derived.Shelf.RegionOpen
import Derived.OwnWalkIn
import Derived.TacticsInMore
import Derived.LoopNIn
import Derived.LoopIn
import Derived.StillTail
import Derived.StillTactics
import Derived.Shelf.Spec.TrailingZeros
import Derived.Deep.LoopGhost
import Derived.Test.YtfhhfilkabjhaaaDoorRaaa
import Derived.Test.YtfhhfilkabjhaaaDoorRaac
import Derived.Test.YtfhhfilkabjhaaaDoorRaad
import Derived.Test.YtfhhfilkabjhaaaDoorRaae
import Derived.Test.YtfhhfilkabjhaaaDoorJc
import Derived.Test.YtfhhfilkabjhaaaDoorJq
import Derived.Test.YtfhhfilkabjhaaaDoorKc
import Derived.Test.YtfhhfilkabjhaaaDoorRaax
namespace Go.Proofs.YtfhhfilkabjhaaaDoor
open Go.RowKit Go.Shelf

attribute [local go_sem] Oper.semAt_some

set_option maxRecDepth 100000 in
theorem rightM_any (a : Option Addr) (n : Nat) (cs : List Int) (z : Nat) (hcs : cs.length = n) (hn : n ≤ 6) (hz : z < 2 ^ n) (w : World) (hc : Ints w w.heap.size a cs) (hT : Tab w) :
    Calls Tryd.prog 75 #[.slice a n n, .int .i64 (z : Int)] w fun e w' => e = .returned (.bool (mixZ cs (z : Int))) ∧ Below w.heap.size w w' := by
  have HK := Lib.hid (kinds_any a n cs z hcs hn hz w hc hT)
  have HM : Hid (mixZ cs (z : Int) = decide (1 < ((kindsOf (colsZ cs (z : Int))).length : Int))) := Lib.hid (by unfold mixZ; congr 1; simp only [eq_iff_iff]; omega)
  obtain ⟨K, hK⟩ : ∃ K, K = (kindsOf (colsZ cs (z : Int))).length := ⟨_, rfl⟩
  rw [← hK] at HK HM
  clear hc hT hcs hz hK
  by_cases h : 1 < (K : Int)
  · have HD : Hid (mixZ cs (z : Int) = true) := Lib.hid (by rw [HM.out, decide_eq_true h])
    go_enter Tryd.func75, Tryd.ntmps75
    go_wp2_with fail
    refine HK.out.mono ?_
    rintro e w1 ⟨rfl, hb⟩
    have HB := Lib.hid hb
    clear hb
    go_wp2
    go_ret
    exact ⟨by rw [HD.out]; rfl, HB.out⟩
  · have HD : Hid (mixZ cs (z : Int) = false) := Lib.hid (by rw [HM.out, decide_eq_false h])
    have h' : (K : Int) ≤ 1 := by omega
    go_enter Tryd.func75, Tryd.ntmps75
    go_wp2_with fail
    refine HK.out.mono ?_
    rintro e w1 ⟨rfl, hb⟩
    have HB := Lib.hid hb
    clear hb
    go_wp2
    go_ret
    exact ⟨by rw [HD.out]; simp; omega, HB.out⟩

set_option maxRecDepth 100000 in
set_option maxHeartbeats 2000000 in
theorem wrongM_any (a : Option Addr) (n : Nat) (cs : List Int) (z : Nat) (hcs : cs.length = n) (hn : n ≤ 6) (hz : z < 2 ^ n) (Bx Bl : Nat) (w : World) (hx : Boxed w Bx 73 (.func (.func 75) #[] #[])) (hl : Boxed w Bl 74 (.slice a n n)) (hc : Ints w w.heap.size a cs) (hT : Tab w) :
    Calls Tryd.prog 85 #[.int .i64 (z : Int), .pointer (some ⟨Bx, 0, none⟩), .pointer (some ⟨Bl, 0, none⟩)] w fun e w' => e = .returned (.bool (!mixZ cs (z : Int))) ∧ Below w.heap.size w w' := by
  have cx := hx.cell
  have cl := hl.cell
  have HM := Lib.hid (rightM_any a n cs z hcs hn hz w hc hT)
  clear hx hl hc hT
  cases hb : mixZ cs (z : Int)
  all_goals
    have HB := Lib.hid hb
    clear hb
    go_enter Tryd.func85, Tryd.ntmps85
    go_wp2_with fail
    refine HM.out.mono ?_
    rintro e w1 ⟨rfl, hb1⟩
    rw [HB.out]
    have HB1 := Lib.hid hb1
    clear hb1
    go_wp2
    go_ret
    exact ⟨rfl, HB1.out⟩

theorem all_noM {cs zs : List Int} {k : Nat} (hk : k < zs.length) (h : mixZ cs (zs[k]?.getD 0) = false) : zs.all (mixZ cs) = false := by
  rw [List.all_eq_false]
  refine ⟨zs[k], List.getElem_mem hk, ?_⟩
  rw [List.getElem?_eq_getElem hk, Option.getD_some] at h
  simp [h]

theorem all_yesM {cs zs : List Int} (h : ∀ j, j < zs.length → mixZ cs (zs[j]?.getD 0) = true) : zs.all (mixZ cs) = true := by
  rw [List.all_eq_true]
  intro z hz
  obtain ⟨j, hj, rfl⟩ := List.mem_iff_getElem.1 hz
  have := h j hj
  rwa [List.getElem?_eq_getElem hj, Option.getD_some] at this

set_option maxRecDepth 100000 in
set_option maxHeartbeats 2000000 in
theorem indexM_any (b : Option Addr) (c : Nat) (zs : List Int) (a : Option Addr) (n : Nat) (cs : List Int) (hcs : cs.length = n) (hn : n ≤ 6) (hz : Sets n zs) (hx8 : zs.length ≤ 1048576) (Bx Bl : Nat) (w : World) (hb : Ints w w.heap.size b zs) (hx : Boxed w Bx 73 (.func (.func 75) #[] #[])) (hl : Boxed w Bl 74 (.slice a n n)) (hc : Ints w w.heap.size a cs) (hT : Tab w) :
    Calls Tryd.prog 90 #[.slice b zs.length c, .func (.func 85) #[] #[.pointer (some ⟨Bx, 0, none⟩), .pointer (some ⟨Bl, 0, none⟩)]] w fun e w' =>
      ∃ r : Int, e = .returned (.int .i64 r) ∧ decide (0 ≤ r) = !(zs.all (mixZ cs)) ∧ Below w.heap.size w w' := by
  obtain ⟨N, hN⟩ : ∃ N, N = zs.length := ⟨_, rfl⟩
  have HN : Hid (N = zs.length) := Lib.hid hN
  have HI := Lib.hid hb
  have HW : Hid (∀ W (z : Nat), Below w.heap.size w W → z < 2 ^ n → Calls Tryd.prog 85 #[.int .i64 (z : Int), .pointer (some ⟨Bx, 0, none⟩), .pointer (some ⟨Bl, 0, none⟩)] W fun e w' => e = .returned (.bool (!mixZ cs (z : Int))) ∧ Below W.heap.size W w') := Lib.hid fun W z h hzz =>
    wrongM_any a n cs z hcs hn hzz Bx Bl W ((h.block _ hx.lt).trans hx) ((h.block _ hl.lt).trans hl) ((hc.below h).mono h.size) (hT.below h hT.lt)
  have HZ := Lib.hid hz
  rw [← hN]
  rw [← hN] at hx8
  clear hN hb hx hl hc hT hz
  go_enter Tryd.func90, Tryd.ntmps90
  go_wp2
  go_loopw [5, 8] (fun _ i wr => ∃ k : Nat, k ≤ N ∧ i = .int .i64 k ∧ Hid ((∀ j, j < k → mixZ cs (zs[j]?.getD 0) = true) ∧ Below w.heap.size w wr)) (fun _ i _ => N - (intOf i).toNat)
  case atStart => exact ⟨0, Nat.zero_le _, rfl, Lib.hid ⟨fun j hj => by omega, Below.refl _ _⟩⟩
  case round =>
    obtain ⟨k, hk, rfl, HE⟩ := hrel
    by_cases hlt : k < N
    · have hki : (k : Int) < (N : Int) := by omega
      have hk0 : (0 : Int) ≤ (k : Int) := by omega
      obtain ⟨b1, o1, rfl, hb1, hc⟩ := (HI.out.below HE.out.2).at_ (k := k) (by rw [← HN.out]; exact hlt)
      obtain ⟨z, hzz⟩ : ∃ z : Nat, zs[k]?.getD 0 = (z : Int) := ⟨(zs[k]?.getD 0).toNat, by have := (HZ.out _ (at_in (xs := zs) (k := k) (by rw [← HN.out]; exact hlt))).1; omega⟩
      have hzn : z < 2 ^ n := by
        have := (HZ.out _ (at_in (xs := zs) (k := k) (by rw [← HN.out]; exact hlt))).2
        rw [hzz, Int.toNat_natCast] at this
        exact this
      have HC := Lib.hid (HW.out wr z HE.out.2 hzn)
      have HZZ := Lib.hid hzz
      rw [hzz] at hc
      clear hzz
      cases hf : mixZ cs (z : Int)
      · have HF := Lib.hid hf
        clear hf
        go_wp2_with fail
        refine HC.out.mono ?_
        rintro e w3 ⟨rfl, hb3⟩
        rw [HF.out]
        have HB3 := Lib.hid (HE.out.2.trans (hb3.mono HE.out.2.size))
        clear hb3
        go_wp2
        go_ret
        exact ⟨_, rfl, by rw [all_noM (k := k) (by rw [← HN.out]; exact hlt) (by rw [HZZ.out]; exact HF.out)]; simp, HB3.out⟩
      · have HF := Lib.hid hf
        clear hf
        go_wp2_with fail
        refine HC.out.mono ?_
        rintro e w3 ⟨rfl, hb3⟩
        rw [HF.out]
        have HR : Hid ((∀ j, j < k + 1 → mixZ cs (zs[j]?.getD 0) = true) ∧ Below w.heap.size w w3) := Lib.hid ⟨fun j hj => by
          rcases Nat.lt_succ_iff_lt_or_eq.1 hj with h | rfl
          · exact HE.out.1 j h
          · rw [HZZ.out]; exact HF.out, HE.out.2.trans (hb3.mono HE.out.2.size)⟩
        clear hb3
        go_wp2
        go_roundw
        case rel => exact ⟨k + 1, by omega, by go_num, HR⟩
        case measure => simp [intOf]; omega
    · obtain rfl : k = N := by omega
      go_wp2
      go_ret
      exact ⟨_, rfl, by rw [all_yesM (by rw [← HN.out]; exact HE.out.1)]; decide, HE.out.2⟩

set_option maxRecDepth 100000 in
set_option maxHeartbeats 1600000 in
theorem containsM_any (b : Option Addr) (c : Nat) (zs : List Int) (a : Option Addr) (n : Nat) (cs : List Int) (hcs : cs.length = n) (hn : n ≤ 6) (hz : Sets n zs) (hx8 : zs.length ≤ 1048576) (Bx Bl : Nat) (w : World) (hb : Ints w w.heap.size b zs) (hx : Boxed w Bx 73 (.func (.func 75) #[] #[])) (hl : Boxed w Bl 74 (.slice a n n)) (hc : Ints w w.heap.size a cs) (hT : Tab w) :
    Calls Tryd.prog 68 #[.slice b zs.length c, .func (.func 85) #[] #[.pointer (some ⟨Bx, 0, none⟩), .pointer (some ⟨Bl, 0, none⟩)]] w fun e w' =>
      e = .returned (.bool (!(zs.all (mixZ cs)))) ∧ Below w.heap.size w w' := by
  have H := Lib.hid (indexM_any b c zs a n cs hcs hn hz hx8 Bx Bl w hb hx hl hc hT)
  clear hb hx hl hc hT hcs hz
  go_enter Tryd.func68, Tryd.ntmps68
  go_wp2_with fail
  refine H.out.mono ?_
  rintro e w1 ⟨r, rfl, hr, hb1⟩
  have HR := Lib.hid hr
  have HB := Lib.hid hb1
  clear hr hb1
  by_cases h : 0 ≤ r
  · go_wp2
    go_ret
    exact ⟨by rw [← HR.out, decide_eq_true h]; rfl, HB.out⟩
  · have h' : r < 0 := by omega
    go_wp2
    go_ret
    exact ⟨by rw [← HR.out]; rfl, HB.out⟩

end Go.Proofs.YtfhhfilkabjhaaaDoor
