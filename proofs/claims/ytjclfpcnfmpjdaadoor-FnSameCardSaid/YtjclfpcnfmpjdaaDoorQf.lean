/- It is proved that the call of the law FnSame returns true; conditions: those of each statement. -/
import Derived.RowKit
import Derived.Laws.CopyRow
import Derived.Lib.SlBuf
import Derived.Deep.QuietTactic
import Derived.RangeFuncNested
import Derived.RangeFuncBound
import Derived.RangeFuncCalls
import Derived.RangeFuncLeaves
import Derived.RangeFuncBox
import Derived.RangeFuncWrites
import Derived.StillTailTactics
import Derived.Maps.OwnIn
import Derived.Maps.Ext
import Derived.DeepKeys4
import Derived.MapKept
import Derived.Test.YtjclfpcnfmpjdaaDoorRows
import Derived.WalkKit
import Derived.WalkSpells
import Derived.ProofKit
import Derived.OpenShut
import Derived.ShutString
import Derived.ChangeOld
import Derived.Below
import Derived.Deep.RegionHeld3
import Derived.BigQuiet
import Derived.Lib.Hide
import Derived.Lib.SmallJoins
import Derived.Outline
import Derived.Laws.MakeOwn
import Derived.Laws.OwnMore
import Derived.IntWalk
import Derived.Maps.AppendAt
import Derived.Sort.MapsRangeIn
import Derived.Deep.RegionLaw
import Derived.Deep.AppendLies
import Derived.Lib.AppendZeros
import Derived.OwnWalk
import Derived.Lib.SlicesCompact
import Derived.Lib.OwnBridge
import Derived.OrdersIn
import Derived.TacticsIn
import Derived.Shelf.Sort.Plain
import Derived.Shelf.Slices.In.SortNone
import Derived.Shelf.Slices.CompactI
import Derived.Ground.Names2Prog
import Derived.Shelf.Abstract
import Derived.Shelf.RegionOpen
import Derived.OwnWalkIn
import Derived.TacticsInMore
import Derived.LoopNIn
import Derived.LoopIn
import Derived.StillTail
import Derived.StillTactics
import Derived.Shelf.Spec.TrailingZeros
import Derived.Test.YtjclfpcnfmpjdaaDoorMpb
import Derived.Test.YtjclfpcnfmpjdaaDoorBg
import Derived.Test.YtjclfpcnfmpjdaaDoorMpa
import Derived.Test.YtjclfpcnfmpjdaaDoorFb
import Derived.Test.YtjclfpcnfmpjdaaDoorQa
import Derived.Test.YtjclfpcnfmpjdaaDoorQe
import Derived.Test.YtjclfpcnfmpjdaaDoorY
namespace Go.Proofs.YtjclfpcnfmpjdaaDoor
open Go.RowKit

def facN (k : Nat) : Nat := ([1, 1, 2, 6, 24, 120, 720] : List Nat)[k]?.getD 1
set_option maxRecDepth 100000 in
set_option maxHeartbeats 1600000 in
theorem factorial_any (n : Nat) (h1 : 1 ≤ n) (h6 : n ≤ 6) (w : World) :
    Calls Tryd.prog 29 #[.int .i64 (n : Int)] w fun e w' => e = .returned (.int .i64 ((facN n : Nat) : Int)) ∧ w = w' := by
  go_enter Tryd.func29, Tryd.ntmps29
  go_wp2
  go_loop [3, 4] (fun o k => ∃ (j : Nat) (f : Int), j + 1 ≤ n ∧ k = .int .i64 ((j : Int) + 2) ∧ f = ((facN (j + 1) : Nat) : Int) ∧ o = .int .i64 f) (fun _ k => 9 - (intOf k).toNat)
  case atStart => exact ⟨0, 1, by omega, rfl, rfl, rfl⟩
  case round =>
    obtain ⟨j, f, hj, rfl, hf, rfl⟩ := hrel
    by_cases hlt : j + 2 ≤ n
    · have hle : (j : Int) + 2 ≤ (n : Int) := by omega
      obtain rfl | rfl | rfl | rfl | rfl : j = 0 ∨ j = 1 ∨ j = 2 ∨ j = 3 ∨ j = 4 := by omega
      all_goals
        simp only [facN, List.getElem?_cons_succ, List.getElem?_cons_zero, Option.getD_some, Nat.reduceAdd] at hf
        subst hf
        go_wp2
        go_round
        case rel => first | exact ⟨1, _, by omega, by go_num, rfl, rfl⟩ | exact ⟨2, _, by omega, by go_num, rfl, rfl⟩ | exact ⟨3, _, by omega, by go_num, rfl, rfl⟩ | exact ⟨4, _, by omega, by go_num, rfl, rfl⟩ | exact ⟨5, _, by omega, by go_num, rfl, rfl⟩
        case measure => simp [intOf]
    · obtain rfl : n = j + 1 := by omega
      have hle : ¬ ((j : Int) + 2 ≤ ((j + 1 : Nat) : Int)) := by omega
      have HF := Lib.hid hf
      clear hf
      go_wp2
      go_ret
      exact ⟨by rw [← HF.out]; rfl, rfl⟩

set_option maxRecDepth 100000 in
set_option maxHeartbeats 8000000 in
theorem walkFnSame (a : Option Addr) (n cap : Nat) (w : World) (hb : Bys w w.heap.size a n) (hT : Tab w) (hn : n ≤ 1048576) (hc : n ≤ cap) (hc2 : cap ≤ 9223372036854775807) :
    Calls Tryd.prog 6 #[.slice a n cap] w fun e w' => e = .returned (.bool true) ∧ Below w.heap.size w w' := by
  have HBy := Lib.hid hb
  have HT := Lib.hid hT
  clear hb hT
  go_enter Tryd.func6, Tryd.ntmps6
  go_wp2_with fail
  refine (drawAlikeSame_any a n cap w HBy.out hn hc hc2).mono ?_
  rintro e w1 ⟨m, a1, zs, c1, rfl, hl, ho1, hb1⟩
  have F1 := FB.start (m := m) (c := c1) (own_ints ho1)
  have B1 := Lib.hid (hb1.trans ((below1 w1 (.cells #[.int .i64 m, .slice a1 zs.length c1] 25)).mono hb1.size))
  have hln : zs.length ≤ 1048576 := by omega
  have f_1 := Lib.hid F1
  clear F1 ho1 hb1
  obtain ⟨s, hs⟩ : ∃ s, s = sameZ m zs := ⟨_, rfl⟩
  have HS := Lib.hid hs
  clear hs
  have x0 := f_1.out.x0
  have x1 := f_1.out.x1
  go_wp2_with fail
  refine (implSame_any m a1 c1 zs _ f_1.out.ints (HT.out.below B1.out HT.out.lt) hln).mono ?_
  rw [← HS.out]
  rintro e w2 ⟨rfl, hb2⟩
  have B2 := Lib.hid (B1.out.trans (hb2.mono B1.out.size))
  have f_2 := Lib.hid (f_1.out.step hb2)
  clear hb2 B1 f_1 x0 x1
  have x0 := f_2.out.x0
  have x1 := f_2.out.x1
  go_wp2_with fail
  refine (specSame_any m a1 c1 zs _ f_2.out.ints hln).mono ?_
  rw [← HS.out]
  rintro e w3 ⟨rfl, hb3⟩
  have B3 := Lib.hid (B2.out.trans (hb3.mono B2.out.size))
  have f_3 := Lib.hid (f_2.out.step hb3)
  clear hb3 B2 f_2 x0 x1
  cases hd : famIn m zs
  · clear hd HS
    go_wp2
    go_ret
    exact ⟨rfl, B3.out⟩
  · have HD := Lib.hid hd
    have hm1 : 1 ≤ m := (famIn_out hd).1
    have hm6 : m ≤ 6 := (famIn_out hd).2.1
    clear hd
    obtain ⟨k, rfl⟩ : ∃ k : Nat, m = (k : Int) := ⟨m.toNat, by omega⟩
    obtain ⟨M, hM⟩ : ∃ M, M = otherM (k : Int) zs := ⟨_, rfl⟩
    obtain ⟨ys, hys⟩ : ∃ ys, ys = otherZ (k : Int) zs := ⟨_, rfl⟩
    have hyl : ys.length ≤ 1048576 := by rw [hys]; exact otherZ_len _ zs hln
    have HF : Hid (M = (k : Int) ∧ famIn (k : Int) ys = true ∧ sameZ (k : Int) ys = s ∧ 1 ≤ s ∧ s ≤ 720 ∧ ((facN k : Nat) : Int).tmod s = 0) := Lib.hid (by rw [hM, hys, HS.out]; exact same_facts HD.out)
    have HM := Lib.hid hM
    have HY := Lib.hid hys
    have hs1 := HF.out.2.2.2.1
    have hs720 := HF.out.2.2.2.2.1
    have hrem := HF.out.2.2.2.2.2
    have hs0 : (s == 0) = false := by simp; omega
    clear hM hys
    have x0 := f_3.out.x0
    have x1 := f_3.out.x1
    go_wp2_with fail
    refine (implOther_any (k : Int) a1 c1 zs _ f_3.out.ints hln).mono ?_
    rw [← HM.out, ← HY.out, HD.out, HF.out.1]
    rintro e w4 ⟨a4, c4, rfl, ho4, hb4⟩
    have F4 := FB.start (m := (k : Int)) (c := c4) (own_ints ho4)
    have hb4x := hb4.trans ((below1 w4 (.cells #[.int .i64 (k : Int), .slice a4 ys.length c4] 25)).mono hb4.size)
    have B4 := Lib.hid (B3.out.trans (hb4x.mono B3.out.size))
    have f_4 := Lib.hid (f_3.out.step hb4x)
    have g_4 := Lib.hid F4
    clear F4 ho4 hb4 hb4x B3 f_3 x0 x1
    have y0 := g_4.out.x0
    have y1 := g_4.out.x1
    go_wp2_with fail
    refine (implSame_any (k : Int) a4 c4 ys _ g_4.out.ints (HT.out.below B4.out HT.out.lt) hyl).mono ?_
    rw [HF.out.2.2.1, HF.out.2.1]
    rintro e w5 ⟨rfl, hb5⟩
    have B5 := Lib.hid (B4.out.trans (hb5.mono B4.out.size))
    have f_5 := Lib.hid (f_4.out.step hb5)
    clear hb5 B4 f_4 g_4 y0 y1
    have x0 := f_5.out.x0
    clear f_5
    go_wp2_with fail
    refine (factorial_any k (by omega) (by omega) _).mono ?_
    rintro e w6 ⟨rfl, rfl⟩
    go_wp2
    go_ret
    exact ⟨rfl, B5.out⟩

end Go.Proofs.YtjclfpcnfmpjdaaDoor
