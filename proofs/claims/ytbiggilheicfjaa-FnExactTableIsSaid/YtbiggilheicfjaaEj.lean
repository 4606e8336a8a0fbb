/- It is proved that the call of the law FnExactTableIs returns true, given what the two functions return; conditions: those of each statement. -/
import Derived.Test.YtbiggilheicfjaaRows
import Derived.WalkKit
import Derived.WalkSpells
import Derived.ProofKit
import Derived.OpenShut
import Derived.ShutString
import Derived.ChangeOld
import Derived.Below
import Derived.Deep.RegionHeld3
import Derived.Deep.QuietTactic
import Derived.BigQuiet
import Derived.Lib.Hide
import Derived.Lib.SmallJoins
import Derived.Outline
import Derived.Laws.MakeOwn
import Derived.Laws.OwnMore
import Derived.IntWalk
import Derived.RangeFuncNested
import Derived.RangeFuncBound
import Derived.RangeFuncCalls
import Derived.RangeFuncLeaves
import Derived.RangeFuncBox
import Derived.Shelf.Abstract
import Derived.Shelf.RegionOpen
import Derived.OwnWalkIn
import Derived.TacticsInMore
import Derived.LoopNIn
import Derived.LoopIn
import Derived.Maps.AppendAt
import Derived.Deep.AppendLies
import Derived.OwnWalk
import Derived.Test.YtbiggilheicfjaaB
import Derived.Test.YtbiggilheicfjaaE
import Derived.Test.YtbiggilheicfjaaEe
import Derived.Test.YtbiggilheicfjaaZd
namespace Go.Proofs.Ytbiggilheicfjaa
open Go.RowKit

set_option maxRecDepth 100000 in
set_option maxHeartbeats 4000000 in
theorem walkTableIs (a b : Option Addr) (cap dap : Nat) (zs ps : List Int) (r : Bool) (w : World) (ha : Ints w w.heap.size a zs) (hb : Ints w w.heap.size b ps) (hn : zs.length ≤ 1048576) (hp : ps.length ≤ 1048576)
    (hS : ∀ a cap b dap W, Ints W W.heap.size a zs → Ints W W.heap.size b ps → Calls Try.prog 5 #[.slice a zs.length cap, .slice b ps.length dap] W fun e W' => e = .returned (.bool r) ∧ Below W.heap.size W W')
    (hI : ∀ a cap b dap W, Ints W W.heap.size a zs → Ints W W.heap.size b ps → Calls Try.prog 7 #[.slice a zs.length cap, .slice b ps.length dap] W fun e W' => e = .returned (.bool r) ∧ Below W.heap.size W W') :
    Calls Try.prog 3 #[.slice a zs.length cap, .slice b ps.length dap] w fun e w' => e = .returned (.bool true) ∧ Below w.heap.size w w' := by
  have HS := Lib.hid hS
  have HI := Lib.hid hI
  have OL : Hid (∀ W, Below w.heap.size w W → Ints W W.heap.size a zs) := Lib.hid (fun W h => (ha.below h).mono h.size)
  have OP : Hid (∀ W, Below w.heap.size w W → Ints W W.heap.size b ps) := Lib.hid (fun W h => (hb.below h).mono h.size)
  have S0 : Below w.heap.size w w := Below.refl _ _
  clear hS hI ha hb
  cases r
  all_goals
    go_enter Try.func3, Try.ntmps3
    go_wp2_with fail
    refine (toIntS_any _ _ zs _ (OL.out _ S0) hn).mono ?_
    rintro e w1 ⟨a1, c1, rfl, ho1, hb1⟩
    have A1 := XO.start ho1
    have S1 := bel_step S0 hb1
    clear S0 hb1 ho1
    go_wp2_with fail
    refine (toIntS_any _ _ ps _ (OP.out _ S1) hp).mono ?_
    rintro e w2 ⟨a2, c2, rfl, ho2, hb2⟩
    have A2 := A1.step hb2
    have B2 := XO.start ho2
    have S2 := bel_step S1 hb2
    clear S1 A1 hb2 ho2
    go_wp2_with fail
    refine (HS.out _ _ _ _ _ A2.ints B2.ints).mono ?_
    rintro e w3 ⟨rfl, hb3⟩
    have S3 := bel_step S2 hb3
    clear S2 A2 B2 hb3
    go_wp2_with fail
    refine (toIntS_any _ _ zs _ (OL.out _ S3) hn).mono ?_
    rintro e w4 ⟨a4, c4, rfl, ho4, hb4⟩
    have A4 := XO.start ho4
    have S4 := bel_step S3 hb4
    clear S3 hb4 ho4
    go_wp2_with fail
    refine (toIntS_any _ _ ps _ (OP.out _ S4) hp).mono ?_
    rintro e w5 ⟨a5, c5, rfl, ho5, hb5⟩
    have A5 := A4.step hb5
    have B5 := XO.start ho5
    have S5 := bel_step S4 hb5
    clear S4 A4 hb5 ho5
    go_wp2_with fail
    refine (HI.out _ _ _ _ _ A5.ints B5.ints).mono ?_
    rintro e w6 ⟨rfl, hb6⟩
    have A6 := A5.step hb6
    have B6 := B5.step hb6
    have S6 := bel_step S5 hb6
    clear S5 A5 B5 hb6
    go_wp2_with fail
    refine (toIntS_any _ _ zs _ (OL.out _ S6) hn).mono ?_
    rintro e w7 ⟨a7, c7, rfl, ho7, hb7⟩
    have A7 := A6.step hb7
    have B7 := B6.step hb7
    have C7 := XO.start ho7
    have S7 := bel_step S6 hb7
    clear S6 A6 B6 hb7 ho7
    go_wp2_with fail
    refine (eqIntS_any _ _ _ _ zs zs _ A7.ints C7.ints hn hn).mono ?_
    rintro e w8 ⟨rfl, hb8⟩
    rw [sameB_self]
    have B8 := B7.step hb8
    have S8 := bel_step S7 hb8
    clear S7 A7 B7 C7 hb8
    go_wp2_with fail
    refine (toIntS_any _ _ ps _ (OP.out _ S8) hp).mono ?_
    rintro e w9 ⟨a9, c9, rfl, ho9, hb9⟩
    have B9 := B8.step hb9
    have C9 := XO.start ho9
    have S9 := bel_step S8 hb9
    clear S8 B8 hb9 ho9
    go_wp2_with fail
    refine (eqIntS_any _ _ _ _ ps ps _ B9.ints C9.ints hp hp).mono ?_
    rintro e w10 ⟨rfl, hb10⟩
    rw [sameB_self]
    have HD := Lib.hid (bel_step S9 hb10)
    clear S9 B9 C9 hb10
    go_wp2
    go_ret
    exact ⟨rfl, HD.out⟩

end Go.Proofs.Ytbiggilheicfjaa
