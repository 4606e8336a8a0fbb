/- It is proved that the call of the law FnExactTableSteps returns true, given what the two functions return; conditions: those of each statement. -/
import Derived.Test.YtbiggilheicfjaaRows
import Derived.WalkKit
import Derived.WalkSpells
import Derived.ProofKit
import Derived.OpenShut
import Derived.ShutString
import Derived.ChangeOld
import Derived.Below
import Derived.Deep.RegionHeld3
import Derived.Deep.QuietTactic
import Derived.BigQuiet
import Derived.Lib.Hide
import Derived.Lib.SmallJoins
import Derived.Outline
import Derived.Laws.MakeOwn
import Derived.Laws.OwnMore
import Derived.IntWalk
import Derived.RangeFuncNested
import Derived.RangeFuncBound
import Derived.RangeFuncCalls
import Derived.RangeFuncLeaves
import Derived.RangeFuncBox
import Derived.Shelf.Abstract
import Derived.Shelf.RegionOpen
import Derived.OwnWalkIn
import Derived.TacticsInMore
import Derived.LoopNIn
import Derived.LoopIn
import Derived.Maps.AppendAt
import Derived.Deep.AppendLies
import Derived.OwnWalk
import Derived.Test.YtbiggilheicfjaaB
import Derived.Test.YtbiggilheicfjaaE
import Derived.Test.YtbiggilheicfjaaH
import Derived.Test.YtbiggilheicfjaaK
import Derived.Test.YtbiggilheicfjaaZb
import Derived.Test.YtbiggilheicfjaaZd
namespace Go.Proofs.Ytbiggilheicfjaa
open Go.RowKit

theorem bel_step {w W W' : World} (h : Below w.heap.size w W) (hb : Below W.heap.size W W') : Below w.heap.size w W' := h.trans (hb.mono h.size)
theorem bel_kept {w W W' : World} {row : Option Nat} (h : Below w.heap.size w W) (hg : W.grownBy W' row) (hr : ∀ g, row = some g → w.heap.size ≤ g) : Below w.heap.size w W' := h.grown hg h.size hr
set_option maxRecDepth 100000 in
set_option maxHeartbeats 4000000 in
theorem walkTableSteps (a : Option Addr) (cap : Nat) (zs : List Int) (zs' : List Int) (ok : Bool) (w : World) (ha : Ints w w.heap.size a zs) (hn : zs.length ≤ 1048576) (hn' : zs'.length ≤ 1048576)
    (hS : ∀ a cap W, Ints W W.heap.size a zs → Calls Try.prog 9 #[.slice a zs.length cap] W (RetSB W zs' ok))
    (hI : ∀ a cap W, Ints W W.heap.size a zs → Calls Try.prog 10 #[.slice a zs.length cap] W (RetSB W zs' ok)) :
    Calls Try.prog 4 #[.slice a zs.length cap] w fun e w' => e = .returned (.bool true) ∧ Below w.heap.size w w' := by
  have HS := Lib.hid hS
  have HI := Lib.hid hI
  have OL : Hid (∀ W, Below w.heap.size w W → Ints W W.heap.size a zs) := Lib.hid (fun W h => (ha.below h).mono h.size)
  have S0 : Below w.heap.size w w := Below.refl _ _
  clear hS hI ha
  cases ok
  all_goals
    go_enter Try.func4, Try.ntmps4
    go_wp2_with fail
    refine (toIntS_any _ _ zs _ (OL.out _ S0) hn).mono ?_
    rintro e w1 ⟨a1, c1, rfl, ho1, hb1⟩
    have S1 := bel_step S0 hb1
    clear S0 hb1
    go_wp2_with fail
    refine (HS.out _ _ _ (own_ints ho1)).mono ?_
    rintro e w2 ⟨a2, c2, rfl, ho2, hb2⟩
    have P2 := XO.start ho2
    have S2 := bel_step S1 hb2
    clear S1 hb2 ho1 ho2
    go_wp2_with fail
    refine (toIntS_any _ _ zs _ (OL.out _ S2) hn).mono ?_
    rintro e w4 ⟨a4, c4, rfl, ho4, hb4⟩
    have X4 := XO.start ho4
    have P4 := P2.step hb4
    have S4 := bel_step S2 hb4
    have s2 := S2.size
    have z24 := hb4.size
    clear S2 P2 hb4 ho4
    go_wp2_with fail
    refine (HI.out _ _ _ X4.ints).mono ?_
    rintro e w6 ⟨a6, c6, rfl, ho6, hb6⟩
    have G6 := XO.start ho6
    have P6 := P4.step hb6
    have X6 := X4.step hb6
    have S6 := bel_step S4 hb6
    have s4 := S4.size
    have l4 := X4.size
    clear S4 P4 X4 hb6 ho6
    go_wp2_with fail
    refine (eqIntS_any _ _ _ _ zs' zs' _ G6.ints P6.ints hn' hn').mono ?_
    rintro e w8 ⟨rfl, hb8⟩
    rw [sameB_self]
    have P8 := P6.step hb8
    have X8 := X6.step hb8
    have G8 := G6.step hb8
    have S8 := bel_step S6 hb8
    clear P6 X6 G6 S6 hb8
    go_wp2_with fail
    refine (toIntS_any _ _ zs _ (OL.out _ S8) hn).mono ?_
    rintro e w9 ⟨a9, c9, rfl, ho9, hb9⟩
    have P9 := P8.step hb9
    have X9 := X8.step hb9
    have G9 := G8.step hb9
    have S9 := bel_step S8 hb9
    clear P8 X8 G8 S8 hb9
    go_wp2_with fail
    refine (eqIntS_any _ _ _ _ zs zs _ X9.ints (own_ints ho9) hn hn).mono ?_
    rintro e w10 ⟨rfl, hb10⟩
    rw [sameB_self]
    have P10 := P9.step hb10
    have X10 := X9.step hb10
    have G10 := G9.step hb10
    have S10 := bel_step S9 hb10
    clear P9 X9 G9 S9 hb10 ho9
    go_wp2_with fail
    refine (markIntS_any _ _ _ zs _ X10.ownI hn).mono ?_
    rintro e w11 ⟨rfl, ho11, hg11⟩
    have r11 := X10.rng
    have S11 := bel_kept S10 hg11 (fun g e => by have := r11 g e; omega)
    have P11 := P10.kept hg11 (fun g e => by have := r11 g e; omega)
    have G11 := G10.kept hg11 (fun g e => by have := r11 g e; omega)
    clear S10 P10 G10 X10 ho11 hg11 r11
    go_wp2_with fail
    refine (eqIntS_any _ _ _ _ zs' zs' _ G11.ints P11.ints hn' hn').mono ?_
    rintro e w12 ⟨rfl, hb12⟩
    rw [sameB_self]
    have P12 := P11.step hb12
    have G12 := G11.step hb12
    have S12 := bel_step S11 hb12
    clear P11 G11 S11 hb12
    go_wp2_with fail
    refine (markIntS_any _ _ _ zs' _ G12.ownI hn').mono ?_
    rintro e w13 ⟨rfl, ho13, hg13⟩
    have r13 := G12.rng
    have S13 := bel_kept S12 hg13 (fun g e => by have := r13 g e; omega)
    have P13 := P12.kept hg13 (fun g e => by have := r13 g e; omega)
    have G13 := G12.marked ho13 hg13
    clear S12 P12 G12 ho13 hg13 r13
    go_wp2_with fail
    refine (heldIntS_any _ _ _ _ _ G13.ints hn').mono ?_
    rintro e w14 ⟨rfl, rfl⟩
    go_wp2_with fail
    refine (toIntS_any _ _ zs _ (OL.out _ S13) hn).mono ?_
    rintro e w15 ⟨a15, c15, rfl, ho15, hb15⟩
    have P15 := P13.step hb15
    have G15 := G13.step hb15
    have S15 := bel_step S13 hb15
    clear P13 G13 S13 hb15
    go_wp2_with fail
    refine (HI.out _ _ _ (own_ints ho15)).mono ?_
    rintro e w16 ⟨a16, c16, rfl, ho16, hb16⟩
    have P16 := P15.step hb16
    have G16 := G15.step hb16
    have S16 := bel_step S15 hb16
    have H16 := XO.start ho16
    clear P15 G15 S15 hb16 ho15 ho16
    go_wp2_with fail
    refine (eqIntS_any _ _ _ _ zs' zs' _ H16.ints P16.ints hn' hn').mono ?_
    rintro e w18 ⟨rfl, hb18⟩
    rw [sameB_self]
    have G18 := G16.step hb18
    have S18 := bel_step S16 hb18
    clear P16 G16 S16 H16 hb18
    go_wp2_with fail
    refine (heldIntS_any _ _ _ _ _ G18.ints hn').mono ?_
    rintro e w19 ⟨rfl, rfl⟩
    have HD := Lib.hid S18
    clear G18 S18
    go_wp2
    go_ret
    exact ⟨rfl, HD.out⟩

end Go.Proofs.Ytbiggilheicfjaa
