/- It is proved what TableMany returns, of both sides, and that the call of the law FnExactTableMany returns true, given what the two functions return; conditions: those of each statement. -/
import Derived.RowKit
import Derived.Laws.CopyRow
import Derived.Lib.SlBuf
import Derived.Deep.QuietTactic
import Derived.RangeFuncNested
import Derived.RangeFuncBound
import Derived.RangeFuncCalls
import Derived.RangeFuncLeaves
import Derived.RangeFuncBox
import Derived.RangeFuncWrites
import Derived.StillTailTactics
import Derived.Maps.OwnIn
import Derived.Maps.Ext
import Derived.DeepKeys4
import Derived.MapKept
import Derived.Test.YtbiggilheicfjaaDoorRows
import Derived.WalkKit
import Derived.WalkSpells
import Derived.ProofKit
import Derived.OpenShut
import Derived.ShutString
import Derived.ChangeOld
import Derived.Below
import Derived.Deep.RegionHeld3
import Derived.BigQuiet
import Derived.Lib.Hide
import Derived.Lib.SmallJoins
import Derived.Outline
import Derived.Laws.MakeOwn
import Derived.Laws.OwnMore
import Derived.IntWalk
import Derived.Maps.AppendAt
import Derived.Sort.QuietIn
import Derived.Lib.AppendZeros
import Derived.Deep.AppendLies
import Derived.OwnWalk
import Derived.Lib.SlicesCompact
import Derived.Lib.OwnBridge
import Derived.OrdersIn
import Derived.TacticsIn
import Derived.Shelf.Sort.Plain
import Derived.Shelf.Slices.In.SortNone
import Derived.Shelf.Slices.CompactI
import Derived.Ground.Names2Prog
import Derived.Shelf.Abstract
import Derived.Shelf.RegionOpen
import Derived.OwnWalkIn
import Derived.TacticsInMore
import Derived.LoopNIn
import Derived.LoopIn
import Derived.StillTail
import Derived.StillTactics
import Derived.Shelf.Spec.TrailingZeros
import Derived.Test.YtbiggilheicfjaaDoorMva
import Derived.Test.YtbiggilheicfjaaDoorEe
import Derived.Test.YtbiggilheicfjaaDoorEl
import Derived.Test.YtbiggilheicfjaaDoorEt
import Derived.Test.YtbiggilheicfjaaDoorEu
import Derived.Test.YtbiggilheicfjaaDoorT
import Derived.Test.YtbiggilheicfjaaDoorZd
namespace Go.Proofs.YtbiggilheicfjaaDoor
open Go.RowKit

def manyZ (zs ds : List Int) : Int := if tabIn zs ds then ((cntL zs ds : Nat) : Int) else 0
set_option maxRecDepth 100000 in
set_option maxHeartbeats 1000000 in
theorem specMany_any (za da : Option Addr) (zc dc : Nat) (zs ds : List Int) (w : World) (ha : Ints w w.heap.size za zs) (hb : Ints w w.heap.size da ds) (hc : zs.length ≤ zc) (hx : zs.length ≤ 1048576) (hy : ds.length ≤ 1048576) :
    Calls Tryd.prog 25 #[.slice za zs.length zc, .slice da ds.length dc] w fun e w' => e = .returned (.tuple #[.int .i64 (manyZ zs ds), .bool (tabIn zs ds)]) ∧ Below w.heap.size w w' := by
  unfold manyZ
  cases hf : tabIn zs ds
  · have HF := Lib.hid hf
    go_enter Tryd.func25, Tryd.ntmps25
    go_wp2_with fail
    refine (given_any za da zc dc zs ds _ ha hb hx hy).mono ?_
    rintro e w1 ⟨rfl, rfl⟩
    rw [HF.out]
    go_wp2
    go_ret2
    exact ⟨rfl, Below.refl _ _⟩
  · have HF := Lib.hid hf
    obtain ⟨hz, hd⟩ := tabIn_out hf
    obtain ⟨hz5, -⟩ := numIn_out hz
    obtain ⟨hd1, hd5, hd05⟩ := degIn_out hd
    have HC := Lib.hid (count_any zs hz5 za zc ds da dc w ha hc hb hd5 hd05)
    have HG := Lib.hid (given_any za da zc dc zs ds w ha hb hx hy)
    clear hf hz hd hz5 hd1 hd5 hd05 ha hb
    go_enter Tryd.func25, Tryd.ntmps25
    go_wp2_with fail
    refine HG.out.mono ?_
    rintro e w1 ⟨rfl, rfl⟩
    rw [HF.out]
    go_wp2_with fail
    refine HC.out.mono ?_
    rintro e w2 ⟨rfl, hb2⟩
    have HB2 := Lib.hid hb2
    clear hb2
    go_wp2
    go_ret2
    exact ⟨rfl, HB2.out⟩

theorem implMany_any (za da : Option Addr) (zc dc : Nat) (zs ds : List Int) (w : World) (ha : Ints w w.heap.size za zs) (hb : Ints w w.heap.size da ds) (hT : Tab w) (hx : zs.length ≤ 1048576) (hy : ds.length ≤ 1048576) :
    Calls Tryd.prog 17 #[.slice za zs.length zc, .slice da ds.length dc] w fun e w' => e = .returned (.tuple #[.int .i64 (manyZ zs ds), .bool (tabIn zs ds)]) ∧ Below w.heap.size w w' := by
  unfold manyZ
  cases hf : tabIn zs ds
  · exact implMany_no za da zc dc zs ds w ha hb hx hy hf
  · obtain ⟨hz, hd⟩ := tabIn_out hf
    obtain ⟨hz5, -⟩ := numIn_out hz
    obtain ⟨hd1, hd5, hd05⟩ := degIn_out hd
    have h := implMany_yes za da zc dc zs ds w ha hb hT hx hy hf
    unfold tabN at h
    rw [tabs_cnt zs ds hz5 hd5 hd05] at h
    exact h

set_option maxRecDepth 100000 in
set_option maxHeartbeats 4000000 in
theorem walkTableMany (a b : Option Addr) (cap dap : Nat) (zs ps : List Int) (q : Int) (r : Bool) (w : World) (ha : Ints w w.heap.size a zs) (hb : Ints w w.heap.size b ps) (hn : zs.length ≤ 1048576) (hp : ps.length ≤ 1048576)
    (hS : ∀ a cap b dap W, Ints W W.heap.size a zs → Ints W W.heap.size b ps → zs.length ≤ cap → Calls Tryd.prog 25 #[.slice a zs.length cap, .slice b ps.length dap] W fun e W' => e = .returned (.tuple #[.int .i64 q, .bool r]) ∧ Below W.heap.size W W')
    (hT : Tab w) (hI : ∀ a cap b dap W, Ints W W.heap.size a zs → Ints W W.heap.size b ps → Tab W → Calls Tryd.prog 17 #[.slice a zs.length cap, .slice b ps.length dap] W fun e W' => e = .returned (.tuple #[.int .i64 q, .bool r]) ∧ Below W.heap.size W W') :
    Calls Tryd.prog 9 #[.slice a zs.length cap, .slice b ps.length dap] w fun e w' => e = .returned (.bool true) ∧ Below w.heap.size w w' := by
  have HS := Lib.hid hS
  have HI := Lib.hid hI
  have OL : Hid (∀ W, Below w.heap.size w W → Ints W W.heap.size a zs) := Lib.hid (fun W h => (ha.below h).mono h.size)
  have OP : Hid (∀ W, Below w.heap.size w W → Ints W W.heap.size b ps) := Lib.hid (fun W h => (hb.below h).mono h.size)
  have S0 : Below w.heap.size w w := Below.refl _ _
  have HT := Lib.hid hT
  clear hS hI ha hb hT
  cases r
  all_goals
    go_enter Tryd.func9, Tryd.ntmps9
    go_wp2_with fail
    refine (toIntS_any _ _ zs _ (OL.out _ S0) hn).mono ?_
    rintro e w1 ⟨a1, c1, rfl, ho1, hb1⟩
    have A1 := XO.start ho1
    have S1 := bel_step S0 hb1
    clear S0 hb1 ho1
    go_wp2_with fail
    refine (toIntS_any _ _ ps _ (OP.out _ S1) hp).mono ?_
    rintro e w2 ⟨a2, c2, rfl, ho2, hb2⟩
    have A2 := A1.step hb2
    have B2 := XO.start ho2
    have S2 := bel_step S1 hb2
    clear S1 A1 hb2 ho2
    go_wp2_with fail
    refine (HS.out _ _ _ _ _ A2.ints B2.ints (OwnN.cap_le A2.own)).mono ?_
    rintro e w3 ⟨rfl, hb3⟩
    have S3 := bel_step S2 hb3
    clear S2 A2 B2 hb3
    go_wp2_with fail
    refine (toIntS_any _ _ zs _ (OL.out _ S3) hn).mono ?_
    rintro e w4 ⟨a4, c4, rfl, ho4, hb4⟩
    have A4 := XO.start ho4
    have S4 := bel_step S3 hb4
    clear S3 hb4 ho4
    go_wp2_with fail
    refine (toIntS_any _ _ ps _ (OP.out _ S4) hp).mono ?_
    rintro e w5 ⟨a5, c5, rfl, ho5, hb5⟩
    have A5 := A4.step hb5
    have B5 := XO.start ho5
    have S5 := bel_step S4 hb5
    clear S4 A4 hb5 ho5
    go_wp2_with fail
    refine (HI.out _ _ _ _ _ A5.ints B5.ints (HT.out.below S5 HT.out.lt)).mono ?_
    rintro e w6 ⟨rfl, hb6⟩
    have A6 := A5.step hb6
    have B6 := B5.step hb6
    have S6 := bel_step S5 hb6
    clear S5 A5 B5 hb6
    go_wp2_with fail
    refine (toIntS_any _ _ zs _ (OL.out _ S6) hn).mono ?_
    rintro e w7 ⟨a7, c7, rfl, ho7, hb7⟩
    have A7 := A6.step hb7
    have B7 := B6.step hb7
    have C7 := XO.start ho7
    have S7 := bel_step S6 hb7
    clear S6 A6 B6 hb7 ho7
    go_wp2_with fail
    refine (eqIntS_any _ _ _ _ zs zs _ A7.ints C7.ints hn hn).mono ?_
    rintro e w8 ⟨rfl, hb8⟩
    rw [sameB_self]
    have B8 := B7.step hb8
    have S8 := bel_step S7 hb8
    clear S7 A7 B7 C7 hb8
    go_wp2_with fail
    refine (toIntS_any _ _ ps _ (OP.out _ S8) hp).mono ?_
    rintro e w9 ⟨a9, c9, rfl, ho9, hb9⟩
    have B9 := B8.step hb9
    have C9 := XO.start ho9
    have S9 := bel_step S8 hb9
    clear S8 B8 hb9 ho9
    go_wp2_with fail
    refine (eqIntS_any _ _ _ _ ps ps _ B9.ints C9.ints hp hp).mono ?_
    rintro e w10 ⟨rfl, hb10⟩
    rw [sameB_self]
    have HD := Lib.hid (bel_step S9 hb10)
    clear S9 B9 C9 hb10
    go_wp2
    go_ret
    exact ⟨rfl, HD.out⟩

end Go.Proofs.YtbiggilheicfjaaDoor
