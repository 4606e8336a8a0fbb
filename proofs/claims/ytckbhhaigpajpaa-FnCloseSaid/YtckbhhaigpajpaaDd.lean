/- It is proved that a family drawn from bytes is one of the call's own; conditions: those of each statement. -/
import Derived.Test.YtckbhhaigpajpaaRows
import Derived.WalkKit
import Derived.WalkSpells
import Derived.ProofKit
import Derived.OpenShut
import Derived.ShutString
import Derived.ChangeOld
import Derived.Below
import Derived.Deep.RegionHeld3
import Derived.Deep.QuietTactic
import Derived.BigQuiet
import Derived.Lib.Hide
import Derived.Lib.SmallJoins
import Derived.Outline
import Derived.Laws.MakeOwn
import Derived.Laws.OwnMore
import Derived.IntWalk
import Derived.Deep.RegionLaw
import Derived.Deep.AppendLies
import Derived.RangeFuncNested
import Derived.RangeFuncBound
import Derived.RangeFuncCalls
import Derived.RangeFuncLeaves
import Derived.RangeFuncBox
import Derived.Shelf.Abstract
import Derived.Shelf.RegionOpen
import Derived.OwnWalkIn
import Derived.TacticsInMore
import Derived.LoopNIn
import Derived.LoopIn
import Derived.Maps.AppendAt
import Derived.Shelf.Spec.TrailingZeros
import Derived.OwnWalk
import Derived.Test.YtckbhhaigpajpaaRaaa
import Derived.Test.YtckbhhaigpajpaaDa
import Derived.Test.YtckbhhaigpajpaaDb
namespace Go.Proofs.Ytckbhhaigpajpaa
open Go.RowKit

theorem openD_any (a : Option Addr) (n cap : Nat) (w : World) (hn : n ≤ 1048576) (hc : n ≤ cap) (hc2 : cap ≤ 9223372036854775807) (ha : n ≠ 0 → ∃ g off, a = some ⟨g, off, none⟩) :
    Calls Try.prog 16 #[.slice a n cap] w fun e w' => ∃ k, k ≤ n ∧ e = .returned (.pointer (some ⟨w.heap.size, 0, none⟩)) ∧ w' = w.alloc (.cells #[.slice a k cap, .int .i64 0] 58) := by
  by_cases h : n ≤ 2000
  · go_enter Try.func16, Try.ntmps16
    go_wp2
    go_ret
    exact ⟨n, Nat.le_refl _, rfl, rfl⟩
  · obtain ⟨g, off, rfl⟩ := ha (by omega)
    have hc3 : (2000 : Int) ≤ (cap : Int) := by omega
    go_enter Try.func16, Try.ntmps16
    go_wp2
    go_ret
    exact ⟨2000, by omega, rfl, rfl⟩

/-- A family of the call's own. -/
def DrawnOne (w : World) (e : Ending) (W : World) : Prop :=
  ∃ (m : Int) (a : Option Addr) (zs : List Int) (c : Nat), e = .returned (.agg #[.int .i64 m, .slice a zs.length c]) ∧ zs.length ≤ 9 ∧ OwnI W w.heap.size (.slice a zs.length c) zs ∧ Below w.heap.size w W

theorem Bys.below {w W : World} {B : Nat} {b : Option Addr} {n : Nat} (h : Bys w B b n) (hb : Below B w W) : Bys W B b n := by
  rcases h with h | ⟨g, off, e, hgR, hc⟩
  · exact .inl h
  · refine .inr ⟨g, off, e, hgR, fun j hj => ?_⟩
    obtain ⟨z, hz, hcz⟩ := hc j hj
    exact ⟨z, hz, (hb.cell (p := ⟨g, off + j, none⟩) hgR).trans hcz⟩

theorem Bys.fewer {w : World} {B B' : Nat} {b : Option Addr} {n k : Nat} (h : Bys w B b n) (hB : B ≤ B') (hk : k ≤ n) : Bys w B' b k := by
  rcases h with h | ⟨g, off, e, hgR, hc⟩
  · exact .inl (by omega)
  · exact .inr ⟨g, off, e, by omega, fun j hj => hc j (by omega)⟩

end Go.Proofs.Ytckbhhaigpajpaa
