/- It is proved that FamilyPut of the program and of the model return the same; conditions: those of each statement. -/
import Derived.Test.YtijhpfecbpkpdaaRows
import Derived.WalkKit
import Derived.WalkSpells
import Derived.ProofKit
import Derived.OpenShut
import Derived.ShutString
import Derived.ChangeOld
import Derived.Below
import Derived.Deep.RegionHeld3
import Derived.Deep.QuietTactic
import Derived.BigQuiet
import Derived.Lib.Hide
import Derived.Lib.SmallJoins
import Derived.Outline
import Derived.Laws.MakeOwn
import Derived.Laws.OwnMore
import Derived.IntWalk
import Derived.Lib.AppendZeros
import Derived.Maps.AppendAt
import Derived.Deep.AppendLies
import Derived.OwnWalk
import Derived.RangeFuncNested
import Derived.RangeFuncBound
import Derived.RangeFuncCalls
import Derived.RangeFuncLeaves
import Derived.RangeFuncBox
import Derived.Shelf.Abstract
import Derived.Shelf.RegionOpen
import Derived.OwnWalkIn
import Derived.TacticsInMore
import Derived.LoopNIn
import Derived.LoopIn
import Derived.Test.YtijhpfecbpkpdaaB
import Derived.Test.YtijhpfecbpkpdaaD
import Derived.Test.YtijhpfecbpkpdaaE
import Derived.Test.YtijhpfecbpkpdaaGa
import Derived.Test.YtijhpfecbpkpdaaGb
import Derived.Test.YtijhpfecbpkpdaaGe
import Derived.Test.YtijhpfecbpkpdaaGf
import Derived.Test.YtijhpfecbpkpdaaL
namespace Go.Proofs.Ytijhpfecbpkpdaa
open Go.RowKit

/-- The condition of FamilyPut. -/
def putIn (m : Int) (zs : List Int) (x : Int) : Bool := famIn m zs && (inB x 0 (fullI m) && !decide (zs.length = 8))

def putZ (m : Int) (zs : List Int) (x : Int) : List Int := if putIn m zs x then zs ++ [x] else []
def putM (m : Int) (zs : List Int) (x : Int) : Int := if putIn m zs x then m else 0
theorem putZ_len (m : Int) (zs : List Int) (x : Int) (_h : zs.length ≤ 1048576) : (putZ m zs x).length ≤ 1048576 := by
  unfold putZ
  split
  · rename_i h
    simp only [putIn, Bool.and_eq_true] at h
    have := (famIn_out h.1).2.2.1
    simp; omega
  · simp

theorem implPut_any (m : Int) (a : Option Addr) (c : Nat) (zs : List Int) (x : Int) (w : World) (ha : Ints w w.heap.size a zs) (hx : zs.length ≤ 1048576) :
    Calls Try.prog 20 #[.agg #[.int .i64 m, .slice a zs.length c], .int .i64 x] w (RetFB w (putM m zs x) (putZ m zs x) (putIn m zs x)) := by
  unfold putM putZ putIn
  cases hf : famIn m zs
  · exact implPut_no m a c zs x false w ha hx hf (.inl rfl)
  · cases hi : inB x 0 (fullI m)
    · exact implPut_no m a c zs x true w ha hx hf (.inr (.inl ⟨rfl, hi⟩))
    · by_cases h8 : zs.length = 8
      · simpa [h8] using implPut_no m a c zs x true w ha hx hf (.inr (.inr ⟨rfl, hi, h8⟩))
      · simpa [h8] using implPut_yes m a c zs x w ha hx hf hi h8

theorem specPut_any (m : Int) (a : Option Addr) (c : Nat) (zs : List Int) (x : Int) (w : World) (ha : Ints w w.heap.size a zs) (hx : zs.length ≤ 1048576) :
    Calls Try.prog 21 #[.agg #[.int .i64 m, .slice a zs.length c], .int .i64 x] w (RetFB w (putM m zs x) (putZ m zs x) (putIn m zs x)) := by
  unfold putM putZ putIn
  cases hf : famIn m zs
  · exact specPut_no1 m a c zs x w ha hx hf
  · cases hi : inB x 0 (fullI m)
    · exact specPut_no2 m a c zs x w ha hx hf hi
    · by_cases h8 : zs.length = 8
      · simpa [h8] using specPut_no3 m a c zs x w ha hx hf hi h8
      · simpa [h8] using specPut_yes m a c zs x w ha hx hf hi h8

end Go.Proofs.Ytijhpfecbpkpdaa
