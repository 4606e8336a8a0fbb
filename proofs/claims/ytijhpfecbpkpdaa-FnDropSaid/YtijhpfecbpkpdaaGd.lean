/- It is proved that FamilyDrop of the program and of the model return the same; conditions: those of each statement. -/
import Derived.Test.YtijhpfecbpkpdaaRows
import Derived.WalkKit
import Derived.WalkSpells
import Derived.ProofKit
import Derived.OpenShut
import Derived.ShutString
import Derived.ChangeOld
import Derived.Below
import Derived.Deep.RegionHeld3
import Derived.Deep.QuietTactic
import Derived.BigQuiet
import Derived.Lib.Hide
import Derived.Lib.SmallJoins
import Derived.Outline
import Derived.Laws.MakeOwn
import Derived.Laws.OwnMore
import Derived.IntWalk
import Derived.Lib.AppendZeros
import Derived.Maps.AppendAt
import Derived.Deep.AppendLies
import Derived.OwnWalk
import Derived.RangeFuncNested
import Derived.RangeFuncBound
import Derived.RangeFuncCalls
import Derived.RangeFuncLeaves
import Derived.RangeFuncBox
import Derived.Shelf.Abstract
import Derived.Shelf.RegionOpen
import Derived.OwnWalkIn
import Derived.TacticsInMore
import Derived.LoopNIn
import Derived.LoopIn
import Derived.Test.YtijhpfecbpkpdaaB
import Derived.Test.YtijhpfecbpkpdaaD
import Derived.Test.YtijhpfecbpkpdaaE
import Derived.Test.YtijhpfecbpkpdaaGa
import Derived.Test.YtijhpfecbpkpdaaGb
import Derived.Test.YtijhpfecbpkpdaaGc
import Derived.Test.YtijhpfecbpkpdaaK
import Derived.Test.YtijhpfecbpkpdaaL
import Derived.Test.YtijhpfecbpkpdaaOw
namespace Go.Proofs.Ytijhpfecbpkpdaa
open Go.RowKit

theorem dropIn_nat {m : Int} {zs : List Int} {x : Int} (hi : inB x 0 ((zs.length : Int) - 1) = true) : ∃ p : Nat, x = (p : Int) ∧ p < zs.length := by
  obtain ⟨h0, h1⟩ := inB_out hi
  exact ⟨x.toNat, by omega, by omega⟩

theorem Ints.some_ {w : World} {B : Nat} {a : Option Addr} {zs : List Int} (h : Ints w B a zs) (hn : 0 < zs.length) : ∃ b off, a = some ⟨b, off, none⟩ := by
  rcases h with rfl | ⟨b, off, e, _⟩
  · simp at hn
  · exact ⟨b, off, e⟩

theorem own_cap {w : World} {B : Nat} {a : Option Addr} {n cap : Nat} {zs : List Int} (h : OwnN w B a n cap zs) : n ≤ cap := by
  rcases h.2 with ⟨e, hn⟩ | ⟨g, c, cur, e, _, _, hnc, _⟩
  · omega
  · injection e with _ _ e3; omega

theorem implDrop_any (m : Int) (a : Option Addr) (c : Nat) (zs : List Int) (x : Int) (w : World) (ha : Ints w w.heap.size a zs) (hx : zs.length ≤ 1048576) (hc : zs.length ≤ c) :
    Calls Try.prog 22 #[.agg #[.int .i64 m, .slice a zs.length c], .int .i64 x] w (RetFB w (dropM m zs x) (dropZ m zs x) (dropIn m zs x)) := by
  unfold dropM dropZ dropIn
  cases hf : famIn m zs
  · exact implDrop_no m a c zs x w ha hx (.inl hf)
  · cases hi : inB x 0 ((zs.length : Int) - 1)
    · exact implDrop_no m a c zs x w ha hx (by rcases inB_no hi with h | h; exact .inr (.inl h); exact .inr (.inr (by omega)))
    · obtain ⟨p, rfl, hp⟩ := dropIn_nat (m := m) hi
      obtain ⟨b, off, rfl⟩ := ha.some_ (by omega)
      simpa using implDrop_yes m b off c zs p w ha hx hf hp hc

theorem specDrop_any (m : Int) (a : Option Addr) (c : Nat) (zs : List Int) (x : Int) (w : World) (ha : Ints w w.heap.size a zs) (hx : zs.length ≤ 1048576) (hc : zs.length ≤ c) :
    Calls Try.prog 24 #[.agg #[.int .i64 m, .slice a zs.length c], .int .i64 x] w (RetFB w (dropM m zs x) (dropZ m zs x) (dropIn m zs x)) := by
  unfold dropM dropZ dropIn
  cases hf : famIn m zs
  · exact specDrop_no m a c zs x false w ha hx hf (.inl rfl)
  · cases hi : inB x 0 ((zs.length : Int) - 1)
    · exact specDrop_no m a c zs x true w ha hx hf (.inr ⟨rfl, hi⟩)
    · obtain ⟨p, rfl, hp⟩ := dropIn_nat (m := m) hi
      obtain ⟨b, off, rfl⟩ := ha.some_ (by omega)
      simpa using specDrop_yes m b off c zs p w ha hx hf hp hc

end Go.Proofs.Ytijhpfecbpkpdaa
