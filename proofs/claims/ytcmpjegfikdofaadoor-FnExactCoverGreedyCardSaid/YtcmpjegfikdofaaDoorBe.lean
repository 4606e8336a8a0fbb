/- It is proved what l2Equal returns, and what appending a row to rows leaves; conditions: those of each statement. -/
import Derived.Maps.AppendAt
import Derived.RowKit
import Derived.Laws.CopyRow
import Derived.Lib.SlBuf
import Derived.RangeFuncNested
import Derived.RangeFuncBound
import Derived.RangeFuncCalls
import Derived.RangeFuncLeaves
import Derived.RangeFuncBox
import Derived.RangeFuncWrites
import Derived.Test.YtcmpjegfikdofaaDoorRows
import Derived.WalkKit
import Derived.WalkSpells
import Derived.ProofKit
import Derived.OpenShut
import Derived.ShutString
import Derived.ChangeOld
import Derived.Below
import Derived.Deep.RegionHeld3
import Derived.Deep.QuietTactic
import Derived.BigQuiet
import Derived.Lib.Hide
import Derived.Lib.SmallJoins
import Derived.Outline
import Derived.Laws.MakeOwn
import Derived.Laws.OwnMore
import Derived.IntWalk
import Derived.Lib.AppendZeros
import Derived.Deep.AppendLies
import Derived.OwnWalk
import Derived.Lib.SlicesCompact
import Derived.Lib.OwnBridge
import Derived.Shelf.Sort.Plain
import Derived.Shelf.Slices.In.SortNone
import Derived.Shelf.Slices.CompactI
import Derived.Ground.Names2Prog
import Derived.Shelf.Abstract
import Derived.Shelf.RegionOpen
import Derived.OwnWalkIn
import Derived.TacticsInMore
import Derived.LoopNIn
import Derived.LoopIn
import Derived.StillTail
import Derived.StillTactics
import Derived.OrdersIn
import Derived.TacticsIn
import Derived.Shelf.Spec.TrailingZeros
import Derived.StillTailTactics
import Derived.Test.YtcmpjegfikdofaaDoorMraa
import Derived.Test.YtcmpjegfikdofaaDoorBd
import Derived.Test.YtcmpjegfikdofaaDoorMrag
namespace Go.Proofs.YtcmpjegfikdofaaDoor
open Go.RowKit Go.Shelf

set_option maxRecDepth 100000 in
set_option maxHeartbeats 1000000 in
theorem equal_any (a b : Option Addr) (c d : Nat) (xs ys : List Int) (w : World) (ha : Ints w w.heap.size a xs) (hb : Ints w w.heap.size b ys) (hx : xs.length ≤ 1048576) (hy : ys.length ≤ 1048576) :
    Calls Tryd.prog 70 #[.slice a xs.length c, .slice b ys.length d] w fun e w' => e = .returned (.bool (decide (xs = ys))) ∧ Below w.heap.size w w' := by
  have hlb := lex_both xs ys
  obtain ⟨p, hp⟩ : ∃ p, p = lexB xs ys := ⟨_, rfl⟩
  obtain ⟨q, hq⟩ : ∃ q, q = lexB ys xs := ⟨_, rfl⟩
  rw [← hp, ← hq] at hlb
  have HL := Lib.hid hlb
  have h1 := before_any a b c d xs ys w ha hb hx hy
  rw [← hp] at h1
  have h2 : ∀ W, Below w.heap.size w W → Calls Tryd.prog 89 #[.slice b ys.length d, .slice a xs.length c] W fun e w' => e = .returned (.bool q) ∧ Below W.heap.size W w' := fun W hW => by
    rw [hq]
    exact before_any b a d c ys xs W ((hb.below hW).mono hW.size) ((ha.below hW).mono hW.size) hy hx
  have H2 := Lib.hid h2
  clear hlb hp hq h2 ha hb
  cases p
  · go_enter Tryd.func70, Tryd.ntmps70
    go_wp2_with fail
    refine h1.mono ?_
    rintro e w1 ⟨rfl, hb1⟩
    have hc2 := H2.out w1 hb1
    have HB1 := Lib.hid hb1
    clear h1 hb1
    go_wp2_with (go_at_call 89; refine hc2.mono ?_; rintro e w2 ⟨rfl, hb2⟩)
    go_ret
    exact ⟨by rw [← HL.out]; cases q <;> rfl, HB1.out.trans (hb2.mono HB1.out.size)⟩
  · go_enter Tryd.func70, Tryd.ntmps70
    go_wp2_with (go_at_call 89; refine h1.mono ?_; rintro e w1 ⟨rfl, hb1⟩)
    go_ret
    exact ⟨by rw [← HL.out]; cases q <;> rfl, hb1⟩

end Go.Proofs.YtcmpjegfikdofaaDoor
