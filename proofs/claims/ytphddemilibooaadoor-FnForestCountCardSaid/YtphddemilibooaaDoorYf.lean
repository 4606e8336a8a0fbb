/- It is proved what l6eReduce returns; conditions: those of each statement. -/
import Derived.Deep.LoopGhost
import Derived.Deep.QuietTactic
import Derived.BigQuiet
import Derived.RowKit
import Derived.Laws.CopyRow
import Derived.Lib.SlBuf
import Derived.RangeFuncNested
import Derived.RangeFuncBound
import Derived.RangeFuncCalls
import Derived.RangeFuncLeaves
import Derived.RangeFuncBox
import Derived.RangeFuncWrites
import Derived.StillTailTactics
import Derived.Maps.OwnIn
import Derived.Maps.Ext
import Derived.DeepKeys4
import Derived.MapKept
import Derived.Test.YtphddemilibooaaDoorRows
import Derived.WalkKit
import Derived.WalkSpells
import Derived.ProofKit
import Derived.OpenShut
import Derived.ShutString
import Derived.ChangeOld
import Derived.Below
import Derived.Deep.RegionHeld3
import Derived.Lib.Hide
import Derived.Lib.SmallJoins
import Derived.Outline
import Derived.Laws.MakeOwn
import Derived.Laws.OwnMore
import Derived.IntWalk
import Derived.Lib.AppendZeros
import Derived.Maps.AppendAt
import Derived.Deep.AppendLies
import Derived.OwnWalk
import Derived.Lib.SlicesCompact
import Derived.Lib.OwnBridge
import Derived.OrdersIn
import Derived.TacticsIn
import Derived.Shelf.Sort.Plain
import Derived.Shelf.Slices.In.SortNone
import Derived.Shelf.Slices.CompactI
import Derived.Ground.Names2Prog
import Derived.Lib.SliceRun
import Derived.Shelf.Abstract
import Derived.Shelf.RegionOpen
import Derived.OwnWalkIn
import Derived.TacticsInMore
import Derived.LoopNIn
import Derived.LoopIn
import Derived.StillTail
import Derived.StillTactics
import Derived.Shelf.Spec.TrailingZeros
import Derived.Test.YtphddemilibooaaDoorRaaa
import Derived.Test.YtphddemilibooaaDoorMs
import Derived.Test.YtphddemilibooaaDoorRaac
import Derived.Test.YtphddemilibooaaDoorRaab
import Derived.Test.YtphddemilibooaaDoorYa
namespace Go.Proofs.YtphddemilibooaaDoor
open Go.RowKit

theorem own_wr6 {w : World} {B : Nat} {a : Option Addr} {n c k : Nat} {zs : List Int} (h : OwnN w B a n c zs) (hk : k < n) :
    ∃ g, a = some ⟨g, 0, none⟩ ∧ B ≤ g ∧ g < w.heap.size ∧ w.cell? ⟨g, k, none⟩ = some (.int .i64 (zs[k]?.getD 0)) ∧ w.frozen? ⟨g, k, none⟩ = false ∧
      ∀ x, OwnN (w.setCell ⟨g, k, none⟩ (.int .i64 x)) B a n c (zs.set k x) := by
  have hl := h.len
  subst hl
  obtain ⟨g, h1, h2, h3, h4, h5, h6⟩ := own_wr h hk
  exact ⟨g, h1, h2, h3, h4, h5, fun x => by have := h6 x; unfold OwnI at this; rw [List.length_set] at this; exact this⟩

set_option maxRecDepth 100000 in
theorem bt_int_fin : ∀ z : Fin 64, ∀ v : Fin 6, bits .and .i64 ((z.val : Int) / 2 ^ v.val) 1 = if z.val.testBit v.val then 1 else 0 := by decide +kernel

theorem bt_int {z : Int} (h0 : 0 ≤ z) (hz : z.toNat < 64) {v : Nat} (hv : v < 6) : bits .and .i64 (z / 2 ^ v) 1 = if Bt v z then 1 else 0 := by
  have := bt_int_fin ⟨z.toNat, hz⟩ ⟨v, hv⟩
  simp only [Int.toNat_of_nonneg h0] at this
  exact this

end Go.Proofs.YtphddemilibooaaDoor
