/- It is proved what the operations on sets of at most eight members are in terms of their bits; conditions: those of each statement. -/
import Derived.Laws.BitsAllLaws
import Derived.RowKit
import Derived.Laws.CopyRow
import Derived.Lib.SlBuf
import Derived.Deep.QuietTactic
import Derived.RangeFuncNested
import Derived.RangeFuncBound
import Derived.RangeFuncCalls
import Derived.RangeFuncLeaves
import Derived.RangeFuncBox
import Derived.RangeFuncWrites
import Derived.StillTailTactics
import Derived.Maps.OwnIn
import Derived.Maps.Ext
import Derived.DeepKeys4
import Derived.MapKept
import Derived.Test.YtgjcjllhkkkioaaRows
import Derived.WalkKit
import Derived.WalkSpells
import Derived.ProofKit
import Derived.OpenShut
import Derived.ShutString
import Derived.ChangeOld
import Derived.Below
import Derived.Deep.RegionHeld3
import Derived.BigQuiet
import Derived.Lib.Hide
import Derived.Lib.SmallJoins
import Derived.Outline
import Derived.Laws.MakeOwn
import Derived.Laws.OwnMore
import Derived.IntWalk
import Derived.Deep.RegionLaw
import Derived.Deep.AppendLies
import Derived.Lib.AppendZeros
import Derived.Maps.AppendAt
import Derived.OwnWalk
import Derived.Lib.SlicesCompact
import Derived.Lib.OwnBridge
import Derived.OrdersIn
import Derived.TacticsIn
import Derived.Shelf.Sort.Plain
import Derived.Shelf.Slices.In.SortNone
import Derived.Shelf.Slices.CompactI
import Derived.Ground.Names2Prog
import Derived.Lib.SliceRun
import Derived.Shelf.Abstract
import Derived.Shelf.RegionOpen
import Derived.OwnWalkIn
import Derived.TacticsInMore
import Derived.LoopNIn
import Derived.LoopIn
import Derived.StillTail
import Derived.StillTactics
import Derived.Shelf.Spec.TrailingZeros
import Derived.Test.YtgjcjllhkkkioaaGb
import Derived.Test.YtgjcjllhkkkioaaUa
namespace Go.Proofs.Ytgjcjllhkkkioaa
open Go.RowKit Go.Shelf

theorem or_at8 {x y : Nat} (hx : x < 256) (hy : y < 256) : bits .or .i64 (x : Int) (y : Int) = ((x ||| y : Nat) : Int) := (bits_nat .i64 8 (by decide) (fun n h0 h1 => by rw [IntKind.wrap_i64]; omega) x y hx hy).2
/-- A set without another one. -/
def anN (a b : Nat) : Nat := a &&& (2 ^ 64 - (b + 1))

theorem anN_le (a b : Nat) : anN a b ≤ a := Nat.and_le_left
theorem an_at8 {a b : Nat} (ha : a < 256) (hb : b < 256) : bits .andNot .i64 (a : Int) (b : Int) = ((anN a b : Nat) : Int) := by
  have h2 := anN_le a b
  show IntKind.i64.wrap ((BitVec.ofInt 64 (a : Int) &&& ~~~BitVec.ofInt 64 (b : Int)).toNat : Int) = _
  rw [BitVec.toNat_and, BitVec.toNat_not, ofInt_u64 a (by omega), ofInt_u64 b (by omega), IntKind.wrap_i64]
  have e : 2 ^ 64 - 1 - b = 2 ^ 64 - (b + 1) := by omega
  rw [e]
  unfold anN at h2 ⊢
  omega

theorem p256 {m s : Nat} (hm : m ≤ 8) (hs : s < 2 ^ m) : s < 256 := Nat.lt_of_lt_of_le hs (Nat.pow_le_pow_right (n := 2) (by decide) hm)
set_option maxRecDepth 100000 in
theorem has8_fin : ∀ x : Fin 256, ∀ p : Fin 8, (bits BinOp.and IntKind.i64 ((x.val : Int) / 2 ^ p.val) 1 == 1) = x.val.testBit p.val := by decide +kernel

theorem has8_any (x p : Nat) (hx : x < 256) (hp : p < 8) (w : World) :
    Calls Try.prog 35 #[.int .i64 (x : Int), .int .i64 (p : Int)] w fun e w' => e = .returned (.bool (x.testBit p)) ∧ w = w' := by
  have HH := Lib.hid (has8_fin ⟨x, hx⟩ ⟨p, hp⟩)
  simp only at HH
  go_enter Try.func35, Try.ntmps35
  go_wp2
  go_ret
  exact ⟨by rw [← HH.out]; rfl, rfl⟩

theorem wo8_at {x p : Nat} (hx : x < 256) (hp : p < 8) : bits .andNot .i64 (x : Int) (2 ^ p) = ((anN x (2 ^ p) : Nat) : Int) := by
  have h2 : (2 : Nat) ^ p < 256 := Nat.pow_lt_pow_right (a := 2) (n := 8) (by decide) hp
  have := an_at8 hx h2
  rw [← this]
  norm_cast

theorem without8_any (x p : Nat) (hx : x < 256) (hp : p < 8) (w : World) :
    Calls Try.prog 32 #[.int .i64 (x : Int), .int .i64 (p : Int)] w fun e w' => e = .returned (.int .i64 ((anN x (2 ^ p) : Nat) : Int)) ∧ w = w' := by
  have hp8 : (p : Int) < 8 := by omega
  obtain ⟨h1, h2⟩ := p2_small p (by omega)
  have HO := Lib.hid (wo8_at hx hp)
  go_enter Try.func32, Try.ntmps32
  go_wp2
  go_ret
  exact ⟨by rw [HO.out]; rfl, rfl⟩

end Go.Proofs.Ytgjcjllhkkkioaa
