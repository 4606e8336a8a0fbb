/- It is proved that the call of the law FnRankSum returns true; conditions: those of each statement. -/
import Derived.RowKit
import Derived.Laws.CopyRow
import Derived.Lib.SlBuf
import Derived.Deep.QuietTactic
import Derived.RangeFuncNested
import Derived.RangeFuncBound
import Derived.RangeFuncCalls
import Derived.RangeFuncLeaves
import Derived.RangeFuncBox
import Derived.RangeFuncWrites
import Derived.StillTailTactics
import Derived.Maps.OwnIn
import Derived.Maps.Ext
import Derived.DeepKeys4
import Derived.MapKept
import Derived.Test.YtdkdndcogdeopaaDoorRows
import Derived.WalkKit
import Derived.WalkSpells
import Derived.ProofKit
import Derived.OpenShut
import Derived.ShutString
import Derived.ChangeOld
import Derived.Below
import Derived.Deep.RegionHeld3
import Derived.BigQuiet
import Derived.Lib.Hide
import Derived.Lib.SmallJoins
import Derived.Outline
import Derived.Laws.MakeOwn
import Derived.Laws.OwnMore
import Derived.IntWalk
import Derived.Maps.AppendAt
import Derived.Deep.RegionLaw
import Derived.Deep.AppendLies
import Derived.Deep.RegionWith
import Derived.Lib.AppendZeros
import Derived.OwnWalk
import Derived.Lib.SlicesCompact
import Derived.Lib.OwnBridge
import Derived.OrdersIn
import Derived.TacticsIn
import Derived.Shelf.Sort.Plain
import Derived.Shelf.Slices.In.SortNone
import Derived.Shelf.Slices.CompactI
import Derived.Ground.Names2Prog
import Derived.Lib.SliceRun
import Derived.Shelf.RegionOpen
import Derived.Shelf.Abstract
import Derived.OwnWalkIn
import Derived.TacticsInMore
import Derived.LoopNIn
import Derived.LoopIn
import Derived.StillTail
import Derived.StillTactics
import Derived.Shelf.Spec.TrailingZeros
import Derived.Test.YtdkdndcogdeopaaDoorB
import Derived.Test.YtdkdndcogdeopaaDoorD
import Derived.Test.YtdkdndcogdeopaaDoorDa
import Derived.Test.YtdkdndcogdeopaaDoorDb
import Derived.Test.YtdkdndcogdeopaaDoorDd
import Derived.Test.YtdkdndcogdeopaaDoorE
import Derived.Test.YtdkdndcogdeopaaDoorF
import Derived.Test.YtdkdndcogdeopaaDoorFb
import Derived.Test.YtdkdndcogdeopaaDoorGa
import Derived.Test.YtdkdndcogdeopaaDoorGb
import Derived.Test.YtdkdndcogdeopaaDoorH
import Derived.Test.YtdkdndcogdeopaaDoorKa
import Derived.Test.YtdkdndcogdeopaaDoorKb
import Derived.Test.YtdkdndcogdeopaaDoorKl
import Derived.Test.YtdkdndcogdeopaaDoorKs
import Derived.Test.YtdkdndcogdeopaaDoorMd
import Derived.Test.YtdkdndcogdeopaaDoorO
import Derived.Test.YtdkdndcogdeopaaDoorT
import Derived.Test.YtdkdndcogdeopaaDoorWa
import Derived.Test.YtdkdndcogdeopaaDoorWb
import Derived.Test.YtdkdndcogdeopaaDoorWd
namespace Go.Proofs.YtdkdndcogdeopaaDoor
open Go.RowKit

theorem bit_full {n p i : Nat} (hp : p < 2 ^ n) (hi : i < n) : (2 ^ n - 1 - p).testBit i = !p.testBit i := by
  have := Nat.testBit_two_pow_sub_succ hp i
  rw [show 2 ^ n - (p + 1) = 2 ^ n - 1 - p by omega] at this
  rw [this]
  simp [hi]

theorem xor_parts {zs : List Int} {n p : Nat} (hp : p < 2 ^ n) : ∀ k, k ≤ n → xorU zs 0 (memK k p) ^^^ xorU zs 0 (memK k (2 ^ n - 1 - p)) = xorU zs 0 (memK k (2 ^ n - 1))
  | 0, _ => by simp [memK, xorU]
  | k + 1, hk => by
    have ih := xor_parts (zs := zs) hp k (by omega)
    have hb := bit_full hp (show k < n by omega)
    have hf : (2 ^ n - 1).testBit k = true := by rw [Nat.testBit_two_pow_sub_one]; simp; omega
    rw [memK_succ, memK_succ, memK_succ, hb, hf]
    simp only [if_true, xorU_snoc]
    cases p.testBit k
    · simp only [Bool.false_eq_true, if_false, List.append_nil, Bool.not_false, if_true, xorU_snoc]
      rw [← ih, Nat.xor_assoc]
    · simp only [Bool.not_true, Bool.false_eq_true, if_false, List.append_nil, if_true, xorU_snoc]
      rw [← ih, Nat.xor_assoc, Nat.xor_assoc, Nat.xor_comm (zs[k]?.getD 0).toNat]

theorem sum_parts {zs : List Int} {p : Nat} (hp : p < 2 ^ zs.length) : sumK zs p ^^^ sumK zs (2 ^ zs.length - 1 - p) = sumK zs (2 ^ zs.length - 1) := xor_parts hp _ (Nat.le_refl _)
set_option maxRecDepth 100000 in
set_option maxHeartbeats 8000000 in
theorem walkFnRankSum (a : Option Addr) (n cap : Nat) (w : World) (hb : Bys w w.heap.size a n) (hT : Tab w) (hn : n ≤ 1048576) (hc : n ≤ cap) (hc2 : cap ≤ 9223372036854775807) :
    Calls Tryd.prog 6 #[.slice a n cap] w fun e w' => e = .returned (.bool true) ∧ Below w.heap.size w w' := by
  have HBy := Lib.hid hb
  have HT := Lib.hid hT
  clear hb hT
  go_enter Tryd.func6, Tryd.ntmps6
  go_wp2_with fail
  refine (drawRankSum_any a n cap w HBy.out hn hc hc2).mono ?_
  rintro e w1 ⟨m, a1, zs, c1, q, rfl, hl, ho1, hb1⟩
  have F1 := FB.start (m := m) (c := c1) (own_ints ho1)
  have B1 := Lib.hid (hb1.trans ((below1 w1 (.cells #[.int .i64 m, .slice a1 zs.length c1] 25)).mono hb1.size))
  have hln : zs.length ≤ 1048576 := by omega
  have f_f_1 := Lib.hid F1
  clear F1 ho1 hb1
  have f_0 := f_f_1.out.x0
  have f_1 := f_f_1.out.x1
  obtain ⟨O, hO⟩ : ∃ O, O = outRS m zs q := ⟨_, rfl⟩
  obtain ⟨K, hK⟩ : ∃ K, K = okRS m zs q := ⟨_, rfl⟩
  have HI := Lib.hid (fun W hi hT => implRankSum_any m q a1 c1 zs W hi hT hln)
  have HSP := Lib.hid (fun W hi => specRankSum_any m q a1 c1 zs W hi hln)
  rw [← hO, ← hK] at HI HSP
  have HO := Lib.hid hO
  have HK := Lib.hid hK
  clear hO hK
  go_wp2_with fail
  refine (HI.out _ f_f_1.out.ints (HT.out.below B1.out HT.out.lt)).mono ?_
  rintro e w2 ⟨rfl, hb2⟩
  have B2 := Lib.hid (B1.out.trans (hb2.mono B1.out.size))
  have f_f_2 := Lib.hid (f_f_1.out.step hb2)
  clear hb2 B1 f_f_1
  clear f_0 f_1
  have f_0 := f_f_2.out.x0
  have f_1 := f_f_2.out.x1
  go_wp2_with fail
  refine (HSP.out _ f_f_2.out.ints).mono ?_
  rintro e w3 ⟨rfl, hb3⟩
  have B3 := Lib.hid (B2.out.trans (hb3.mono B2.out.size))
  have f_f_3 := Lib.hid (f_f_2.out.step hb3)
  clear hb3 B2 f_f_2
  clear f_0 f_1
  have f_0 := f_f_3.out.x0
  have f_1 := f_f_3.out.x1
  clear HI HSP
  cases K
  · clear HK HO
    go_wp2
    go_ret
    exact ⟨rfl, B3.out⟩
  · have hok := HK.out
    unfold okRS at hok
    obtain ⟨hfm, hcl⟩ : famIn m zs = true ∧ inP zs q = true := by
      have := hok.symm
      rwa [Bool.and_eq_true] at this
    obtain ⟨p, rfl, hp⟩ := inP_nat hcl
    obtain ⟨k, hmk, hk1, hk6, hset, hl8⟩ := fam_nat2 hfm
    subst hmk
    have hz64 : ∀ z ∈ zs, z.toNat < 64 := fun z h => p64 hk6 (hset z h).2
    have hOe : O = ((sumK zs p : Nat) : Int) := by rw [HO.out]; unfold outRS; rw [hfm, hcl]; rfl
    have h1p := Nat.one_le_two_pow (n := zs.length)
    have hin : ∀ q : Nat, q < 2 ^ zs.length → inP zs (q : Int) = true := fun q hq => by
      unfold inP
      have e : (2 : Int) ^ zs.length = ((2 ^ zs.length : Nat) : Int) := by norm_cast
      exact inB_true (by omega) (by omega)
    have hcall : ∀ q : Nat, q < 2 ^ zs.length → ∀ x : Int, x = (q : Int) → ∀ W, Ints W W.heap.size a1 zs → Tab W → Calls Tryd.prog 24 #[.agg #[.int .i64 (k : Int), .slice a1 zs.length c1], .int .i64 x] W (RetIB W ((sumK zs q : Nat) : Int) true) := fun q hq x hx W hi hT => by
      subst hx
      have := implRankSum_any (k : Int) (q : Int) a1 c1 zs W hi hT hln
      rwa [show outRS (k : Int) zs (q : Int) = ((sumK zs q : Nat) : Int) by unfold outRS; rw [hfm, hin q hq]; rfl, show okRS (k : Int) zs (q : Int) = true by unfold okRS; rw [hfm, hin q hq]; rfl] at this
    have HA := Lib.hid (hcall (2 ^ zs.length - 1) (by omega))
    have HBB := Lib.hid (hcall (2 ^ zs.length - 1 - p) (by omega))
    have hxor := xor6_at (sumK zs p) (sumK zs (2 ^ zs.length - 1 - p)) (xorU_lt hz64 _ 0 (by decide)) (xorU_lt hz64 _ 0 (by decide))
    rw [sum_parts hp] at hxor
    have hE1 : ∀ n : Nat, n ≤ 8 → wrap64 (wrap64 (2 ^ n) - 1) = ((2 ^ n - 1 : Nat) : Int) := fun n hn => by
      rcases n08 hn with rfl | rfl | rfl | rfl | rfl | rfl | rfl | rfl | rfl <;> decide +kernel
    have h256 : 2 ^ zs.length ≤ 256 := Nat.pow_le_pow_right (n := 2) (by decide) hl8
    have hE1' := hE1 _ hl8
    obtain ⟨A, hA⟩ : ∃ A, A = 2 ^ zs.length - 1 := ⟨_, rfl⟩
    have hAp : p ≤ A := by omega
    have hA255 : (A : Int) ≤ 255 := by omega
    have hpI : (p : Int) ≤ (A : Int) := by omega
    rw [← hA] at hE1' HA HBB hxor
    have HE1 := Lib.hid hE1'
    have HE2 : Hid ((A : Int) - (p : Int) = ((A - p : Nat) : Int)) := Lib.hid (by omega)
    have HE3 : Hid (wrap64 ((A : Int) - (p : Int)) = ((A - p : Nat) : Int)) := Lib.hid (by unfold wrap64; omega)
    obtain ⟨SA, hSA⟩ : ∃ SA, SA = sumK zs A := ⟨_, rfl⟩
    obtain ⟨SB, hSB⟩ : ∃ SB, SB = sumK zs (A - p) := ⟨_, rfl⟩
    obtain ⟨SP, hSP⟩ : ∃ SP, SP = sumK zs p := ⟨_, rfl⟩
    rw [← hSP] at hOe hxor
    rw [← hSA] at HA hxor
    rw [← hSB] at HBB hxor
    have HX := Lib.hid hxor
    subst hOe
    clear hok HK HO hset hz64 hcall hin hE1 hE1' h1p h256 hA hAp hSA hSB hSP hxor hfm hcl hp
    go_wp2_with fail
    refine (HA.out _ HE1.out _ f_f_3.out.ints (HT.out.below B3.out HT.out.lt)).mono ?_
    rintro e w4 ⟨rfl, hb4⟩
    have B4 := Lib.hid (B3.out.trans (hb4.mono B3.out.size))
    have f_f_4 := Lib.hid (f_f_3.out.step hb4)
    clear hb4 B3 f_f_3
    clear f_0 f_1
    have f_0 := f_f_4.out.x0
    have f_1 := f_f_4.out.x1
    rw [HE1.out]
    go_wp2_with fail
    refine (HBB.out _ (by first | exact HE2.out | exact HE3.out) _ f_f_4.out.ints (HT.out.below B4.out HT.out.lt)).mono ?_
    rintro e w5 ⟨rfl, hb5⟩
    have B5 := Lib.hid (B4.out.trans (hb5.mono B4.out.size))
    clear hb5
    have hx := HX.out
    go_wp2
    go_ret
    exact ⟨by simp, B5.out⟩

end Go.Proofs.YtdkdndcogdeopaaDoor
