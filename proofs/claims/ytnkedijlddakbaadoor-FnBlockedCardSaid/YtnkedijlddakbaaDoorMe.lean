/- It is proved what the reference model's l1Size tells of sets of eight, and l5Together; conditions: those of each statement. -/
import Derived.RowKit
import Derived.Laws.CopyRow
import Derived.Lib.SlBuf
import Derived.Deep.QuietTactic
import Derived.RangeFuncNested
import Derived.RangeFuncBound
import Derived.RangeFuncCalls
import Derived.RangeFuncLeaves
import Derived.RangeFuncBox
import Derived.RangeFuncWrites
import Derived.StillTailTactics
import Derived.Maps.OwnIn
import Derived.Maps.Ext
import Derived.DeepKeys4
import Derived.MapKept
import Derived.Test.YtnkedijlddakbaaDoorRows
import Derived.WalkKit
import Derived.WalkSpells
import Derived.ProofKit
import Derived.OpenShut
import Derived.ShutString
import Derived.ChangeOld
import Derived.Below
import Derived.Deep.RegionHeld3
import Derived.BigQuiet
import Derived.Lib.Hide
import Derived.Lib.SmallJoins
import Derived.Outline
import Derived.Laws.MakeOwn
import Derived.Laws.OwnMore
import Derived.IntWalk
import Derived.Maps.AppendAt
import Derived.Lib.AppendZeros
import Derived.Deep.AppendLies
import Derived.OwnWalk
import Derived.Lib.SlicesCompact
import Derived.Lib.OwnBridge
import Derived.OrdersIn
import Derived.TacticsIn
import Derived.Shelf.Sort.Plain
import Derived.Shelf.Slices.In.SortNone
import Derived.Shelf.Slices.CompactI
import Derived.Ground.Names2Prog
import Derived.Lib.SliceRun
import Derived.Shelf.RegionOpen
import Derived.Shelf.Abstract
import Derived.OwnWalkIn
import Derived.TacticsInMore
import Derived.LoopNIn
import Derived.LoopIn
import Derived.StillTail
import Derived.StillTactics
import Derived.Shelf.Spec.TrailingZeros
import Derived.Test.YtnkedijlddakbaaDoorMraa
import Derived.Test.YtnkedijlddakbaaDoorMrad
import Derived.Test.YtnkedijlddakbaaDoorMrae
import Derived.Test.YtnkedijlddakbaaDoorMrak
import Derived.Test.YtnkedijlddakbaaDoorKr
import Derived.Test.YtnkedijlddakbaaDoorMa
import Derived.Test.YtnkedijlddakbaaDoorMb
import Derived.Test.YtnkedijlddakbaaDoorMc
import Derived.Test.YtnkedijlddakbaaDoorMrao
namespace Go.Proofs.YtnkedijlddakbaaDoor
open Go.RowKit

set_option maxRecDepth 100000 in
theorem cnt8_half : ∀ t : Fin 256, cntK 8 t.val = t.val % 2 + cntK 8 (t.val / 2) := by decide +kernel

set_option maxRecDepth 100000 in
theorem low8_fin : ∀ t : Fin 256, bits .and .i64 (t.val : Int) 1 = ((t.val % 2 : Nat) : Int) := by decide +kernel

set_option maxRecDepth 100000 in
theorem bitW_fin : ∀ s : Fin 256, ∀ v : Fin 8, bits .and .i64 ((s.val : Int) / 2 ^ v.val) 1 = if s.val.testBit v.val then 1 else 0 := by decide +kernel

theorem bitW_val {s v : Nat} (hs : s < 256) (hv : v < 8) : bits .and .i64 ((s : Int) / 2 ^ v) 1 = if s.testBit v then 1 else 0 := bitW_fin ⟨s, hs⟩ ⟨v, hv⟩
set_option maxRecDepth 100000 in
theorem l1SizeW_any (z : Nat) (w : World) (h : z < 256) : Calls Tryd.prog 31 #[.int .i64 (z : Int)] w fun e w' => e = .returned (.int .i64 ((cntK 8 z : Nat) : Int)) ∧ w = w' := by
  go_enter Tryd.func31, Tryd.ntmps31
  go_wp2
  go_loop [0, 3] (fun s n => ∃ t k : Nat, t < 256 ∧ k + cntK 8 t = cntK 8 z ∧ s = .int .i64 (t : Int) ∧ n = .int .i64 (k : Int)) (fun s _ => (intOf s).toNat)
  case atStart => exact ⟨z, 0, h, by omega, rfl, rfl⟩
  case round =>
    obtain ⟨t, k, ht, hk, rfl, rfl⟩ := hrel
    have hz8 := cntK_bound 8 z
    have hk8 : k ≤ 8 := by omega
    have hlow := low8_fin ⟨t, ht⟩
    have hhf := cnt8_half ⟨t, ht⟩
    simp only at hlow hhf
    have HK := Lib.hid hk
    have HH := Lib.hid hhf
    have hm2 : t % 2 < 2 := Nat.mod_lt _ (by decide)
    obtain ⟨r, hr⟩ : ∃ r, r = t % 2 := ⟨_, rfl⟩
    rw [← hr] at hlow hm2
    have HR := Lib.hid hr
    have htI : (t : Int) ≤ 255 := by omega
    have hkI : (k : Int) ≤ 8 := by omega
    have hrI : (r : Int) ≤ 1 := by omega
    clear hk hhf hr
    by_cases h0 : 0 < t
    · have h0I : (0 : Int) < (t : Int) := by omega
      go_wp2
      go_round
      case rel => exact ⟨t / 2, k + r, by omega, by have := HK.out; have := HH.out; have := HR.out; omega, by go_num, by go_num⟩
      case measure => simp [intOf]; omega
    · have ht0 : t = 0 := by omega
      have e0 : cntK 8 t = 0 := by rw [ht0]; unfold cntK; rw [memK_zero]; rfl
      have HE : Hid (cntK 8 z = k) := Lib.hid (by have := HK.out; omega)
      have h0I : ¬ ((0 : Int) < (t : Int)) := by omega
      clear ht0 e0
      go_wp2
      go_ret
      exact ⟨by rw [HE.out]; rfl, rfl⟩

set_option maxRecDepth 100000 in
set_option maxHeartbeats 1600000 in
theorem l5Together_any (a : Option Addr) (c : Nat) (zs : List Int) (p : Nat) (w : World) (ha : Ints w w.heap.size a zs) (hx : zs.length ≤ 8) (hz : ∀ z ∈ zs, 0 ≤ z ∧ z.toNat < 64) (hp : p < 256) :
    Calls Tryd.prog 32 #[.slice a zs.length c, .int .i64 (p : Int)] w fun e w' => e = .returned (.int .i64 ((togK zs p : Nat) : Int)) ∧ w = w' := by
  obtain ⟨n, hn⟩ : ∃ n, n = zs.length := ⟨_, rfl⟩
  have HN := Lib.hid hn
  have HA := Lib.hid ha
  have HZ := Lib.hid hz
  have HT : Hid (togK zs p = metU zs 0 (memK n p)) := Lib.hid (by unfold togK; rw [hn])
  rw [← hn] at hx ⊢
  clear ha hz hn
  go_enter Tryd.func32, Tryd.ntmps32
  go_wp2
  go_loop [5, 6] (fun s i => ∃ k S : Nat, k ≤ n ∧ i = .int .i64 (k : Int) ∧ s = .int .i64 (S : Int) ∧ S = metU zs 0 (memK k p)) (fun _ i => n - (intOf i).toNat)
  case atStart => exact ⟨0, 0, Nat.zero_le _, rfl, rfl, rfl⟩
  case round =>
    obtain ⟨k, S, hk, rfl, rfl, hS⟩ := hrel
    have hS64 : S < 64 := by rw [hS]; exact metU_lt (fun z h => (HZ.out z h).2) _ 0 (by decide)
    have HS := Lib.hid hS
    clear hS
    by_cases hlt : k < n
    · have hms := memK_succ k p
      have hk0 : (0 : Int) ≤ (k : Int) := by omega
      have hk64 : (k : Int) < 64 := by omega
      have hkI : (k : Int) < (n : Int) := by omega
      have hbv := bitW_val (s := p) (v := k) hp (by omega)
      cases htb : p.testBit k
      · rw [htb] at hbv hms
        simp only [Bool.false_eq_true, if_false, List.append_nil] at hbv hms
        have HE : Hid (S = metU zs 0 (memK (k + 1) p)) := Lib.hid (by rw [hms]; exact HS.out)
        clear htb hms
        go_wp2
        go_round
        case rel => exact ⟨k + 1, S, by omega, by go_num, rfl, HE.out⟩
        case measure => simp [intOf]; omega
      · rw [htb] at hbv hms
        simp only [if_true] at hbv hms
        obtain ⟨b1, o1, rfl, hb1, hc1⟩ := HA.out.at_ (k := k) (by rw [← HN.out]; exact hlt)
        obtain ⟨z0, z1⟩ := HZ.out _ (at_in (k := k) (by rw [← HN.out]; exact hlt))
        obtain ⟨z, hzz⟩ : ∃ z : Nat, zs[k]?.getD 0 = (z : Int) := ⟨(zs[k]?.getD 0).toNat, by omega⟩
        rw [hzz, Int.toNat_natCast] at z1
        rw [hzz] at hc1
        have HE : Hid (S ||| z = metU zs 0 (memK (k + 1) p)) := Lib.hid (by rw [hms, metU_snoc, ← HS.out, hzz, Int.toNat_natCast])
        have hor := or6_at S z hS64 z1
        clear htb hms z0 hzz
        go_wp2
        go_round
        case rel => exact ⟨k + 1, S ||| z, by omega, by go_num, rfl, HE.out⟩
        case measure => simp [intOf]; omega
    · obtain rfl : k = n := by omega
      have HE : Hid (togK zs p = S) := Lib.hid (by rw [HT.out]; exact HS.out.symm)
      go_wp2
      go_ret
      exact ⟨by rw [HE.out]; rfl, rfl⟩

end Go.Proofs.YtnkedijlddakbaaDoor
