/- It is proved what FamilyParts of the model returns; conditions: those of each statement. -/
import Derived.Test.YtgpgocijacgkhaaDoorRows
import Derived.WalkKit
import Derived.WalkSpells
import Derived.ProofKit
import Derived.OpenShut
import Derived.ShutString
import Derived.ChangeOld
import Derived.Below
import Derived.Deep.RegionHeld3
import Derived.Deep.QuietTactic
import Derived.BigQuiet
import Derived.Lib.Hide
import Derived.Lib.SmallJoins
import Derived.Outline
import Derived.Laws.MakeOwn
import Derived.Laws.OwnMore
import Derived.IntWalk
import Derived.RangeFuncNested
import Derived.RangeFuncBound
import Derived.RangeFuncCalls
import Derived.RangeFuncLeaves
import Derived.RangeFuncBox
import Derived.Shelf.Abstract
import Derived.Shelf.RegionOpen
import Derived.OwnWalkIn
import Derived.TacticsInMore
import Derived.LoopNIn
import Derived.LoopIn
import Derived.Maps.AppendAt
import Derived.Deep.AppendLies
import Derived.OwnWalk
import Derived.StillTail
import Derived.StillTactics
import Derived.OrdersIn
import Derived.TacticsIn
import Derived.Shelf.Spec.TrailingZeros
import Derived.StillTailTactics
import Derived.Test.YtgpgocijacgkhaaDoorRaaa
import Derived.Test.YtgpgocijacgkhaaDoorRaab
import Derived.Test.YtgpgocijacgkhaaDoorNc
import Derived.Test.YtgpgocijacgkhaaDoorPa
import Derived.Test.YtgpgocijacgkhaaDoorRaau
import Derived.Test.YtgpgocijacgkhaaDoorPc
import Derived.Test.YtgpgocijacgkhaaDoorPd
import Derived.Test.YtgpgocijacgkhaaDoorTb
import Derived.Test.YtgpgocijacgkhaaDoorRaae
namespace Go.Proofs.YtgpgocijacgkhaaDoor
open Go.RowKit

theorem ksOf_take (zs : List Int) (k : Nat) (h : k < zs.length) : ksOf (zs.take (k + 1)) = ksOf (zs.take k) ++ [(zs[k]?.getD 0).toNat] := by
  rw [take_snoc zs k h]; simp [ksOf]

set_option maxRecDepth 100000 in
set_option maxHeartbeats 2000000 in
theorem l1Part_any (m v : Nat) (hv : v < m) (a : Option Addr) (c : Nat) (zs : List Int) (w : World) (ha : Ints w w.heap.size a zs) (hf : famIn (m : Int) zs = true) :
    Calls Tryd.prog 63 #[.agg #[.int .i64 (m : Int), .slice a zs.length c], .int .i64 (v : Int)] w fun e w' => e = .returned (.int .i64 ((partP m (ksOf zs) v : Nat) : Int)) ∧ Below w.heap.size w w' := by
  have HPc := Lib.hid (isClub_all hf)
  have HK := Lib.hid (ksm_of hf)
  obtain ⟨hm1, hm6, hl8, -⟩ := famIn_out hf
  have hm6' : m ≤ 6 := by omega
  have hp64 : Hid (2 ^ m ≤ 64) := Lib.hid (Nat.pow_le_pow_right (by decide) hm6')
  obtain ⟨n, hn⟩ : ∃ n, n = zs.length := ⟨_, rfl⟩
  have HN := Lib.hid hn
  have hn8 : n ≤ 8 := by omega
  have HB := Lib.hid (below1 w (.cells #[.int .i64 (m : Int), .slice a n c] 25))
  have HI := Lib.hid ha
  obtain ⟨h1q, h2q⟩ := p2_small v (by omega)
  rw [← hn]
  clear ha hf hn hl8
  go_enter Tryd.func63, Tryd.ntmps63
  go_wp2
  go_loop [5, 6] (fun t i => ∃ j : Nat, j ≤ m ∧ i = .int .i64 (j : Int) ∧ t = .int .i64 ((iterP (ksOf zs) j (2 ^ v) : Nat) : Int)) (fun _ i => m - (intOf i).toNat)
  case atStart => exact ⟨0, Nat.zero_le _, rfl, by simp [iterP]⟩
  case round =>
    obtain ⟨j, hj, rfl, rfl⟩ := hrel
    have ht2 := iterP_lt m (ksOf zs) HK.out.lt (2 ^ v) (Nat.pow_lt_pow_right (by decide) hv) j
    obtain ⟨t, ht⟩ : ∃ t, t = iterP (ksOf zs) j (2 ^ v) := ⟨_, rfl⟩
    have HTJ := Lib.hid ht
    rw [← ht] at ht2 ⊢
    clear ht
    by_cases hlt : j < m
    · go_wp2
      go_loop [5, 7] (fun s i => ∃ k : Nat, k ≤ n ∧ i = .int .i64 (k : Int) ∧ s = .int .i64 ((stepP (ksOf (zs.take k)) t : Nat) : Int)) (fun _ i => n - (intOf i).toNat)
      case atStart => exact ⟨0, Nat.zero_le _, rfl, rfl⟩
      case round =>
        obtain ⟨k, hk, rfl, rfl⟩ := hrel
        obtain ⟨d, hd⟩ : ∃ d, d = stepP (ksOf (zs.take k)) t := ⟨_, rfl⟩
        have hd2 : d < 2 ^ m := by
          rw [hd]
          exact stepP_lt m _ (fun x hx => by
            obtain ⟨z, hz, rfl⟩ := List.mem_map.1 hx
            exact HK.out.lt _ (List.mem_map.2 ⟨z, List.mem_of_mem_take hz, rfl⟩)) t ht2
        have HD := Lib.hid hd
        rw [← hd]
        clear hd
        by_cases hlk : k < n
        · obtain ⟨q, hq⟩ : ∃ q : Nat, zs[k]?.getD 0 = (q : Int) := ⟨(zs[k]?.getD 0).toNat, by have := (HPc.out k (by rw [← HN.out]; exact hlk)).2.1; simp only at this; omega⟩
          have hq2 : q < 2 ^ m := by have := (HPc.out k (by rw [← HN.out]; exact hlk)).2.2; simp only [hq] at this; simpa using this
          obtain ⟨b1, o1, rfl, hb1, hc1⟩ := HI.out.at_ (k := k) (by rw [← HN.out]; exact hlk)
          rw [hq] at hc1
          have c1 := (HB.out.cell (p := ⟨b1, o1 + k, none⟩) hb1).trans hc1
          have hst : Hid (stepP (ksOf (zs.take (k + 1))) t = meet1 d q) := Lib.hid (by rw [ksOf_take zs k (by rw [← HN.out]; exact hlk), stepP_snoc, ← HD.out, hq, Int.toNat_natCast])
          have hd64 : d < 64 := by have := hp64.out; omega
          have hq64 : q < 64 := by have := hp64.out; omega
          have HA := and6_at q d hq64 hd64
          have HO := Lib.hid (or6_at d q hd64 hq64)
          have hk0' : (0 : Int) ≤ (k : Int) := by omega
          have hk1' : (k : Int) < (n : Int) := by omega
          clear hc1 hq
          by_cases hm0 : q &&& d = 0
          · have HC : (bits BinOp.and IntKind.i64 (q : Int) (d : Int) != 0) = false := by rw [HA, hm0]; rfl
            have HMT : Hid (meet1 d q = d) := Lib.hid (by simp [meet1, hm0])
            clear hm0 HA
            go_wp2
            go_round
            case rel => exact ⟨k + 1, by omega, by go_num, by rw [hst.out, HMT.out]⟩
            case measure => simp [intOf]; omega
          · have HC : (bits BinOp.and IntKind.i64 (q : Int) (d : Int) != 0) = true := by rw [HA, bne_iff_ne]; omega
            have HMT : Hid (meet1 d q = d ||| q) := Lib.hid (by simp [meet1, hm0])
            clear hm0 HA
            go_wp2
            go_round
            case rel => exact ⟨k + 1, by omega, by go_num, by rw [hst.out, HMT.out, HO.out]⟩
            case measure => simp [intOf]; omega
        · obtain rfl : k = n := by omega
          have hfin : Hid (iterP (ksOf zs) (j + 1) (2 ^ v) = d) := Lib.hid (by rw [HD.out, HN.out, List.take_length, HTJ.out]; rfl)
          go_wp2
          go_round
          case rel => exact ⟨j + 1, by omega, by go_num, by rw [hfin.out]⟩
          case measure => simp [intOf]; omega
    · obtain rfl : j = m := by omega
      have hfin : Hid (partP j (ksOf zs) v = t) := Lib.hid (by rw [HTJ.out]; rfl)
      go_wp2
      go_ret
      exact ⟨by rw [hfin.out]; rfl, HB.out⟩

end Go.Proofs.YtgpgocijacgkhaaDoor
