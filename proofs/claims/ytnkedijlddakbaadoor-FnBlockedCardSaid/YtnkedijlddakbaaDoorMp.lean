/- It is proved that the call of the law FnBad returns true; conditions: those of each statement. -/
import Derived.RowKit
import Derived.Laws.CopyRow
import Derived.Lib.SlBuf
import Derived.Deep.QuietTactic
import Derived.RangeFuncNested
import Derived.RangeFuncBound
import Derived.RangeFuncCalls
import Derived.RangeFuncLeaves
import Derived.RangeFuncBox
import Derived.RangeFuncWrites
import Derived.StillTailTactics
import Derived.Maps.OwnIn
import Derived.Maps.Ext
import Derived.DeepKeys4
import Derived.MapKept
import Derived.Test.YtnkedijlddakbaaDoorRows
import Derived.WalkKit
import Derived.WalkSpells
import Derived.ProofKit
import Derived.OpenShut
import Derived.ShutString
import Derived.ChangeOld
import Derived.Below
import Derived.Deep.RegionHeld3
import Derived.BigQuiet
import Derived.Lib.Hide
import Derived.Lib.SmallJoins
import Derived.Outline
import Derived.Laws.MakeOwn
import Derived.Laws.OwnMore
import Derived.IntWalk
import Derived.Maps.AppendAt
import Derived.Deep.RegionLaw
import Derived.Deep.AppendLies
import Derived.Lib.AppendZeros
import Derived.OwnWalk
import Derived.Lib.SlicesCompact
import Derived.Lib.OwnBridge
import Derived.OrdersIn
import Derived.TacticsIn
import Derived.Shelf.Sort.Plain
import Derived.Shelf.Slices.In.SortNone
import Derived.Shelf.Slices.CompactI
import Derived.Ground.Names2Prog
import Derived.Lib.SliceRun
import Derived.Shelf.RegionOpen
import Derived.Shelf.Abstract
import Derived.OwnWalkIn
import Derived.TacticsInMore
import Derived.LoopNIn
import Derived.LoopIn
import Derived.StillTail
import Derived.StillTactics
import Derived.Shelf.Spec.TrailingZeros
import Derived.Test.YtnkedijlddakbaaDoorDa
import Derived.Test.YtnkedijlddakbaaDoorDb
import Derived.Test.YtnkedijlddakbaaDoorDd
import Derived.Test.YtnkedijlddakbaaDoorMrab
import Derived.Test.YtnkedijlddakbaaDoorFb
import Derived.Test.YtnkedijlddakbaaDoorMrak
import Derived.Test.YtnkedijlddakbaaDoorMrae
import Derived.Test.YtnkedijlddakbaaDoorMrah
import Derived.Test.YtnkedijlddakbaaDoorKr
import Derived.Test.YtnkedijlddakbaaDoorMa
import Derived.Test.YtnkedijlddakbaaDoorMb
import Derived.Test.YtnkedijlddakbaaDoorMc
import Derived.Test.YtnkedijlddakbaaDoorMrao
import Derived.Test.YtnkedijlddakbaaDoorMe
import Derived.Test.YtnkedijlddakbaaDoorMf
import Derived.Test.YtnkedijlddakbaaDoorMg
import Derived.Test.YtnkedijlddakbaaDoorMo
import Derived.Test.YtnkedijlddakbaaDoorMrac
namespace Go.Proofs.YtnkedijlddakbaaDoor
open Go.RowKit

set_option maxRecDepth 100000 in
theorem lawSizeW_any (z : Nat) (w : World) (h : z < 256) : Calls Tryd.prog 12 #[.int .i64 (z : Int)] w fun e w' => e = .returned (.int .i64 ((cntK 8 z : Nat) : Int)) ∧ w = w' := by
  go_enter Tryd.func12, Tryd.ntmps12
  go_wp2
  go_loop [0, 3] (fun s n => ∃ t k : Nat, t < 256 ∧ k + cntK 8 t = cntK 8 z ∧ s = .int .i64 (t : Int) ∧ n = .int .i64 (k : Int)) (fun s _ => (intOf s).toNat)
  case atStart => exact ⟨z, 0, h, by omega, rfl, rfl⟩
  case round =>
    obtain ⟨t, k, ht, hk, rfl, rfl⟩ := hrel
    have hz8 := cntK_bound 8 z
    have hk8 : k ≤ 8 := by omega
    have hlow := low8_fin ⟨t, ht⟩
    have hhf := cnt8_half ⟨t, ht⟩
    simp only at hlow hhf
    have HK := Lib.hid hk
    have HH := Lib.hid hhf
    have hm2 : t % 2 < 2 := Nat.mod_lt _ (by decide)
    obtain ⟨r, hr⟩ : ∃ r, r = t % 2 := ⟨_, rfl⟩
    rw [← hr] at hlow hm2
    have HR := Lib.hid hr
    have htI : (t : Int) ≤ 255 := by omega
    have hkI : (k : Int) ≤ 8 := by omega
    have hrI : (r : Int) ≤ 1 := by omega
    clear hk hhf hr
    by_cases h0 : 0 < t
    · have h0I : (0 : Int) < (t : Int) := by omega
      go_wp2
      go_round
      case rel => exact ⟨t / 2, k + r, by omega, by have := HK.out; have := HH.out; have := HR.out; omega, by go_num, by go_num⟩
      case measure => simp [intOf]; omega
    · have ht0 : t = 0 := by omega
      have e0 : cntK 8 t = 0 := by rw [ht0]; unfold cntK; rw [memK_zero]; rfl
      have HE : Hid (cntK 8 z = k) := Lib.hid (by have := HK.out; omega)
      have h0I : ¬ ((0 : Int) < (t : Int)) := by omega
      clear ht0 e0
      go_wp2
      go_ret
      exact ⟨by rw [HE.out]; rfl, rfl⟩

theorem bad_facts {m : Int} {zs : List Int} (h : badB m zs = true) :
    ∃ g : Nat, badZ m zs = (g : Int) ∧ 0 < g ∧ g < 2 ^ zs.length ∧ cntK 8 (togK zs g) < cntK 8 g ∧ zs.length ≤ 8 ∧ ∀ z ∈ zs, 0 ≤ z ∧ z.toNat < 64 := by
  have h' := h
  unfold badB at h'
  rw [Bool.and_eq_true] at h'
  obtain ⟨hf, hs⟩ := h'
  obtain ⟨k, rfl, hk1, hk6, hS, hl8⟩ := fam_nat2 hf
  obtain ⟨g, hg⟩ := Option.isSome_iff_exists.1 hs
  have hz : badZ (k : Int) zs = (g : Int) := by unfold badZ; rw [hf, if_pos rfl, hg]; rfl
  have hov := List.find?_some hg
  have hov2 : 0 < overP zs g := by simpa using hov
  refine ⟨g, hz, ?_, badF_lt hg, ?_, hl8, fun z hzm => ⟨(hS z hzm).1, p64 hk6 (hS z hzm).2⟩⟩
  · rcases Nat.eq_zero_or_pos g with e | e
    · rw [e, overP_zero] at hov2; omega
    · exact e
  · unfold overP at hov2
    omega

set_option maxRecDepth 100000 in
set_option maxHeartbeats 8000000 in
theorem walkFnBad (a : Option Addr) (n cap : Nat) (w : World) (hb : Bys w w.heap.size a n) (hT : Tab w) (hn : n ≤ 1048576) (hc : n ≤ cap) (hc2 : cap ≤ 9223372036854775807) :
    Calls Tryd.prog 3 #[.slice a n cap] w fun e w' => e = .returned (.bool true) ∧ Below w.heap.size w w' := by
  have HBy := Lib.hid hb
  have HT := Lib.hid hT
  clear hb hT
  go_enter Tryd.func3, Tryd.ntmps3
  go_wp2_with fail
  refine (drawSpeakerBad_any a n cap w HBy.out hn hc hc2).mono ?_
  rintro e w1 ⟨m, a1, zs, c1, rfl, hl, ho1, hb1⟩
  have F1 := FB.start (m := m) (c := c1) (own_ints ho1)
  have B1 := Lib.hid (hb1.trans ((below1 w1 (.cells #[.int .i64 m, .slice a1 zs.length c1] 25)).mono hb1.size))
  have hln : zs.length ≤ 1048576 := by omega
  have f_f_1 := Lib.hid F1
  clear F1 ho1 hb1
  have f_0 := f_f_1.out.x0
  have f_1 := f_f_1.out.x1
  obtain ⟨G, hG⟩ : ∃ G, G = badZ m zs := ⟨_, rfl⟩
  obtain ⟨K, hK⟩ : ∃ K, K = badB m zs := ⟨_, rfl⟩
  have HI := Lib.hid (fun W hi hT => implSpeakerBad_any m a1 c1 zs W hi hT hln)
  have HSP := Lib.hid (fun W hi => specSpeakerBad_any m a1 c1 zs W hi hln)
  rw [← hG, ← hK] at HI HSP
  have HG := Lib.hid hG
  have HK := Lib.hid hK
  clear hG hK
  go_wp2_with fail
  refine (HI.out _ f_f_1.out.ints (HT.out.below B1.out HT.out.lt)).mono ?_
  rintro e w2 ⟨rfl, hb2⟩
  have B2 := Lib.hid (B1.out.trans (hb2.mono B1.out.size))
  have f_f_2 := Lib.hid (f_f_1.out.step hb2)
  clear hb2 B1 f_f_1
  clear f_0 f_1
  have f_0 := f_f_2.out.x0
  have f_1 := f_f_2.out.x1
  go_wp2_with fail
  refine (HSP.out _ f_f_2.out.ints).mono ?_
  rintro e w3 ⟨rfl, hb3⟩
  have B3 := Lib.hid (B2.out.trans (hb3.mono B2.out.size))
  have f_f_3 := Lib.hid (f_f_2.out.step hb3)
  clear hb3 B2 f_f_2
  clear f_0 f_1
  have f_0 := f_f_3.out.x0
  have f_1 := f_f_3.out.x1
  clear HI HSP
  cases K
  · clear HK HG
    go_wp2
    go_ret
    exact ⟨rfl, B3.out⟩
  · obtain ⟨g, e0, hg0, hgl, hlt, h8, hz6⟩ := bad_facts HK.out.symm
    obtain rfl : G = (g : Int) := HG.out.trans e0
    have hg256 : g < 256 := Nat.lt_of_lt_of_le hgl (Nat.pow_le_pow_right (n := 2) (by decide) h8)
    obtain ⟨A, hA⟩ : ∃ A, A = cntK 8 g := ⟨_, rfl⟩
    obtain ⟨B, hB⟩ : ∃ B, B = cntK 8 (togK zs g) := ⟨_, rfl⟩
    obtain ⟨T, hT2⟩ : ∃ T, T = togK zs g := ⟨_, rfl⟩
    have hT64 : T < 64 := by rw [hT2]; exact tog_lt (fun z h => (hz6 z h).2) g
    have HSA := Lib.hid (fun W => lawSizeW_any g W hg256)
    have HSB := Lib.hid (fun W => lawSizeW_any T W (by omega))
    rw [← hA] at hlt HSA
    rw [← hB] at hlt
    rw [hT2, ← hB, ← hT2] at HSB
    have hBA : (B : Int) < (A : Int) := by omega
    obtain ⟨Y, hY⟩ : ∃ Y, Y = zs.length := ⟨_, rfl⟩
    have HY := Lib.hid hY
    have hY8 : Y ≤ 8 := by omega
    obtain ⟨N, hN⟩ : ∃ N, N = 2 ^ Y := ⟨_, rfl⟩
    have hNI : (2 : Int) ^ Y = (N : Int) := by rw [hN]; norm_cast
    have hN256 : N ≤ 256 := by rw [hN]; exact Nat.pow_le_pow_right (n := 2) (by decide) hY8
    have hgN : (g : Int) < (N : Int) := by rw [hN, hY]; omega
    have hg0I : (0 : Int) < (g : Int) := by omega
    have hY64 : (Y : Int) < 64 := by omega
    have hY0 : (0 : Int) ≤ (Y : Int) := by omega
    have hNII : (N : Int) ≤ 256 := by omega
    have f_1' : w3.cell? ⟨w1.heap.size, 1, none⟩ = some (.slice a1 Y c1) := by rw [hY]; exact f_1
    have HI2 := Lib.hid f_f_3.out.ints
    have HTT : Hid (T = metU zs 0 (memK Y g)) := Lib.hid (by rw [hT2]; unfold togK; rw [hY])
    have HZ6 := Lib.hid hz6
    clear f_1 hY hA hB hT2 hN hz6 HG HK e0 hgl h8 hlt hln hl
    go_wp2
    go_loop [8, 9] (fun s i => ∃ k S : Nat, k ≤ Y ∧ i = .int .i64 (k : Int) ∧ s = .int .i64 (S : Int) ∧ S = metU zs 0 (memK k g)) (fun _ i => Y - (intOf i).toNat)
    case atStart => exact ⟨0, 0, Nat.zero_le _, rfl, rfl, rfl⟩
    case round =>
      obtain ⟨k, S, hk, rfl, rfl, hS⟩ := hrel
      have hS64 : S < 64 := by rw [hS]; exact metU_lt (fun z h => (HZ6.out z h).2) _ 0 (by decide)
      have HS := Lib.hid hS
      clear hS
      by_cases hlt : k < Y
      · have hms := memK_succ k g
        have hk0 : (0 : Int) ≤ (k : Int) := by omega
        have hk64 : (k : Int) < 64 := by omega
        have hkI : (k : Int) < (Y : Int) := by omega
        have hbv := bitW_val (s := g) (v := k) hg256 (by omega)
        cases htb : g.testBit k
        · rw [htb] at hbv hms
          simp only [Bool.false_eq_true, if_false, List.append_nil] at hbv hms
          have HE : Hid (S = metU zs 0 (memK (k + 1) g)) := Lib.hid (by rw [hms]; exact HS.out)
          clear htb hms
          go_wp2
          go_round
          case rel => exact ⟨k + 1, S, by omega, by go_num, rfl, HE.out⟩
          case measure => simp [intOf]; omega
        · rw [htb] at hbv hms
          simp only [if_true] at hbv hms
          obtain ⟨b1, o1, rfl, hb1, hc1⟩ := HI2.out.at_ (k := k) (by rw [← HY.out]; exact hlt)
          obtain ⟨z0, z1⟩ := HZ6.out _ (at_in (k := k) (by rw [← HY.out]; exact hlt))
          obtain ⟨z, hzz⟩ : ∃ z : Nat, zs[k]?.getD 0 = (z : Int) := ⟨(zs[k]?.getD 0).toNat, by omega⟩
          rw [hzz, Int.toNat_natCast] at z1
          rw [hzz] at hc1
          have HE : Hid (S ||| z = metU zs 0 (memK (k + 1) g)) := Lib.hid (by rw [hms, metU_snoc, ← HS.out, hzz, Int.toNat_natCast])
          have hor := or6_at S z hS64 z1
          clear htb hms z0 hzz
          go_wp2
          go_round
          case rel => exact ⟨k + 1, S ||| z, by omega, by go_num, rfl, HE.out⟩
          case measure => simp [intOf]; omega
      · obtain rfl : k = Y := by omega
        have hST : S = T := by rw [HS.out, HTT.out]
        subst hST
        clear HTT HS
        go_wp2_with fail
        refine (HSB.out _).mono ?_
        rintro e w9 ⟨rfl, rfl⟩
        go_wp2_with fail
        refine (HSA.out _).mono ?_
        rintro e w9 ⟨rfl, rfl⟩
        go_wp2
        go_ret
        exact ⟨rfl, B3.out⟩

end Go.Proofs.YtnkedijlddakbaaDoor
