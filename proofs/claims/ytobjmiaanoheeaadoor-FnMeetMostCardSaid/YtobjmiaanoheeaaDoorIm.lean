/- It is proved what l8Common, MeetHelly and MeetMost of the model return; conditions: those of each statement. -/
import Derived.RowKit
import Derived.Laws.CopyRow
import Derived.Lib.SlBuf
import Derived.Deep.QuietTactic
import Derived.RangeFuncNested
import Derived.RangeFuncBound
import Derived.RangeFuncCalls
import Derived.RangeFuncLeaves
import Derived.RangeFuncBox
import Derived.RangeFuncWrites
import Derived.StillTailTactics
import Derived.Maps.OwnIn
import Derived.Maps.Ext
import Derived.DeepKeys4
import Derived.MapKept
import Derived.Test.YtobjmiaanoheeaaDoorRows
import Derived.WalkKit
import Derived.WalkSpells
import Derived.ProofKit
import Derived.OpenShut
import Derived.ShutString
import Derived.ChangeOld
import Derived.Below
import Derived.Deep.RegionHeld3
import Derived.BigQuiet
import Derived.Lib.Hide
import Derived.Lib.SmallJoins
import Derived.Outline
import Derived.Laws.MakeOwn
import Derived.Laws.OwnMore
import Derived.IntWalk
import Derived.Maps.AppendAt
import Derived.Deep.RegionLaw
import Derived.Deep.AppendLies
import Derived.Lib.AppendZeros
import Derived.OwnWalk
import Derived.Lib.SlicesCompact
import Derived.Lib.OwnBridge
import Derived.OrdersIn
import Derived.TacticsIn
import Derived.Shelf.Sort.Plain
import Derived.Shelf.Slices.In.SortNone
import Derived.Shelf.Slices.CompactI
import Derived.Ground.Names2Prog
import Derived.Lib.SliceRun
import Derived.Laws.BitsAllLaws
import Derived.Shelf.RegionOpen
import Derived.Shelf.Abstract
import Derived.OwnWalkIn
import Derived.TacticsInMore
import Derived.LoopNIn
import Derived.LoopIn
import Derived.StillTail
import Derived.StillTactics
import Derived.Shelf.Spec.TrailingZeros
import Derived.Deep.LoopGhost
import Derived.Test.YtobjmiaanoheeaaDoorRaay
import Derived.Test.YtobjmiaanoheeaaDoorRaaa
import Derived.Test.YtobjmiaanoheeaaDoorRaab
import Derived.Test.YtobjmiaanoheeaaDoorRaam
import Derived.Test.YtobjmiaanoheeaaDoorRaae
import Derived.Test.YtobjmiaanoheeaaDoorRaas
import Derived.Test.YtobjmiaanoheeaaDoorIb
import Derived.Test.YtobjmiaanoheeaaDoorIi
import Derived.Test.YtobjmiaanoheeaaDoorIl
import Derived.Test.YtobjmiaanoheeaaDoorKa
import Derived.Test.YtobjmiaanoheeaaDoorRaao
import Derived.Test.YtobjmiaanoheeaaDoorRaai
import Derived.Test.YtobjmiaanoheeaaDoorRaap
import Derived.Test.YtobjmiaanoheeaaDoorRabj
import Derived.Test.YtobjmiaanoheeaaDoorMe
import Derived.Test.YtobjmiaanoheeaaDoorRaaq
namespace Go.Proofs.YtobjmiaanoheeaaDoor
open Go.RowKit Go.Shelf

/-- The common members of the clubs at the places of a set, the first j of them. -/
def comTo (m : Nat) (zs : List Int) (p j : Nat) : Nat := (List.range j).foldl (fun s i => if p.testBit i then s &&& (zs[i]?.getD 0).toNat else s) (2 ^ m - 1)

theorem comTo_succ (m : Nat) (zs : List Int) (p j : Nat) : comTo m zs p (j + 1) = if p.testBit j then comTo m zs p j &&& (zs[j]?.getD 0).toNat else comTo m zs p j := by
  unfold comTo
  rw [List.range_succ, List.foldl_append]
  rfl

theorem comTo_lt (m : Nat) (zs : List Int) (p : Nat) : ∀ j, comTo m zs p j < 2 ^ m
  | 0 => by have : 1 ≤ 2 ^ m := Nat.one_le_two_pow; show 2 ^ m - 1 < 2 ^ m; omega
  | j + 1 => by
    rw [comTo_succ]
    split
    · exact Nat.lt_of_le_of_lt Nat.and_le_left (comTo_lt m zs p j)
    · exact comTo_lt m zs p j

theorem comTo_bit (m : Nat) (zs : List Int) (p v : Nat) : ∀ j, (comTo m zs p j).testBit v = true ↔ v < m ∧ ∀ i, i < j → p.testBit i = true → (zs[i]?.getD 0).toNat.testBit v = true
  | 0 => by simp [comTo, Nat.testBit_two_pow_sub_one]
  | j + 1 => by
    rw [comTo_succ]
    cases h : p.testBit j
    · simp only [Bool.false_eq_true, if_false]
      rw [comTo_bit m zs p v j]
      constructor
      · rintro ⟨h1, h2⟩
        refine ⟨h1, fun i hi hp => ?_⟩
        rcases Nat.lt_succ_iff_lt_or_eq.1 hi with h3 | rfl
        · exact h2 i h3 hp
        · rw [h] at hp; cases hp
      · rintro ⟨h1, h2⟩
        exact ⟨h1, fun i hi => h2 i (by omega)⟩
    · simp only [if_true]
      rw [Nat.testBit_and, Bool.and_eq_true, comTo_bit m zs p v j]
      constructor
      · rintro ⟨⟨h1, h2⟩, h3⟩
        refine ⟨h1, fun i hi hp => ?_⟩
        rcases Nat.lt_succ_iff_lt_or_eq.1 hi with h4 | rfl
        · exact h2 i h4 hp
        · exact h3
      · rintro ⟨h1, h2⟩
        exact ⟨⟨h1, fun i hi => h2 i (by omega)⟩, h2 j (by omega) h⟩

theorem com_in {m : Nat} (hm : m ≤ 6) {zs : List Int} {p : Nat} (hp : p < 2 ^ zs.length) : inC (duZ m zs) p = decide (comTo m zs p zs.length ≠ 0) := by
  rw [Bool.eq_iff_iff, du_in hm hp, decide_eq_true_eq]
  constructor
  · rintro ⟨v, hv, h⟩ h0
    have := (comTo_bit m zs p v zs.length).2 ⟨hv, fun i _ hi => h i hi⟩
    rw [h0, Nat.zero_testBit] at this
    cases this
  · intro h
    obtain ⟨v, hv⟩ := Nat.exists_testBit_of_ne_zero h
    obtain ⟨h1, h2⟩ := (comTo_bit m zs p v zs.length).1 hv
    exact ⟨v, h1, fun i hi => h2 i (nat_bit_lt hp hi) hi⟩

theorem tie_met {m : Nat} (hm : m ≤ 6) {zs : List Int} (hS : Sets m zs) (hl : zs.length ≤ 8) {p : Nat} (hp : p < 2 ^ zs.length) : tieB (duZ m zs) p = (decide (p ≠ 0) && metP zs p) := by
  rw [Bool.eq_iff_iff, du_tie hm hS hl hp, Bool.and_eq_true, decide_eq_true_eq, metP_iff hp]

theorem loo_met {m : Nat} (hm : m ≤ 6) {zs : List Int} (hS : Sets m zs) (hl : zs.length ≤ 8) {p : Nat} (h1 : 1 ≤ p) (hp : p < 2 ^ zs.length) : looB (duZ m zs) p = (metP zs p && decide (comTo m zs p zs.length = 0)) := by
  unfold looB
  rw [tie_met hm hS hl hp, com_in hm hp, decide_eq_true (show p ≠ 0 by omega), Bool.true_and]
  by_cases h : comTo m zs p zs.length = 0 <;> simp [h]

theorem loo_zero (zs : List Int) : looB zs 0 = false := by unfold looB tieB; simp
set_option maxRecDepth 100000 in
set_option maxHeartbeats 2000000 in
theorem l8Common_any (m : Nat) (hm1 : 1 ≤ m) (hm6 : m ≤ 6) (a : Option Addr) (c : Nat) (zs : List Int) (p : Nat) (hp : p < 256) (w : World) (ha : Ints w w.heap.size a zs) (h8 : zs.length ≤ 8) (hS : Sets m zs) :
    Calls Tryd.prog 71 #[.agg #[.int .i64 (m : Int), .slice a zs.length c], .int .i64 (p : Int)] w fun e w' => e = .returned (.int .i64 ((comTo m zs p zs.length : Nat) : Int)) ∧ Below w.heap.size w w' := by
  have F1 := FB.start (m := (m : Int)) (c := c) ha
  have HB0 := Lib.hid (below1 w (.cells #[.int .i64 (m : Int), .slice a zs.length c] 25))
  have HF1 := Lib.hid F1
  have HSET := Lib.hid hS
  have HC64 : Hid (∀ j, comTo m zs p j < 64) := Lib.hid fun j => p64 hm6 (comTo_lt m zs p j)
  have HSU : Hid (∀ j, comTo m zs p (j + 1) = if p.testBit j then comTo m zs p j &&& (zs[j]?.getD 0).toNat else comTo m zs p j) := Lib.hid (comTo_succ m zs p)
  have HST : Hid (fullI (m : Int) = ((comTo m zs p 0 : Nat) : Int)) := Lib.hid (full_nat m)
  have f_0 := F1.x0
  have f_1 := F1.x1
  obtain ⟨n, hn⟩ : ∃ n, n = zs.length := ⟨_, rfl⟩
  have HN := Lib.hid hn
  obtain ⟨C, hC⟩ : ∃ C : Nat → Nat, C = comTo m zs p := ⟨_, rfl⟩
  rw [← hC] at HC64 HSU HST ⊢
  rw [← hn] at h8 f_1 HB0 ⊢
  clear F1 ha hS hn hC
  go_enter Tryd.func71, Tryd.ntmps71
  go_wp2_with fail
  rw [HN.out]
  refine (l1All_any (m : Int) a _ c _ (by omega) (by omega)).mono ?_
  rintro e w1 ⟨rfl, rfl⟩
  rw [← HN.out, HST.out]
  have HF2 := Lib.hid (HF1.out.step (below1 _ (.cells #[.int .i64 (m : Int), .slice a n c] 25)))
  have HB2 := Lib.hid (HB0.out.trans ((below1 (w.alloc (.cells #[.int .i64 (m : Int), .slice a n c] 25)) (.cells #[.int .i64 (m : Int), .slice a n c] 25)).mono (by simp)))
  rw [← HN.out] at HF2
  obtain ⟨W, hW⟩ : ∃ W, W = (w.alloc (.cells #[.int .i64 (m : Int), .slice a n c] 25)).alloc (.cells #[.int .i64 (m : Int), .slice a n c] 25) := ⟨_, rfl⟩
  rw [← hW] at HF2 HB2 ⊢
  clear f_0 f_1 hW HB0 HF1
  have f_0 := HF2.out.x0
  have f_1 := HF2.out.x1
  rw [← HN.out] at f_1
  go_wp2
  go_loop [5, 6] (fun s i => ∃ j : Nat, j ≤ n ∧ i = .int .i64 (j : Int) ∧ s = .int .i64 ((C j : Nat) : Int)) (fun _ i => n - (intOf i).toNat)
  case atStart => exact ⟨0, Nat.zero_le _, rfl, rfl⟩
  case round =>
    obtain ⟨j, hj, rfl, rfl⟩ := hrel
    by_cases hlt : j < n
    · have hji : (j : Int) < (n : Int) := by omega
      have hj0 : (0 : Int) ≤ (j : Int) := by omega
      obtain ⟨b, off, rfl, hbb, hcc⟩ := HF2.out.ints.at_ (k := j) (by rw [← HN.out]; exact hlt)
      have hzm := HSET.out _ (getD_mem (zs := zs) (i := j) (by rw [← HN.out]; exact hlt))
      obtain ⟨z, hz⟩ : ∃ z : Nat, zs[j]?.getD 0 = (z : Int) := ⟨(zs[j]?.getD 0).toNat, by have := hzm.1; omega⟩
      have hz64 : z < 64 := by have := p64 hm6 hzm.2; rw [hz, Int.toNat_natCast] at this; exact this
      have HS1 := HSU.out j
      rw [hz, Int.toNat_natCast] at HS1
      rw [hz] at hcc
      have hA64 := HC64.out j
      obtain ⟨A, hA⟩ : ∃ A, A = C j := ⟨_, rfl⟩
      rw [← hA] at HS1 hA64 ⊢
      have han : bits BinOp.and IntKind.i64 (A : Int) (z : Int) = ((A &&& z : Nat) : Int) := and_at8 (by omega) (by omega)
      have hbk : (bits BinOp.and IntKind.i64 ((p : Int) / 2 ^ j) 1 == 1) = p.testBit j := has8_fin ⟨p, hp⟩ ⟨j, by omega⟩
      clear hz hzm hA
      cases hb : p.testBit j
      · rw [hb] at hbk HS1
        simp only [Bool.false_eq_true, if_false] at HS1
        clear hb han
        go_wp2
        go_round
        case rel => exact ⟨j + 1, by omega, by go_num, by rw [HS1]⟩
        case measure => simp [intOf]; omega
      · rw [hb] at hbk HS1
        simp only [if_true] at HS1
        clear hb
        go_wp2
        go_round
        case rel => exact ⟨j + 1, by omega, by go_num, by rw [HS1]⟩
        case measure => simp [intOf]; omega
    · obtain rfl : j = n := by omega
      go_wp2
      go_ret
      exact ⟨rfl, HB2.out⟩

theorem cast_pow2 (n : Nat) : ((2 ^ n : Nat) : Int) = (2 : Int) ^ n := by norm_cast
set_option maxRecDepth 100000 in
set_option maxHeartbeats 4000000 in
theorem specHelly_any (m : Int) (a : Option Addr) (c : Nat) (zs : List Int) (w : World) (ha : Ints w w.heap.size a zs) (hx : zs.length ≤ 1048576) :
    Calls Tryd.prog 30 #[.agg #[.int .i64 m, .slice a zs.length c]] w fun e w' => e = .returned (.bool (hellyB m zs)) ∧ Below w.heap.size w w' := by
  have F1 := FB.start (m := m) (c := c) ha
  have HB0 := Lib.hid (below1 w (.cells #[.int .i64 m, .slice a zs.length c] 25))
  have HF1 := Lib.hid F1
  have HFI := Lib.hid (specFamilyIn_any m a c zs _ F1.ints hx)
  have f_0 := F1.x0
  have f_1 := F1.x1
  clear F1
  cases hf : famIn m zs
  · have HF := Lib.hid hf
    have HR : Hid (hellyB m zs = false) := Lib.hid (by unfold hellyB; rw [hf]; rfl)
    clear hf ha
    go_enter Tryd.func30, Tryd.ntmps30
    go_wp2_with fail
    refine HFI.out.mono ?_
    rintro e w2 ⟨rfl, hb2⟩
    rw [HF.out]
    have HB2 := Lib.hid (HB0.out.trans (hb2.mono (by simp)))
    clear hb2 f_0 f_1
    go_wp2
    go_ret
    exact ⟨by rw [HR.out]; rfl, HB2.out⟩
  · have HF := Lib.hid hf
    obtain ⟨k, rfl, hk1, hk6, hset, hl8⟩ := fam_nat2 hf
    have HR : Hid (hellyB (k : Int) zs = tcB zs.length (duZ k zs)) := Lib.hid (by unfold hellyB; rw [hf, Int.toNat_natCast]; rfl)
    have HLM : Hid (∀ p : Nat, 1 ≤ p → p < 2 ^ zs.length → looB (duZ k zs) p = (metP zs p && decide (comTo k zs p zs.length = 0))) := Lib.hid fun p h1 hp => loo_met hk6 hset hl8 h1 hp
    have HME : Hid (∀ (p : Nat) W, p < 256 → Ints W W.heap.size a zs → Calls Tryd.prog 70 #[.slice a zs.length c, .int .i64 (p : Int)] W fun e w' => e = .returned (.bool (metP zs p)) ∧ Below W.heap.size W w') := Lib.hid fun p W hp h => l8Meeting_any k hk6 a c zs p hp W h hl8 hset
    have HCO : Hid (∀ (p : Nat) W, p < 256 → Ints W W.heap.size a zs → Calls Tryd.prog 71 #[.agg #[.int .i64 (k : Int), .slice a zs.length c], .int .i64 (p : Int)] W fun e w' => e = .returned (.int .i64 ((comTo k zs p zs.length : Nat) : Int)) ∧ Below W.heap.size W w') := Lib.hid fun p W hp h => l8Common_any k hk1 hk6 a c zs p hp W h hl8 hset
    obtain ⟨n, hn⟩ : ∃ n, n = zs.length := ⟨_, rfl⟩
    have HN := Lib.hid hn
    obtain ⟨P, hP⟩ : ∃ P, P = 2 ^ n := ⟨_, rfl⟩
    have hP256 : P ≤ 256 := by rw [hP]; exact Nat.pow_le_pow_right (n := 2) (by decide) (by omega : n ≤ 8)
    have hP1 : 1 ≤ P := by rw [hP]; exact Nat.one_le_two_pow
    have HP : Hid ((2 : Int) ^ n = (P : Int)) := Lib.hid (by rw [hP, cast_pow2])
    have HPW : Hid (IntKind.i64.wrap ((2 : Int) ^ n) = (P : Int)) := Lib.hid (by rw [HP.out, IntKind.wrap_i64]; omega)
    have HPN := Lib.hid hP
    have hn64 : (n : Int) < 64 := by omega
    rw [← hn] at HLM HME HCO HR HFI HB0 f_1 ⊢
    rw [← hP] at HLM
    clear hf ha hset hn hP
    go_enter Tryd.func30, Tryd.ntmps30
    go_wp2_with fail
    refine HFI.out.mono ?_
    rintro e w2 ⟨rfl, hb2⟩
    rw [HF.out]
    have hb2' := hb2
    rw [HN.out] at hb2'
    have HF2 := Lib.hid (HF1.out.step hb2')
    clear hb2'
    have HB2 := Lib.hid (HB0.out.trans (hb2.mono (by simp)))
    clear hb2 f_0 f_1
    go_wp2
    go_loopw [3] (fun i wr => ∃ p : Nat, 1 ≤ p ∧ p ≤ P ∧ i = .int .i64 (p : Int) ∧ Hid (∀ q, q < p → looB (duZ k zs) q = false) ∧ Below w2.heap.size w2 wr) (fun i _ => P - (intOf i).toNat)
    case atStart => exact ⟨1, by omega, hP1, rfl, Lib.hid (fun q hq => by have hq0 : q = 0 := (by omega); rw [hq0]; exact loo_zero _), Below.refl _ _⟩
    case round =>
      obtain ⟨p, hp1, hpP, rfl, HE, hb⟩ := hrel
      have HFr := Lib.hid (HF2.out.step hb)
      have f_0 := HFr.out.x0
      have f_1 := HFr.out.x1
      rw [← HN.out] at f_1
      have HBr := Lib.hid hb
      have hpw := HPW.out
      clear hb
      by_cases hlt : p < P
      · have hpI : (p : Int) < (P : Int) := by omega
        have HC1 := Lib.hid (HME.out p wr (by omega) HFr.out.ints)
        have HL := HLM.out p hp1 hlt
        obtain ⟨M, hM⟩ : ∃ M, M = metP zs p := ⟨_, rfl⟩
        rw [← hM] at HC1 HL
        clear hM
        cases M
        · have HNX : Hid (∀ q, q < p + 1 → looB (duZ k zs) q = false) := Lib.hid fun q hq => by
            rcases Nat.lt_succ_iff_lt_or_eq.1 hq with h | rfl
            · exact HE.out q h
            · rw [HL]; rfl
          clear HL
          go_wp2_with fail
          refine HC1.out.mono ?_
          rintro e w3 ⟨rfl, hb3⟩
          have HB3 := Lib.hid (HBr.out.trans (hb3.mono HBr.out.size))
          clear hb3
          go_wp2
          go_roundw
          case rel => exact ⟨p + 1, by omega, by omega, by go_num, HNX, HB3.out⟩
          case measure => simp [intOf]; omega
        · have HL1 := Lib.hid HL
          clear HL
          go_wp2_with fail
          refine HC1.out.mono ?_
          rintro e w3 ⟨rfl, hb3⟩
          have HB3 := Lib.hid (HBr.out.trans (hb3.mono HBr.out.size))
          have HF3 := Lib.hid (HF2.out.step HB3.out)
          clear hb3 f_0 f_1
          have f_0 := HF3.out.x0
          have f_1 := HF3.out.x1
          rw [← HN.out] at f_1
          have HC2 := Lib.hid (HCO.out p w3 (by omega) HF3.out.ints)
          obtain ⟨C, hC⟩ : ∃ C, C = comTo k zs p n := ⟨_, rfl⟩
          rw [← hC] at HC2 HL1
          clear hC
          go_wp2_with fail
          refine HC2.out.mono ?_
          rintro e w4 ⟨rfl, hb4⟩
          have HB4 := Lib.hid (HB3.out.trans (hb4.mono HB3.out.size))
          clear hb4
          by_cases h0 : C = 0
          · subst h0
            have HNO : Hid (tcB n (duZ k zs) = false) := Lib.hid (List.all_eq_false.2 ⟨p, List.mem_range.2 (by rw [← HPN.out]; exact hlt), by rw [HL1.out]; decide⟩)
            go_wp2
            go_ret
            exact ⟨by rw [HR.out, HNO.out]; rfl, HB2.out.trans (HB4.out.mono HB2.out.size)⟩
          · have hc0 : ((C : Int) == 0) = false := by rw [beq_eq_false_iff_ne]; omega
            have HNX : Hid (∀ q, q < p + 1 → looB (duZ k zs) q = false) := Lib.hid fun q hq => by
              rcases Nat.lt_succ_iff_lt_or_eq.1 hq with h | rfl
              · exact HE.out q h
              · rw [HL1.out, decide_eq_false h0]; rfl
            go_wp2
            go_roundw
            case rel => exact ⟨p + 1, by omega, by omega, by go_num, HNX, HB4.out⟩
            case measure => simp [intOf]; omega
      · obtain rfl : p = P := by omega
        have HYES : Hid (tcB n (duZ k zs) = true) := Lib.hid (List.all_eq_true.2 fun s hs => by
          rw [HE.out s (by rw [HPN.out]; exact List.mem_range.1 hs)]; rfl)
        have hpI : ¬ ((p : Int) < (p : Int)) := by omega
        go_wp2
        go_ret
        exact ⟨by rw [HR.out, HYES.out]; rfl, HB2.out.trans (HBr.out.mono HB2.out.size)⟩

theorem tmOf_met {m : Nat} (hm : m ≤ 6) {zs : List Int} (hS : Sets m zs) (hl : zs.length ≤ 8) {p : Nat} (hp : p < 2 ^ zs.length) : tmOf (duZ m zs) (List.range (p + 1)) = if metP zs p then max (tmOf (duZ m zs) (List.range p)) (cntK 8 p) else tmOf (duZ m zs) (List.range p) := by
  rw [List.range_succ, tmOf_snoc, tie_met hm hS hl hp]
  by_cases h0 : p = 0
  · subst h0
    have : cntK 8 0 = 0 := by decide
    rw [this]
    cases metP zs 0 <;> simp
  · rw [decide_eq_true h0, Bool.true_and]; rfl

theorem tmOf_le (zs : List Int) : ∀ qs : List Nat, tmOf zs qs ≤ 8 := by
  have key : ∀ (qs : List Nat) (b : Nat), b ≤ 8 → qs.foldl (fun b q => if tieB zs q then max b (memK 8 q).length else b) b ≤ 8 := by
    intro qs
    induction qs with
    | nil => intro b hb; exact hb
    | cons q qs ih =>
      intro b hb
      rw [List.foldl_cons]
      refine ih _ ?_
      have := memK_len 8 q
      split <;> omega
  exact fun qs => key qs 0 (by omega)

set_option maxRecDepth 100000 in
set_option maxHeartbeats 4000000 in
theorem specMost_any (m : Int) (a : Option Addr) (c : Nat) (zs : List Int) (w : World) (ha : Ints w w.heap.size a zs) (hx : zs.length ≤ 1048576) :
    Calls Tryd.prog 36 #[.agg #[.int .i64 m, .slice a zs.length c]] w (RetIB w (tmZ m zs) (famIn m zs)) := by
  have F1 := FB.start (m := m) (c := c) ha
  have HB0 := Lib.hid (below1 w (.cells #[.int .i64 m, .slice a zs.length c] 25))
  have HF1 := Lib.hid F1
  have HFI := Lib.hid (specFamilyIn_any m a c zs _ F1.ints hx)
  have f_0 := F1.x0
  have f_1 := F1.x1
  clear F1
  cases hf : famIn m zs
  · have HF := Lib.hid hf
    have HR : Hid (tmZ m zs = 0) := Lib.hid (by unfold tmZ; rw [hf]; rfl)
    clear hf ha
    go_enter Tryd.func36, Tryd.ntmps36
    go_wp2_with fail
    refine HFI.out.mono ?_
    rintro e w2 ⟨rfl, hb2⟩
    rw [HF.out]
    have HB2 := Lib.hid (HB0.out.trans (hb2.mono (by simp)))
    clear hb2 f_0 f_1
    go_wp2
    go_ret2
    exact ⟨by rw [HR.out]; rfl, HB2.out⟩
  · have HF := Lib.hid hf
    obtain ⟨k, rfl, hk1, hk6, hset, hl8⟩ := fam_nat2 hf
    have HR : Hid (tmZ (k : Int) zs = ((tmOf (duZ k zs) (List.range (2 ^ zs.length)) : Nat) : Int)) := Lib.hid (by unfold tmZ; rw [hf, Int.toNat_natCast]; rfl)
    have HTM : Hid (∀ p : Nat, p < 2 ^ zs.length → tmOf (duZ k zs) (List.range (p + 1)) = if metP zs p then max (tmOf (duZ k zs) (List.range p)) (cntK 8 p) else tmOf (duZ k zs) (List.range p)) := Lib.hid fun p hp => tmOf_met hk6 hset hl8 hp
    have HME : Hid (∀ (p : Nat) W, p < 256 → Ints W W.heap.size a zs → Calls Tryd.prog 70 #[.slice a zs.length c, .int .i64 (p : Int)] W fun e w' => e = .returned (.bool (metP zs p)) ∧ Below W.heap.size W w') := Lib.hid fun p W hp h => l8Meeting_any k hk6 a c zs p hp W h hl8 hset
    obtain ⟨n, hn⟩ : ∃ n, n = zs.length := ⟨_, rfl⟩
    have HN := Lib.hid hn
    obtain ⟨P, hP⟩ : ∃ P, P = 2 ^ n := ⟨_, rfl⟩
    have hP256 : P ≤ 256 := by rw [hP]; exact Nat.pow_le_pow_right (n := 2) (by decide) (by omega : n ≤ 8)
    have hP1 : 1 ≤ P := by rw [hP]; exact Nat.one_le_two_pow
    have HP : Hid ((2 : Int) ^ n = (P : Int)) := Lib.hid (by rw [hP, cast_pow2])
    have HPW : Hid (IntKind.i64.wrap ((2 : Int) ^ n) = (P : Int)) := Lib.hid (by rw [HP.out, IntKind.wrap_i64]; omega)
    obtain ⟨T, hT⟩ : ∃ T : Nat → Nat, T = fun p => tmOf (duZ k zs) (List.range p) := ⟨_, rfl⟩
    have HT8 : Hid (∀ p, T p ≤ 8) := Lib.hid fun p => by rw [hT]; exact tmOf_le _ _
    have HT0 : Hid (T 0 = 0) := Lib.hid (by rw [hT]; rfl)
    have hn64 : (n : Int) < 64 := by omega
    rw [← hn] at HTM HME HR HFI HB0 f_1 ⊢
    rw [← hP] at HTM HR
    have HTM2 : Hid (∀ p, p < P → T (p + 1) = if metP zs p then max (T p) (cntK 8 p) else T p) := Lib.hid fun p hp => by rw [hT]; exact HTM.out p hp
    have HR2 : Hid (tmZ (k : Int) zs = ((T P : Nat) : Int)) := Lib.hid (by rw [HR.out, hT])
    clear hf ha hset hn hP hT HTM HR
    go_enter Tryd.func36, Tryd.ntmps36
    go_wp2_with fail
    refine HFI.out.mono ?_
    rintro e w2 ⟨rfl, hb2⟩
    rw [HF.out]
    have hb2' := hb2
    rw [HN.out] at hb2'
    have HF2 := Lib.hid (HF1.out.step hb2')
    clear hb2'
    have HB2 := Lib.hid (HB0.out.trans (hb2.mono (by simp)))
    clear hb2 f_0 f_1
    go_wp2
    go_loopw [4, 5] (fun s i wr => ∃ p : Nat, p ≤ P ∧ i = .int .i64 (p : Int) ∧ s = .int .i64 ((T p : Nat) : Int) ∧ Below w2.heap.size w2 wr) (fun _ i _ => P - (intOf i).toNat)
    case atStart => exact ⟨0, by omega, rfl, by rw [HT0.out]; rfl, Below.refl _ _⟩
    case round =>
      obtain ⟨p, hpP, rfl, rfl, hb⟩ := hrel
      have HFr := Lib.hid (HF2.out.step hb)
      have f_0 := HFr.out.x0
      have f_1 := HFr.out.x1
      rw [← HN.out] at f_1
      have HBr := Lib.hid hb
      have hpw := HPW.out
      clear hb
      by_cases hlt : p < P
      · have hpI : (p : Int) < (P : Int) := by omega
        have HC1 := Lib.hid (HME.out p wr (by omega) HFr.out.ints)
        have HL := HTM2.out p hlt
        have hT8 := HT8.out p
        obtain ⟨A, hA⟩ : ∃ A, A = T p := ⟨_, rfl⟩
        rw [← hA] at HL hT8 ⊢
        obtain ⟨M, hM⟩ : ∃ M, M = metP zs p := ⟨_, rfl⟩
        rw [← hM] at HC1 HL
        clear hM hA
        cases M
        · have HL1 : Hid (T (p + 1) = A) := Lib.hid (by rw [HL]; rfl)
          clear HL
          go_wp2_with fail
          refine HC1.out.mono ?_
          rintro e w3 ⟨rfl, hb3⟩
          have HB3 := Lib.hid (HBr.out.trans (hb3.mono HBr.out.size))
          clear hb3
          go_wp2
          go_roundw
          case rel => exact ⟨p + 1, by omega, by go_num, by rw [HL1.out], HB3.out⟩
          case measure => simp [intOf]; omega
        · have HL1 : Hid (T (p + 1) = max A (cntK 8 p)) := Lib.hid (by rw [HL]; rfl)
          clear HL
          go_wp2_with fail
          refine HC1.out.mono ?_
          rintro e w3 ⟨rfl, hb3⟩
          have HB3 := Lib.hid (HBr.out.trans (hb3.mono HBr.out.size))
          clear hb3 f_0 f_1
          go_wp2_with fail
          refine (l1SizeW_any p w3 (by omega)).mono ?_
          rintro e w4 ⟨rfl, rfl⟩
          go_wp2
          go_roundw
          case rel => exact ⟨p + 1, by omega, by go_num, by rw [HL1.out, show ((max A (cntK 8 p) : Nat) : Int) = max (A : Int) ((cntK 8 p : Nat) : Int) by omega], HB3.out⟩
          case measure => simp [intOf]; omega
      · obtain rfl : p = P := by omega
        have hpI : ¬ ((p : Int) < (p : Int)) := by omega
        go_wp2
        go_ret2
        exact ⟨by rw [HR2.out]; rfl, HB2.out.trans (HBr.out.mono HB2.out.size)⟩

end Go.Proofs.YtobjmiaanoheeaaDoor
