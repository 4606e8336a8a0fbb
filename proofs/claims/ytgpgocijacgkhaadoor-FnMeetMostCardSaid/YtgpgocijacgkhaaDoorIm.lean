/- It is proved what l8Common, MeetHelly and MeetMost of the model return; conditions: those of each statement. -/
import Derived.RowKit
import Derived.Laws.CopyRow
import Derived.Lib.SlBuf
import Derived.Deep.QuietTactic
import Derived.RangeFuncNested
import Derived.RangeFuncBound
import Derived.RangeFuncCalls
import Derived.RangeFuncLeaves
import Derived.RangeFuncBox
import Derived.RangeFuncWrites
import Derived.StillTailTactics
import Derived.Maps.OwnIn
import Derived.Maps.Ext
import Derived.DeepKeys4
import Derived.MapKept
import Derived.Test.YtgpgocijacgkhaaDoorRows
import Derived.WalkKit
import Derived.WalkSpells
import Derived.ProofKit
import Derived.OpenShut
import Derived.ShutString
import Derived.ChangeOld
import Derived.Below
import Derived.Deep.RegionHeld3
import Derived.BigQuiet
import Derived.Lib.Hide
import Derived.Lib.SmallJoins
import Derived.Outline
import Derived.Laws.MakeOwn
import Derived.Laws.OwnMore
import Derived.IntWalk
import Derived.Maps.AppendAt
import Derived.Deep.RegionLaw
import Derived.Deep.AppendLies
import Derived.Lib.AppendZeros
import Derived.OwnWalk
import Derived.Lib.SlicesCompact
import Derived.Lib.OwnBridge
import Derived.OrdersIn
import Derived.TacticsIn
import Derived.Shelf.Sort.Plain
import Derived.Shelf.Slices.In.SortNone
import Derived.Shelf.Slices.CompactI
import Derived.Ground.Names2Prog
import Derived.Lib.SliceRun
import Derived.Laws.BitsAllLaws
import Derived.Shelf.RegionOpen
import Derived.Shelf.Abstract
import Derived.OwnWalkIn
import Derived.TacticsInMore
import Derived.LoopNIn
import Derived.LoopIn
import Derived.StillTail
import Derived.StillTactics
import Derived.Shelf.Spec.TrailingZeros
import Derived.Deep.LoopGhost
import Derived.Test.YtgpgocijacgkhaaDoorRaaa
import Derived.Test.YtgpgocijacgkhaaDoorRaab
import Derived.Test.YtgpgocijacgkhaaDoorRaah
import Derived.Test.YtgpgocijacgkhaaDoorRaai
import Derived.Test.YtgpgocijacgkhaaDoorIb
import Derived.Test.YtgpgocijacgkhaaDoorRaax
import Derived.Test.YtgpgocijacgkhaaDoorIl
import Derived.Test.YtgpgocijacgkhaaDoorRaan
import Derived.Test.YtgpgocijacgkhaaDoorRaap
import Derived.Test.YtgpgocijacgkhaaDoorRaas
import Derived.Test.YtgpgocijacgkhaaDoorRaau
import Derived.Test.YtgpgocijacgkhaaDoorMe
namespace Go.Proofs.YtgpgocijacgkhaaDoor
open Go.RowKit Go.Shelf

theorem tie_met {m : Nat} (hm : m ≤ 6) {zs : List Int} (hS : Sets m zs) (hl : zs.length ≤ 8) {p : Nat} (hp : p < 2 ^ zs.length) : tieB (duZ m zs) p = (decide (p ≠ 0) && metP zs p) := by
  rw [Bool.eq_iff_iff, du_tie hm hS hl hp, Bool.and_eq_true, decide_eq_true_eq, metP_iff hp]

theorem cast_pow2 (n : Nat) : ((2 ^ n : Nat) : Int) = (2 : Int) ^ n := by norm_cast
theorem tmOf_met {m : Nat} (hm : m ≤ 6) {zs : List Int} (hS : Sets m zs) (hl : zs.length ≤ 8) {p : Nat} (hp : p < 2 ^ zs.length) : tmOf (duZ m zs) (List.range (p + 1)) = if metP zs p then max (tmOf (duZ m zs) (List.range p)) (cntK 8 p) else tmOf (duZ m zs) (List.range p) := by
  rw [List.range_succ, tmOf_snoc, tie_met hm hS hl hp]
  by_cases h0 : p = 0
  · subst h0
    have : cntK 8 0 = 0 := by decide
    rw [this]
    cases metP zs 0 <;> simp
  · rw [decide_eq_true h0, Bool.true_and]; rfl

theorem tmOf_le (zs : List Int) : ∀ qs : List Nat, tmOf zs qs ≤ 8 := by
  have key : ∀ (qs : List Nat) (b : Nat), b ≤ 8 → qs.foldl (fun b q => if tieB zs q then max b (memK 8 q).length else b) b ≤ 8 := by
    intro qs
    induction qs with
    | nil => intro b hb; exact hb
    | cons q qs ih =>
      intro b hb
      rw [List.foldl_cons]
      refine ih _ ?_
      have := memK_len 8 q
      split <;> omega
  exact fun qs => key qs 0 (by omega)

set_option maxRecDepth 100000 in
set_option maxHeartbeats 4000000 in
theorem specMost_any (m : Int) (a : Option Addr) (c : Nat) (zs : List Int) (w : World) (ha : Ints w w.heap.size a zs) (hx : zs.length ≤ 1048576) :
    Calls Tryd.prog 34 #[.agg #[.int .i64 m, .slice a zs.length c]] w (RetIB w (tmZ m zs) (famIn m zs)) := by
  have F1 := FB.start (m := m) (c := c) ha
  have HB0 := Lib.hid (below1 w (.cells #[.int .i64 m, .slice a zs.length c] 25))
  have HF1 := Lib.hid F1
  have HFI := Lib.hid (specFamilyIn_any m a c zs _ F1.ints hx)
  have f_0 := F1.x0
  have f_1 := F1.x1
  clear F1
  cases hf : famIn m zs
  · have HF := Lib.hid hf
    have HR : Hid (tmZ m zs = 0) := Lib.hid (by unfold tmZ; rw [hf]; rfl)
    clear hf ha
    go_enter Tryd.func34, Tryd.ntmps34
    go_wp2_with fail
    refine HFI.out.mono ?_
    rintro e w2 ⟨rfl, hb2⟩
    rw [HF.out]
    have HB2 := Lib.hid (HB0.out.trans (hb2.mono (by simp)))
    clear hb2 f_0 f_1
    go_wp2
    go_ret2
    exact ⟨by rw [HR.out]; rfl, HB2.out⟩
  · have HF := Lib.hid hf
    obtain ⟨k, rfl, hk1, hk6, hset, hl8⟩ := fam_nat2 hf
    have HR : Hid (tmZ (k : Int) zs = ((tmOf (duZ k zs) (List.range (2 ^ zs.length)) : Nat) : Int)) := Lib.hid (by unfold tmZ; rw [hf, Int.toNat_natCast]; rfl)
    have HTM : Hid (∀ p : Nat, p < 2 ^ zs.length → tmOf (duZ k zs) (List.range (p + 1)) = if metP zs p then max (tmOf (duZ k zs) (List.range p)) (cntK 8 p) else tmOf (duZ k zs) (List.range p)) := Lib.hid fun p hp => tmOf_met hk6 hset hl8 hp
    have HME : Hid (∀ (p : Nat) W, p < 256 → Ints W W.heap.size a zs → Calls Tryd.prog 73 #[.slice a zs.length c, .int .i64 (p : Int)] W fun e w' => e = .returned (.bool (metP zs p)) ∧ Below W.heap.size W w') := Lib.hid fun p W hp h => l8Meeting_any k hk6 a c zs p hp W h hl8 hset
    obtain ⟨n, hn⟩ : ∃ n, n = zs.length := ⟨_, rfl⟩
    have HN := Lib.hid hn
    obtain ⟨P, hP⟩ : ∃ P, P = 2 ^ n := ⟨_, rfl⟩
    have hP256 : P ≤ 256 := by rw [hP]; exact Nat.pow_le_pow_right (n := 2) (by decide) (by omega : n ≤ 8)
    have hP1 : 1 ≤ P := by rw [hP]; exact Nat.one_le_two_pow
    have HP : Hid ((2 : Int) ^ n = (P : Int)) := Lib.hid (by rw [hP, cast_pow2])
    have HPW : Hid (IntKind.i64.wrap ((2 : Int) ^ n) = (P : Int)) := Lib.hid (by rw [HP.out, IntKind.wrap_i64]; omega)
    obtain ⟨T, hT⟩ : ∃ T : Nat → Nat, T = fun p => tmOf (duZ k zs) (List.range p) := ⟨_, rfl⟩
    have HT8 : Hid (∀ p, T p ≤ 8) := Lib.hid fun p => by rw [hT]; exact tmOf_le _ _
    have HT0 : Hid (T 0 = 0) := Lib.hid (by rw [hT]; rfl)
    have hn64 : (n : Int) < 64 := by omega
    rw [← hn] at HTM HME HR HFI HB0 f_1 ⊢
    rw [← hP] at HTM HR
    have HTM2 : Hid (∀ p, p < P → T (p + 1) = if metP zs p then max (T p) (cntK 8 p) else T p) := Lib.hid fun p hp => by rw [hT]; exact HTM.out p hp
    have HR2 : Hid (tmZ (k : Int) zs = ((T P : Nat) : Int)) := Lib.hid (by rw [HR.out, hT])
    clear hf ha hset hn hP hT HTM HR
    go_enter Tryd.func34, Tryd.ntmps34
    go_wp2_with fail
    refine HFI.out.mono ?_
    rintro e w2 ⟨rfl, hb2⟩
    rw [HF.out]
    have hb2' := hb2
    rw [HN.out] at hb2'
    have HF2 := Lib.hid (HF1.out.step hb2')
    clear hb2'
    have HB2 := Lib.hid (HB0.out.trans (hb2.mono (by simp)))
    clear hb2 f_0 f_1
    go_wp2
    go_loopw [4, 5] (fun s i wr => ∃ p : Nat, p ≤ P ∧ i = .int .i64 (p : Int) ∧ s = .int .i64 ((T p : Nat) : Int) ∧ Below w2.heap.size w2 wr) (fun _ i _ => P - (intOf i).toNat)
    case atStart => exact ⟨0, by omega, rfl, by rw [HT0.out]; rfl, Below.refl _ _⟩
    case round =>
      obtain ⟨p, hpP, rfl, rfl, hb⟩ := hrel
      have HFr := Lib.hid (HF2.out.step hb)
      have f_0 := HFr.out.x0
      have f_1 := HFr.out.x1
      rw [← HN.out] at f_1
      have HBr := Lib.hid hb
      have hpw := HPW.out
      clear hb
      by_cases hlt : p < P
      · have hpI : (p : Int) < (P : Int) := by omega
        have HC1 := Lib.hid (HME.out p wr (by omega) HFr.out.ints)
        have HL := HTM2.out p hlt
        have hT8 := HT8.out p
        obtain ⟨A, hA⟩ : ∃ A, A = T p := ⟨_, rfl⟩
        rw [← hA] at HL hT8 ⊢
        obtain ⟨M, hM⟩ : ∃ M, M = metP zs p := ⟨_, rfl⟩
        rw [← hM] at HC1 HL
        clear hM hA
        cases M
        · have HL1 : Hid (T (p + 1) = A) := Lib.hid (by rw [HL]; rfl)
          clear HL
          go_wp2_with fail
          refine HC1.out.mono ?_
          rintro e w3 ⟨rfl, hb3⟩
          have HB3 := Lib.hid (HBr.out.trans (hb3.mono HBr.out.size))
          clear hb3
          go_wp2
          go_roundw
          case rel => exact ⟨p + 1, by omega, by go_num, by rw [HL1.out], HB3.out⟩
          case measure => simp [intOf]; omega
        · have HL1 : Hid (T (p + 1) = max A (cntK 8 p)) := Lib.hid (by rw [HL]; rfl)
          clear HL
          go_wp2_with fail
          refine HC1.out.mono ?_
          rintro e w3 ⟨rfl, hb3⟩
          have HB3 := Lib.hid (HBr.out.trans (hb3.mono HBr.out.size))
          clear hb3 f_0 f_1
          go_wp2_with fail
          refine (l1SizeW_any p w3 (by omega)).mono ?_
          rintro e w4 ⟨rfl, rfl⟩
          go_wp2
          go_roundw
          case rel => exact ⟨p + 1, by omega, by go_num, by rw [HL1.out, show ((max A (cntK 8 p) : Nat) : Int) = max (A : Int) ((cntK 8 p : Nat) : Int) by omega], HB3.out⟩
          case measure => simp [intOf]; omega
      · obtain rfl : p = P := by omega
        have hpI : ¬ ((p : Int) < (p : Int)) := by omega
        go_wp2
        go_ret2
        exact ⟨by rw [HR2.out]; rfl, HB2.out.trans (HBr.out.mono HB2.out.size)⟩

end Go.Proofs.YtgpgocijacgkhaaDoor
