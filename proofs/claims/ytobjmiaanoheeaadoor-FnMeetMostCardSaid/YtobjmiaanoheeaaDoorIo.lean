/- It is proved what l6eTied and MeetFull of the model return; conditions: those of each statement. -/
import Derived.BigQuiet
import Derived.Deep.QuietTactic
import Derived.RowKit
import Derived.Laws.CopyRow
import Derived.Lib.SlBuf
import Derived.RangeFuncNested
import Derived.RangeFuncBound
import Derived.RangeFuncCalls
import Derived.RangeFuncLeaves
import Derived.RangeFuncBox
import Derived.RangeFuncWrites
import Derived.StillTailTactics
import Derived.Maps.OwnIn
import Derived.Maps.Ext
import Derived.DeepKeys4
import Derived.MapKept
import Derived.Test.YtobjmiaanoheeaaDoorRows
import Derived.WalkKit
import Derived.WalkSpells
import Derived.ProofKit
import Derived.OpenShut
import Derived.ShutString
import Derived.ChangeOld
import Derived.Below
import Derived.Deep.RegionHeld3
import Derived.Lib.Hide
import Derived.Lib.SmallJoins
import Derived.Outline
import Derived.Laws.MakeOwn
import Derived.Laws.OwnMore
import Derived.IntWalk
import Derived.Deep.RegionLaw
import Derived.Deep.AppendLies
import Derived.Lib.AppendZeros
import Derived.Maps.AppendAt
import Derived.OwnWalk
import Derived.Lib.SlicesCompact
import Derived.Lib.OwnBridge
import Derived.OrdersIn
import Derived.TacticsIn
import Derived.Shelf.Sort.Plain
import Derived.Shelf.Slices.In.SortNone
import Derived.Shelf.Slices.CompactI
import Derived.Ground.Names2Prog
import Derived.Lib.SliceRun
import Derived.Laws.BitsAllLaws
import Derived.Shelf.RegionOpen
import Derived.Shelf.Abstract
import Derived.OwnWalkIn
import Derived.TacticsInMore
import Derived.LoopNIn
import Derived.LoopIn
import Derived.StillTail
import Derived.StillTactics
import Derived.Shelf.Spec.TrailingZeros
import Derived.Deep.LoopGhost
import Derived.Test.YtobjmiaanoheeaaDoorRaay
import Derived.Test.YtobjmiaanoheeaaDoorRaaa
import Derived.Test.YtobjmiaanoheeaaDoorRaab
import Derived.Test.YtobjmiaanoheeaaDoorRaam
import Derived.Test.YtobjmiaanoheeaaDoorRaae
import Derived.Test.YtobjmiaanoheeaaDoorRaac
import Derived.Test.YtobjmiaanoheeaaDoorRaas
import Derived.Test.YtobjmiaanoheeaaDoorIb
import Derived.Test.YtobjmiaanoheeaaDoorRaaz
import Derived.Test.YtobjmiaanoheeaaDoorRabc
import Derived.Test.YtobjmiaanoheeaaDoorKa
import Derived.Test.YtobjmiaanoheeaaDoorRaai
import Derived.Test.YtobjmiaanoheeaaDoorRaap
import Derived.Test.YtobjmiaanoheeaaDoorYa
namespace Go.Proofs.YtobjmiaanoheeaaDoor
open Go.RowKit Go.Shelf

/-- A member of a set has another one that is not among those around it. -/
def offB (zs : List Int) (s v : Nat) : Bool := s.testBit v && !subN (anN s (anN (arN v zs) (2 ^ v))) (2 ^ v)

def tdB (m : Nat) (zs : List Int) (s : Nat) : Bool := (List.range m).all fun v => !offB zs s v
theorem two_bit (v u : Nat) : (2 ^ v).testBit u = decide (v = u) := Nat.testBit_two_pow
theorem td_iff {m : Nat} (hm : m ≤ 6) {zs : List Int} (hS : Sets m zs) {s : Nat} (hs : s < 2 ^ m) : tdB m zs s = true ↔ ∀ v u, s.testBit v = true → s.testBit u = true → u ≠ v → (arN v zs).testBit u = true := by
  have hs6 : s < 64 := p64 hm hs
  have ha : ∀ v, arN v zs < 256 := fun v => by have := p64 hm (arN_lt (v := v) hS); omega
  have h2 : ∀ v, v < m → 2 ^ v < 256 := fun v hv => Nat.pow_lt_pow_right (a := 2) (n := 8) (by decide) (by omega)
  unfold tdB offB
  simp only [List.all_eq_true, List.mem_range]
  constructor
  · intro h v u hv hu hne
    have hvm := nat_bit_lt hs hv
    have h1 := h v hvm
    rw [hv, Bool.true_and, Bool.not_not, subN_iff] at h1
    apply Decidable.byContradiction
    intro hn
    rw [Bool.not_eq_true] at hn
    have h3 := h1 u (by
      rw [anN_bit _ _ _ (by omega) (Nat.lt_of_le_of_lt (anN_le _ _) (ha v)), hu, anN_bit _ _ _ (ha v) (h2 v hvm), hn]; rfl)
    rw [two_bit, decide_eq_true_eq] at h3
    exact hne h3.symm
  · intro h v hv
    cases hb : s.testBit v
    · rfl
    · rw [Bool.true_and, Bool.not_not, subN_iff]
      intro u hu
      rw [anN_bit _ _ _ (by omega) (Nat.lt_of_le_of_lt (anN_le _ _) (ha v)), anN_bit _ _ _ (ha v) (h2 v hv), two_bit, Bool.and_eq_true] at hu
      rw [two_bit, decide_eq_true_eq]
      apply Decidable.byContradiction
      intro hne
      have h3 := h v u hb hu.1 (fun e => hne e.symm)
      have h4 := hu.2
      rw [h3, decide_eq_false hne] at h4
      cases h4

theorem td_no {m : Nat} {zs : List Int} {s v : Nat} (hv : v < m) (h : offB zs s v = true) : tdB m zs s = false := by
  unfold tdB
  exact List.all_eq_false.2 ⟨v, List.mem_range.2 hv, by rw [h]; decide⟩

theorem td_yes {m : Nat} {zs : List Int} {s : Nat} (h : ∀ v, v < m → offB zs s v = false) : tdB m zs s = true := by
  unfold tdB
  simp only [List.all_eq_true, List.mem_range]
  exact fun v hv => by rw [h v hv]; rfl

set_option maxRecDepth 100000 in
set_option maxHeartbeats 2000000 in
theorem l6eTied_any (m : Nat) (hm6 : m ≤ 6) (a : Option Addr) (c : Nat) (zs : List Int) (hS : Sets m zs) (s : Nat) (hs : s < 64) (w : World) (ha : Ints w w.heap.size a (mateTo zs m)) :
    Calls Tryd.prog 54 #[.slice a m c, .int .i64 (s : Int)] w fun e w' => e = .returned (.bool (tdB m zs s)) ∧ Below w.heap.size w w' := by
  have HI := Lib.hid ha
  have HL := Lib.hid (mateTo_len zs m)
  have HAT : Hid (∀ v, v < m → (mateTo zs m)[v]?.getD 0 = ((anN (arN v zs) (2 ^ v) : Nat) : Int)) := Lib.hid fun v hv => by simp [mateTo, hv]
  have HA64 : Hid (∀ v, anN (arN v zs) (2 ^ v) < 64) := Lib.hid fun v => Nat.lt_of_le_of_lt (anN_le _ _) (p64 hm6 (arN_lt hS))
  clear ha hS
  go_enter Tryd.func54, Tryd.ntmps54
  go_wp2
  go_loopw [5] (fun i wr => ∃ v : Nat, v ≤ m ∧ i = .int .i64 (v : Int) ∧ Hid (∀ u, u < v → offB zs s u = false) ∧ Below w.heap.size w wr) (fun i _ => m - (intOf i).toNat)
  case atStart => exact ⟨0, Nat.zero_le _, rfl, Lib.hid (fun u hu => by omega), Below.refl _ _⟩
  case round =>
    obtain ⟨v, hv, rfl, HV, hb⟩ := hrel
    by_cases hvm : v < m
    · have HIr := Lib.hid ((HI.out.below hb).mono hb.size)
      obtain ⟨b1, o1, rfl, hb1, hc1⟩ := HIr.out.at_ (k := v) (by rw [HL.out]; exact hvm)
      rw [HAT.out v hvm] at hc1
      have hP64 := HA64.out v
      obtain ⟨P, hP⟩ : ∃ P, P = anN (arN v zs) (2 ^ v) := ⟨_, rfl⟩
      have hp2 := p2_small v (by omega)
      have hpw : IntKind.i64.wrap ((2 : Int) ^ v) = (2 : Int) ^ v := by rw [IntKind.wrap_i64]; omega
      have h2n : 2 ^ v < 256 := Nat.pow_lt_pow_right (a := 2) (n := 8) (by decide) (by omega)
      have h2c : ((2 ^ v : Nat) : Int) = (2 : Int) ^ v := by norm_cast
      have hv64 : (v : Int) < 64 := by omega
      have hbv : (bits BinOp.and IntKind.i64 ((s : Int) / 2 ^ v) 1 == 1) = s.testBit v := has8_fin ⟨s, by omega⟩ ⟨v, by omega⟩
      rw [← hP] at hc1 hP64
      have hX1 : anN s P < 256 := Nat.lt_of_le_of_lt (anN_le _ _) (by omega)
      have ha1 : bits BinOp.andNot IntKind.i64 (s : Int) (P : Int) = ((anN s P : Nat) : Int) := an_at8 (by omega) (by omega)
      have ha2 : bits BinOp.andNot IntKind.i64 ((anN s P : Nat) : Int) ((2 : Int) ^ v) = ((anN (anN s P) (2 ^ v) : Nat) : Int) := by rw [← h2c]; exact an_at8 hX1 h2n
      have ha3 : (((anN (anN s P) (2 ^ v) : Nat) : Int) != 0) = !subN (anN s P) (2 ^ v) := an_ne hX1 h2n
      have HOF : Hid (offB zs s v = (s.testBit v && !subN (anN s P) (2 ^ v))) := Lib.hid (by unfold offB; rw [← hP])
      have hv0 : (0 : Int) ≤ (v : Int) := by omega
      have hvI : (v : Int) < (m : Int) := by omega
      have HBr := Lib.hid hb
      obtain ⟨X, hX⟩ : ∃ X, X = anN s P := ⟨_, rfl⟩
      rw [← hX] at ha1 ha2 ha3 HOF
      obtain ⟨Y, hY⟩ : ∃ Y, Y = anN X (2 ^ v) := ⟨_, rfl⟩
      rw [← hY] at ha2 ha3
      obtain ⟨B, hB⟩ : ∃ B, B = subN X (2 ^ v) := ⟨_, rfl⟩
      rw [← hB] at ha3 HOF
      obtain ⟨K, hK⟩ : ∃ K, K = s.testBit v := ⟨_, rfl⟩
      rw [← hK] at hbv HOF
      clear hb hP hX hY hB hK HIr h2c h2n hX1 hP64
      cases K
      · have HVN : Hid (∀ u, u < v + 1 → offB zs s u = false) := Lib.hid fun u hu => by
          rcases Nat.lt_succ_iff_lt_or_eq.1 hu with h | rfl
          · exact HV.out u h
          · rw [HOF.out]; rfl
        go_wp2
        go_quiet (fail)
        go_wp2
        go_roundw
        case rel => exact ⟨v + 1, by omega, by go_num, HVN, below_drewN HBr.out _⟩
        case measure => simp [intOf]; omega
      · cases B
        · have HNO : Hid (tdB m zs s = false) := Lib.hid (td_no hvm (by rw [HOF.out]; rfl))
          simp only [Bool.not_false] at ha3
          go_wp2
          go_quiet (fail)
          go_wp2
          go_ret
          exact ⟨by rw [HNO.out]; rfl, below_drewN HBr.out _⟩
        · have HVN : Hid (∀ u, u < v + 1 → offB zs s u = false) := Lib.hid fun u hu => by
            rcases Nat.lt_succ_iff_lt_or_eq.1 hu with h | rfl
            · exact HV.out u h
            · rw [HOF.out]; rfl
          simp only [Bool.not_true] at ha3
          go_wp2
          go_quiet (fail)
          go_wp2
          go_roundw
          case rel => exact ⟨v + 1, by omega, by go_num, HVN, below_drewN HBr.out _⟩
          case measure => simp [intOf]; omega
    · obtain rfl : v = m := by omega
      have HR : Hid (tdB v zs s = true) := Lib.hid (td_yes HV.out)
      have HBr := Lib.hid hb
      clear hb
      go_wp2
      go_ret
      exact ⟨by rw [HR.out]; rfl, HBr.out⟩

/-- All members of the clubs. -/
def arAll (zs : List Int) : Nat := zs.foldl (fun t z => t ||| z.toNat) 0

theorem arAll_bit (zs : List Int) (i : Nat) : (arAll zs).testBit i = zs.any (Bt i) := by unfold arAll; rw [fold_bit, Nat.zero_testBit, Bool.false_or]
theorem or_nat {m : Nat} (hm : m ≤ 6) : ∀ (zs : List Int) (t : Nat), t < 64 → Sets m zs → zs.foldl (fun s z => bits .or .i64 s z) (t : Int) = ((zs.foldl (fun t z => t ||| z.toNat) t : Nat) : Int)
  | [], t, _, _ => rfl
  | z :: zs, t, ht, hS => by
    have hz := hS z (by simp)
    have hz64 := p64 hm hz.2
    have e : bits BinOp.or IntKind.i64 (t : Int) z = ((t ||| z.toNat : Nat) : Int) := by
      have := or_at8 (x := t) (y := z.toNat) (by omega) (by omega)
      rwa [Int.toNat_of_nonneg hz.1] at this
    rw [List.foldl_cons, List.foldl_cons, e]
    exact or_nat hm zs _ (Nat.or_lt_two_pow (n := 6) ht hz64) (fun y hy => hS y (by simp [hy]))

theorem orAll_nat {m : Nat} (hm : m ≤ 6) {zs : List Int} (hS : Sets m zs) : orAll zs = ((arAll zs : Nat) : Int) := or_nat hm zs 0 (by omega) hS
theorem arAll_lt {m : Nat} {zs : List Int} (hS : Sets m zs) : arAll zs < 2 ^ m := by
  apply Nat.lt_pow_two_of_testBit
  intro i hi
  cases hb : (arAll zs).testBit i
  · rfl
  · rw [arAll_bit, List.any_eq_true] at hb
    obtain ⟨z, hz, h2⟩ := hb
    have := bt_lt (hS z hz).2 h2
    omega

theorem tie_td {m : Nat} (hm : m ≤ 6) {zs : List Int} (hS : Sets m zs) {s : Nat} (h1 : 1 ≤ s) (hs : s < 2 ^ m) : tieB zs s = (subN s (arAll zs) && tdB m zs s) := by
  have hs6 : s < 64 := p64 hm hs
  rw [Bool.eq_iff_iff, tie_iff (by omega), Bool.and_eq_true, subN_iff, td_iff hm hS hs]
  constructor
  · rintro ⟨_, h⟩
    refine ⟨fun i hi => ?_, fun v u hv hu _ => h v u hv hu⟩
    obtain ⟨z, hz, hb, _⟩ := (arN_bit i zs i).1 (h i i hi hi)
    rw [arAll_bit, List.any_eq_true]
    exact ⟨z, hz, hb⟩
  · rintro ⟨ha, h⟩
    refine ⟨by omega, fun v u hv hu => ?_⟩
    by_cases e : u = v
    · subst e
      have := ha u hu
      rw [arAll_bit, List.any_eq_true] at this
      obtain ⟨z, hz, hb⟩ := this
      exact (arN_bit u zs u).2 ⟨z, hz, hb, hb⟩
    · exact h v u hv hu e

def goodB (m : Nat) (zs : List Int) (s : Nat) : Bool := !subN s (arAll zs) || !tdB m zs s
theorem good_loo {m : Nat} (hm : m ≤ 6) {zs : List Int} (hS : Sets m zs) {s : Nat} (h1 : 1 ≤ s) (hs : s < 2 ^ m) : (goodB m zs s || inC zs s) = !looB zs s := by
  unfold goodB looB
  rw [tie_td hm hS h1 hs]
  cases subN s (arAll zs) <;> cases tdB m zs s <;> cases inC zs s <;> rfl

theorem inC_take {s : Nat} {zs : List Int} {i : Nat} (h : i < zs.length) : inC (zs.take (i + 1)) s = (inC (zs.take i) s || subN s (zs[i]?.getD 0 : Int).toNat) := by
  unfold inC
  rw [List.take_succ_eq_append_getElem h, List.any_append, List.getElem?_eq_getElem h, Option.getD_some]
  simp

set_option maxRecDepth 100000 in
set_option maxHeartbeats 4000000 in
theorem specFull_any (m : Int) (a : Option Addr) (c : Nat) (zs : List Int) (w : World) (ha : Ints w w.heap.size a zs) (hx : zs.length ≤ 1048576) :
    Calls Tryd.prog 34 #[.agg #[.int .i64 m, .slice a zs.length c]] w fun e w' => e = .returned (.bool (fullB m zs)) ∧ Below w.heap.size w w' := by
  have F1 := FB.start (m := m) (c := c) ha
  have HB0 := Lib.hid (below1 w (.cells #[.int .i64 m, .slice a zs.length c] 25))
  have HF1 := Lib.hid F1
  have HFI := Lib.hid (specFamilyIn_any m a c zs _ F1.ints hx)
  have f_0 := F1.x0
  have f_1 := F1.x1
  clear F1
  cases hf : famIn m zs
  · have HF := Lib.hid hf
    have HR : Hid (fullB m zs = false) := Lib.hid (by unfold fullB; rw [hf]; rfl)
    clear hf ha
    go_enter Tryd.func34, Tryd.ntmps34
    go_wp2_with fail
    refine HFI.out.mono ?_
    rintro e w2 ⟨rfl, hb2⟩
    rw [HF.out]
    have HB2 := Lib.hid (HB0.out.trans (hb2.mono (by simp)))
    clear hb2 f_0 f_1
    go_wp2
    go_ret
    exact ⟨by rw [HR.out]; rfl, HB2.out⟩
  · have HF := Lib.hid hf
    obtain ⟨k, rfl, hk1, hk6, hset, hl8⟩ := fam_nat2 hf
    have HR : Hid (fullB (k : Int) zs = tcB k zs) := Lib.hid (by unfold fullB; rw [hf, Int.toNat_natCast]; rfl)
    have HLM : Hid (∀ s : Nat, 1 ≤ s → s < 2 ^ k → (goodB k zs s || inC zs s) = !looB zs s) := Lib.hid fun s h1 hs => good_loo hk6 hset h1 hs
    have HPA : Hid (∀ W, Ints W W.heap.size a zs → Calls Tryd.prog 50 #[.agg #[.int .i64 (k : Int), .slice a zs.length c]] W (RetInts W (mateTo zs k))) := Lib.hid fun W h => l6ePairs8_any k hk6 a c zs W h hl8 hset
    have HTI : Hid (∀ (s : Nat) a' c' W, s < 64 → Ints W W.heap.size a' (mateTo zs k) → Calls Tryd.prog 54 #[.slice a' k c', .int .i64 (s : Int)] W fun e w' => e = .returned (.bool (tdB k zs s)) ∧ Below W.heap.size W w') := Lib.hid fun s a' c' W hs h => l6eTied_any k hk6 a' c' zs hset s hs W h
    have HUN : Hid (∀ W, Ints W W.heap.size a zs → Calls Tryd.prog 51 #[.slice a zs.length c] W fun e w' => e = .returned (.int .i64 ((arAll zs : Nat) : Int)) ∧ W = w') := Lib.hid fun W h => by
      have := l1Union_any a c zs W.heap.size W h hx
      rwa [orAll_nat hk6 hset] at this
    have HAL : Hid (∀ n W, Calls Tryd.prog 52 #[.agg #[.int .i64 (k : Int), .slice a n c]] W fun e w' => e = .returned (.int .i64 (((2 ^ k - 1 : Nat)) : Int)) ∧ W.alloc (.cells #[.int .i64 (k : Int), .slice a n c] 25) = w') := Lib.hid fun n W => by
      have := l1All_any (k : Int) a n c W (by omega) (by omega)
      rwa [full_nat] at this
    have HML := Lib.hid (mateTo_len zs k)
    have HA64 : Hid (arAll zs < 64) := Lib.hid (p64 hk6 (arAll_lt hset))
    have HSET := Lib.hid hset
    obtain ⟨n, hn⟩ : ∃ n, n = zs.length := ⟨_, rfl⟩
    have HN := Lib.hid hn
    obtain ⟨P, hP⟩ : ∃ P, P = 2 ^ k := ⟨_, rfl⟩
    have hP64 : P ≤ 64 := by rw [hP]; exact Nat.pow_le_pow_right (n := 2) (by decide) (by omega : k ≤ 6)
    have hP1 : 1 ≤ P := by rw [hP]; exact Nat.one_le_two_pow
    have HPN := Lib.hid hP
    rw [← hn] at HPA HUN HFI HB0 f_1 hl8 ⊢
    rw [← hP] at HLM HAL
    clear hf ha hset hn hP
    go_enter Tryd.func34, Tryd.ntmps34
    go_wp2_with fail
    refine HFI.out.mono ?_
    rintro e w2 ⟨rfl, hb2⟩
    rw [HF.out]
    have hb2' := hb2
    rw [HN.out] at hb2'
    have HF2 := Lib.hid (HF1.out.step hb2')
    have HB2 := Lib.hid (HB0.out.trans (hb2.mono (by simp)))
    clear hb2 hb2' f_0 f_1
    have f_0 := HF2.out.x0
    have f_1 := HF2.out.x1
    rw [← HN.out] at f_1
    go_wp2_with fail
    refine (HPA.out w2 HF2.out.ints).mono ?_
    rintro e w3 ⟨a3, c3, rfl, ho3, hb3⟩
    rw [HML.out]
    have HI3 := Lib.hid (own_ints ho3)
    have HF3 := Lib.hid (HF2.out.step hb3)
    have HB3 := Lib.hid (HB2.out.trans (hb3.mono HB2.out.size))
    clear ho3 hb3 f_0 f_1
    have f_0 := HF3.out.x0
    have f_1 := HF3.out.x1
    rw [← HN.out] at f_1
    go_wp2_with fail
    refine (HUN.out w3 HF3.out.ints).mono ?_
    rintro e w3' ⟨rfl, rfl⟩
    obtain ⟨U, hU⟩ : ∃ U, U = arAll zs := ⟨_, rfl⟩
    have HU := Lib.hid hU
    rw [← hU] at HA64 ⊢
    have hU64 := HA64.out
    clear hU f_0 f_1
    go_wp2
    go_loopw [5] (fun i wr => ∃ s : Nat, 1 ≤ s ∧ s ≤ P ∧ i = .int .i64 (s : Int) ∧ Hid (∀ q, q < s → looB zs q = false) ∧ Below w3.heap.size w3 wr) (fun i _ => P - (intOf i).toNat)
    case atStart => exact ⟨1, by omega, hP1, rfl, Lib.hid (fun q hq => by have hq0 : q = 0 := (by omega); rw [hq0]; unfold looB tieB; simp), Below.refl _ _⟩
    case round =>
      obtain ⟨s, hs1, hsP, rfl, HE, hb⟩ := hrel
      have HFr := Lib.hid (HF3.out.step hb)
      have f_0 := HFr.out.x0
      have f_1 := HFr.out.x1
      rw [← HN.out] at f_1
      have HBr := Lib.hid hb
      clear hb
      go_wp2_with fail
      refine (HAL.out n wr).mono ?_
      rintro e w4 ⟨rfl, rfl⟩
      have HB4 : Hid (Below w3.heap.size w3 (wr.alloc (.cells #[.int .i64 (k : Int), .slice a n c] 25))) := Lib.hid (HBr.out.alloc HBr.out.size _)
      obtain ⟨w4, hw4⟩ : ∃ w4, w4 = wr.alloc (.cells #[.int .i64 (k : Int), .slice a n c] 25) := ⟨_, rfl⟩
      rw [← hw4] at HB4 ⊢
      have HF4 := Lib.hid (HF3.out.step HB4.out)
      clear f_0 f_1 hw4
      have f_0 := HF4.out.x0
      have f_1 := HF4.out.x1
      rw [← HN.out] at f_1
      by_cases hlt : s < P
      · have hsI : (s : Int) ≤ ((P - 1 : Nat) : Int) := by omega
        have HL := Lib.hid (HLM.out s hs1 hlt)
        have hs64 : s < 64 := by omega
        have haU : bits BinOp.andNot IntKind.i64 (s : Int) (U : Int) = ((anN s U : Nat) : Int) := an_at8 (by omega) (by omega)
        have haN : (((anN s U : Nat) : Int) != 0) = !subN s U := an_ne (by omega) (by omega)
        have HG : Hid (goodB k zs s = (!subN s U || !tdB k zs s)) := Lib.hid (by rw [HU.out]; rfl)
        obtain ⟨X, hX⟩ : ∃ X, X = anN s U := ⟨_, rfl⟩
        rw [← hX] at haU haN
        obtain ⟨B, hB⟩ : ∃ B, B = subN s U := ⟨_, rfl⟩
        rw [← hB] at haN HG
        have HCT := Lib.hid (HTI.out s a3 c3 w4 hs64 ((HI3.out.below HB4.out).mono HB4.out.size))
        obtain ⟨TD, hTD⟩ : ∃ TD, TD = tdB k zs s := ⟨_, rfl⟩
        rw [← hTD] at HCT HG
        clear hX hB hTD
        cases B
        · simp only [Bool.not_false] at haN
          have HG1 : Hid (goodB k zs s = true) := Lib.hid (by rw [HG.out]; rfl)
          clear HG
          go_wp2
          go_loopw [6, 7] (fun b i wr => ∃ j : Nat, j ≤ n ∧ i = .int .i64 (j : Int) ∧ b = .bool (goodB k zs s || inC (zs.take j) s) ∧ Below w3.heap.size w3 wr) (fun _ i _ => n - (intOf i).toNat)
          case atStart => exact ⟨0, Nat.zero_le _, rfl, by rw [HG1.out, List.take_zero]; rfl, HB4.out⟩
          case round =>
            obtain ⟨j, hj, rfl, rfl, hb⟩ := hrel
            have HFq := Lib.hid (HF3.out.step hb)
            have g_0 := HFq.out.x0
            have g_1 := HFq.out.x1
            rw [← HN.out] at g_1
            have HBq := Lib.hid hb
            clear hb
            by_cases hjn : j < n
            · have hjI : (j : Int) < (n : Int) := by omega
              have hj0 : (0 : Int) ≤ (j : Int) := by omega
              obtain ⟨b1, o1, rfl, hb1, hc1⟩ := HFq.out.ints.at_ (k := j) (by rw [← HN.out]; exact hjn)
              have hzm := HSET.out _ (getD_mem (zs := zs) (i := j) (by rw [← HN.out]; exact hjn))
              obtain ⟨z, hz⟩ : ∃ z : Nat, zs[j]?.getD 0 = (z : Int) := ⟨(zs[j]?.getD 0).toNat, by have := hzm.1; omega⟩
              have hz64 : z < 64 := by have := p64 hk6 hzm.2; rw [hz, Int.toNat_natCast] at this; exact this
              have HTK := inC_take (s := s) (zs := zs) (i := j) (by rw [← HN.out]; exact hjn)
              rw [hz, Int.toNat_natCast] at HTK
              rw [hz] at hc1
              have haz : bits BinOp.andNot IntKind.i64 (s : Int) (z : Int) = ((anN s z : Nat) : Int) := an_at8 (by omega) (by omega)
              have haq : (((anN s z : Nat) : Int) == 0) = subN s z := by
                have := an_ne (a := s) (b := z) (by omega) (by omega)
                rw [bne] at this
                cases h1 : (((anN s z : Nat) : Int) == 0) <;> cases h2 : subN s z <;> simp_all
              obtain ⟨X, hX⟩ : ∃ X, X = anN s z := ⟨_, rfl⟩
              rw [← hX] at haz haq
              obtain ⟨B, hB⟩ : ∃ B, B = subN s z := ⟨_, rfl⟩
              rw [← hB] at haq HTK
              obtain ⟨I, hI⟩ : ∃ I, I = (goodB k zs s || inC (zs.take j) s) := ⟨_, rfl⟩
              have HNX : Hid ((goodB k zs s || inC (zs.take (j + 1)) s) = (I || B)) := Lib.hid (by rw [HTK, hI, Bool.or_assoc])
              rw [← hI]
              clear hz hzm HTK hX hB hI
              cases I
              · go_wp2
                go_roundw
                case rel => exact ⟨j + 1, by omega, by go_num, by rw [HNX.out, Bool.false_or], HBq.out⟩
                case measure => simp [intOf]; omega
              · go_wp2
                go_roundw
                case rel => exact ⟨j + 1, by omega, by go_num, by rw [HNX.out]; rfl, HBq.out⟩
                case measure => simp [intOf]; omega
            · obtain rfl : j = n := by omega
              rw [List.take_of_length_le (by rw [← HN.out]; exact Nat.le_refl _), HL.out]
              cases hq : looB zs s
              · have HNX : Hid (∀ q, q < s + 1 → looB zs q = false) := Lib.hid fun q hqs => by
                  rcases Nat.lt_succ_iff_lt_or_eq.1 hqs with h | rfl
                  · exact HE.out q h
                  · exact hq
                clear hq
                go_wp2
                go_roundw
                case rel => exact ⟨s + 1, by omega, by omega, by go_num, HNX, HBq.out⟩
                case measure => simp [intOf]; omega
              · have HNO : Hid (tcB k zs = false) := Lib.hid (List.all_eq_false.2 ⟨s, List.mem_range.2 (by rw [← HPN.out]; exact hlt), by rw [hq]; decide⟩)
                clear hq
                go_wp2
                go_ret
                exact ⟨by rw [HR.out, HNO.out]; rfl, HB3.out.trans (HBq.out.mono HB3.out.size)⟩
        · simp only [Bool.not_true] at haN
          go_wp2_with fail
          refine HCT.out.mono ?_
          rintro e w5 ⟨rfl, hb5⟩
          have HB5 := Lib.hid (HB4.out.trans (hb5.mono HB4.out.size))
          clear hb5 f_0 f_1
          cases TD
          · have HG1 : Hid (goodB k zs s = true) := Lib.hid (by rw [HG.out]; rfl)
            clear HG
            go_wp2
            go_loopw [6, 7] (fun b i wr => ∃ j : Nat, j ≤ n ∧ i = .int .i64 (j : Int) ∧ b = .bool (goodB k zs s || inC (zs.take j) s) ∧ Below w3.heap.size w3 wr) (fun _ i _ => n - (intOf i).toNat)
            case atStart => exact ⟨0, Nat.zero_le _, rfl, by rw [HG1.out, List.take_zero]; rfl, HB5.out⟩
            case round =>
              obtain ⟨j, hj, rfl, rfl, hb⟩ := hrel
              have HFq := Lib.hid (HF3.out.step hb)
              have g_0 := HFq.out.x0
              have g_1 := HFq.out.x1
              rw [← HN.out] at g_1
              have HBq := Lib.hid hb
              clear hb
              by_cases hjn : j < n
              · have hjI : (j : Int) < (n : Int) := by omega
                have hj0 : (0 : Int) ≤ (j : Int) := by omega
                obtain ⟨b1, o1, rfl, hb1, hc1⟩ := HFq.out.ints.at_ (k := j) (by rw [← HN.out]; exact hjn)
                have hzm := HSET.out _ (getD_mem (zs := zs) (i := j) (by rw [← HN.out]; exact hjn))
                obtain ⟨z, hz⟩ : ∃ z : Nat, zs[j]?.getD 0 = (z : Int) := ⟨(zs[j]?.getD 0).toNat, by have := hzm.1; omega⟩
                have hz64 : z < 64 := by have := p64 hk6 hzm.2; rw [hz, Int.toNat_natCast] at this; exact this
                have HTK := inC_take (s := s) (zs := zs) (i := j) (by rw [← HN.out]; exact hjn)
                rw [hz, Int.toNat_natCast] at HTK
                rw [hz] at hc1
                have haz : bits BinOp.andNot IntKind.i64 (s : Int) (z : Int) = ((anN s z : Nat) : Int) := an_at8 (by omega) (by omega)
                have haq : (((anN s z : Nat) : Int) == 0) = subN s z := by
                  have := an_ne (a := s) (b := z) (by omega) (by omega)
                  rw [bne] at this
                  cases h1 : (((anN s z : Nat) : Int) == 0) <;> cases h2 : subN s z <;> simp_all
                obtain ⟨X, hX⟩ : ∃ X, X = anN s z := ⟨_, rfl⟩
                rw [← hX] at haz haq
                obtain ⟨B, hB⟩ : ∃ B, B = subN s z := ⟨_, rfl⟩
                rw [← hB] at haq HTK
                obtain ⟨I, hI⟩ : ∃ I, I = (goodB k zs s || inC (zs.take j) s) := ⟨_, rfl⟩
                have HNX : Hid ((goodB k zs s || inC (zs.take (j + 1)) s) = (I || B)) := Lib.hid (by rw [HTK, hI, Bool.or_assoc])
                rw [← hI]
                clear hz hzm HTK hX hB hI
                cases I
                · go_wp2
                  go_roundw
                  case rel => exact ⟨j + 1, by omega, by go_num, by rw [HNX.out, Bool.false_or], HBq.out⟩
                  case measure => simp [intOf]; omega
                · go_wp2
                  go_roundw
                  case rel => exact ⟨j + 1, by omega, by go_num, by rw [HNX.out]; rfl, HBq.out⟩
                  case measure => simp [intOf]; omega
              · obtain rfl : j = n := by omega
                rw [List.take_of_length_le (by rw [← HN.out]; exact Nat.le_refl _), HL.out]
                cases hq : looB zs s
                · have HNX : Hid (∀ q, q < s + 1 → looB zs q = false) := Lib.hid fun q hqs => by
                    rcases Nat.lt_succ_iff_lt_or_eq.1 hqs with h | rfl
                    · exact HE.out q h
                    · exact hq
                  clear hq
                  go_wp2
                  go_roundw
                  case rel => exact ⟨s + 1, by omega, by omega, by go_num, HNX, HBq.out⟩
                  case measure => simp [intOf]; omega
                · have HNO : Hid (tcB k zs = false) := Lib.hid (List.all_eq_false.2 ⟨s, List.mem_range.2 (by rw [← HPN.out]; exact hlt), by rw [hq]; decide⟩)
                  clear hq
                  go_wp2
                  go_ret
                  exact ⟨by rw [HR.out, HNO.out]; rfl, HB3.out.trans (HBq.out.mono HB3.out.size)⟩
          · have HG1 : Hid (goodB k zs s = false) := Lib.hid (by rw [HG.out]; rfl)
            clear HG
            go_wp2
            go_loopw [6, 7] (fun b i wr => ∃ j : Nat, j ≤ n ∧ i = .int .i64 (j : Int) ∧ b = .bool (goodB k zs s || inC (zs.take j) s) ∧ Below w3.heap.size w3 wr) (fun _ i _ => n - (intOf i).toNat)
            case atStart => exact ⟨0, Nat.zero_le _, rfl, by rw [HG1.out, List.take_zero]; rfl, HB5.out⟩
            case round =>
              obtain ⟨j, hj, rfl, rfl, hb⟩ := hrel
              have HFq := Lib.hid (HF3.out.step hb)
              have g_0 := HFq.out.x0
              have g_1 := HFq.out.x1
              rw [← HN.out] at g_1
              have HBq := Lib.hid hb
              clear hb
              by_cases hjn : j < n
              · have hjI : (j : Int) < (n : Int) := by omega
                have hj0 : (0 : Int) ≤ (j : Int) := by omega
                obtain ⟨b1, o1, rfl, hb1, hc1⟩ := HFq.out.ints.at_ (k := j) (by rw [← HN.out]; exact hjn)
                have hzm := HSET.out _ (getD_mem (zs := zs) (i := j) (by rw [← HN.out]; exact hjn))
                obtain ⟨z, hz⟩ : ∃ z : Nat, zs[j]?.getD 0 = (z : Int) := ⟨(zs[j]?.getD 0).toNat, by have := hzm.1; omega⟩
                have hz64 : z < 64 := by have := p64 hk6 hzm.2; rw [hz, Int.toNat_natCast] at this; exact this
                have HTK := inC_take (s := s) (zs := zs) (i := j) (by rw [← HN.out]; exact hjn)
                rw [hz, Int.toNat_natCast] at HTK
                rw [hz] at hc1
                have haz : bits BinOp.andNot IntKind.i64 (s : Int) (z : Int) = ((anN s z : Nat) : Int) := an_at8 (by omega) (by omega)
                have haq : (((anN s z : Nat) : Int) == 0) = subN s z := by
                  have := an_ne (a := s) (b := z) (by omega) (by omega)
                  rw [bne] at this
                  cases h1 : (((anN s z : Nat) : Int) == 0) <;> cases h2 : subN s z <;> simp_all
                obtain ⟨X, hX⟩ : ∃ X, X = anN s z := ⟨_, rfl⟩
                rw [← hX] at haz haq
                obtain ⟨B, hB⟩ : ∃ B, B = subN s z := ⟨_, rfl⟩
                rw [← hB] at haq HTK
                obtain ⟨I, hI⟩ : ∃ I, I = (goodB k zs s || inC (zs.take j) s) := ⟨_, rfl⟩
                have HNX : Hid ((goodB k zs s || inC (zs.take (j + 1)) s) = (I || B)) := Lib.hid (by rw [HTK, hI, Bool.or_assoc])
                rw [← hI]
                clear hz hzm HTK hX hB hI
                cases I
                · go_wp2
                  go_roundw
                  case rel => exact ⟨j + 1, by omega, by go_num, by rw [HNX.out, Bool.false_or], HBq.out⟩
                  case measure => simp [intOf]; omega
                · go_wp2
                  go_roundw
                  case rel => exact ⟨j + 1, by omega, by go_num, by rw [HNX.out]; rfl, HBq.out⟩
                  case measure => simp [intOf]; omega
              · obtain rfl : j = n := by omega
                rw [List.take_of_length_le (by rw [← HN.out]; exact Nat.le_refl _), HL.out]
                cases hq : looB zs s
                · have HNX : Hid (∀ q, q < s + 1 → looB zs q = false) := Lib.hid fun q hqs => by
                    rcases Nat.lt_succ_iff_lt_or_eq.1 hqs with h | rfl
                    · exact HE.out q h
                    · exact hq
                  clear hq
                  go_wp2
                  go_roundw
                  case rel => exact ⟨s + 1, by omega, by omega, by go_num, HNX, HBq.out⟩
                  case measure => simp [intOf]; omega
                · have HNO : Hid (tcB k zs = false) := Lib.hid (List.all_eq_false.2 ⟨s, List.mem_range.2 (by rw [← HPN.out]; exact hlt), by rw [hq]; decide⟩)
                  clear hq
                  go_wp2
                  go_ret
                  exact ⟨by rw [HR.out, HNO.out]; rfl, HB3.out.trans (HBq.out.mono HB3.out.size)⟩
      · obtain rfl : s = P := by omega
        have HYES : Hid (tcB k zs = true) := Lib.hid (List.all_eq_true.2 fun q hq => by
          rw [HE.out q (by rw [HPN.out]; exact List.mem_range.1 hq)]; rfl)
        have hsI : ¬ ((s : Int) ≤ ((s - 1 : Nat) : Int)) := by omega
        go_wp2
        go_ret
        exact ⟨by rw [HR.out, HYES.out]; rfl, HB3.out.trans (HB4.out.mono HB3.out.size)⟩

end Go.Proofs.YtobjmiaanoheeaaDoor
