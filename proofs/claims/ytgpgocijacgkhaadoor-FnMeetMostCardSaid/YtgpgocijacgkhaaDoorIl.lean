/- It is proved what l8Meeting and l8Common return; conditions: those of each statement. -/
import Derived.BigQuiet
import Derived.Deep.QuietTactic
import Derived.RowKit
import Derived.Laws.CopyRow
import Derived.Lib.SlBuf
import Derived.RangeFuncNested
import Derived.RangeFuncBound
import Derived.RangeFuncCalls
import Derived.RangeFuncLeaves
import Derived.RangeFuncBox
import Derived.RangeFuncWrites
import Derived.StillTailTactics
import Derived.Maps.OwnIn
import Derived.Maps.Ext
import Derived.DeepKeys4
import Derived.MapKept
import Derived.Test.YtgpgocijacgkhaaDoorRows
import Derived.WalkKit
import Derived.WalkSpells
import Derived.ProofKit
import Derived.OpenShut
import Derived.ShutString
import Derived.ChangeOld
import Derived.Below
import Derived.Deep.RegionHeld3
import Derived.Lib.Hide
import Derived.Lib.SmallJoins
import Derived.Outline
import Derived.Laws.MakeOwn
import Derived.Laws.OwnMore
import Derived.IntWalk
import Derived.Deep.RegionLaw
import Derived.Deep.AppendLies
import Derived.Lib.AppendZeros
import Derived.Maps.AppendAt
import Derived.OwnWalk
import Derived.Lib.SlicesCompact
import Derived.Lib.OwnBridge
import Derived.OrdersIn
import Derived.TacticsIn
import Derived.Shelf.Sort.Plain
import Derived.Shelf.Slices.In.SortNone
import Derived.Shelf.Slices.CompactI
import Derived.Ground.Names2Prog
import Derived.Lib.SliceRun
import Derived.Laws.BitsAllLaws
import Derived.Shelf.Abstract
import Derived.Shelf.RegionOpen
import Derived.OwnWalkIn
import Derived.TacticsInMore
import Derived.LoopNIn
import Derived.LoopIn
import Derived.StillTail
import Derived.StillTactics
import Derived.Shelf.Spec.TrailingZeros
import Derived.Deep.LoopGhost
import Derived.Test.YtgpgocijacgkhaaDoorRaaa
import Derived.Test.YtgpgocijacgkhaaDoorRaab
import Derived.Test.YtgpgocijacgkhaaDoorRaah
import Derived.Test.YtgpgocijacgkhaaDoorRaao
import Derived.Test.YtgpgocijacgkhaaDoorIb
import Derived.Test.YtgpgocijacgkhaaDoorRaau
import Derived.Test.YtgpgocijacgkhaaDoorRaap
namespace Go.Proofs.YtgpgocijacgkhaaDoor
open Go.RowKit Go.Shelf

/-- Two places of a set have clubs that do not meet. -/
def badP (zs : List Int) (p i k : Nat) : Bool := p.testBit i && p.testBit k && !metN zs i k

def metP (zs : List Int) (p : Nat) : Bool := (List.range zs.length).all fun i => (List.range (i + 1)).all fun k => !badP zs p i k
theorem metP_iff {zs : List Int} {p : Nat} (hp : p < 2 ^ zs.length) : metP zs p = true ↔ ∀ i k, p.testBit i = true → p.testBit k = true → metN zs i k = true := by
  unfold metP badP
  simp only [List.all_eq_true, List.mem_range]
  constructor
  · intro h i k hi hk
    rcases Nat.le_total k i with hle | hle
    · have := h i (nat_bit_lt hp hi) k (by omega)
      rw [hi, hk] at this
      simpa using this
    · have := h k (nat_bit_lt hp hk) i (by omega)
      rw [hi, hk] at this
      rw [met_comm]
      simpa using this
  · intro h i hi k hk
    cases h1 : p.testBit i
    · rfl
    · cases h2 : p.testBit k
      · rfl
      · rw [h i k h1 h2]; rfl

theorem metP_no {zs : List Int} {p i k : Nat} (hi : i < zs.length) (hk : k ≤ i) (h : badP zs p i k = true) : metP zs p = false := by
  unfold metP
  refine List.all_eq_false.2 ⟨i, List.mem_range.2 hi, ?_⟩
  rw [Bool.not_eq_true]
  refine List.all_eq_false.2 ⟨k, List.mem_range.2 (by omega), ?_⟩
  rw [h]
  decide

theorem metP_yes {zs : List Int} {p : Nat} (h : ∀ i, i < zs.length → ∀ k, k ≤ i → badP zs p i k = false) : metP zs p = true := by
  unfold metP
  simp only [List.all_eq_true, List.mem_range]
  exact fun i hi k hk => by rw [h i hi k (by omega)]; rfl

set_option maxRecDepth 100000 in
set_option maxHeartbeats 4000000 in
theorem l8Meeting_any (m : Nat) (hm6 : m ≤ 6) (a : Option Addr) (c : Nat) (zs : List Int) (p : Nat) (hp : p < 256) (w : World) (ha : Ints w w.heap.size a zs) (h8 : zs.length ≤ 8) (hS : Sets m zs) :
    Calls Tryd.prog 73 #[.slice a zs.length c, .int .i64 (p : Int)] w fun e w' => e = .returned (.bool (metP zs p)) ∧ Below w.heap.size w w' := by
  have HI := Lib.hid ha
  have HSET := Lib.hid hS
  obtain ⟨n, hn⟩ : ∃ n, n = zs.length := ⟨_, rfl⟩
  have HN := Lib.hid hn
  rw [← hn] at h8 ⊢
  have hx : n ≤ 1048576 := by omega
  have HAT : Hid (∀ k, k < n → ∃ z : Nat, zs[k]?.getD 0 = (z : Int) ∧ z < 64) := Lib.hid fun k hk => by
    have := HSET.out _ (getD_mem (zs := zs) (i := k) (by rw [← hn]; exact hk))
    exact ⟨(zs[k]?.getD 0).toNat, by omega, p64 hm6 this.2⟩
  clear ha hS hn
  go_enter Tryd.func73, Tryd.ntmps73
  go_wp2
  go_loopw [5] (fun i wr => ∃ k : Nat, k ≤ n ∧ i = .int .i64 (k : Int) ∧ Hid (∀ i, i < k → ∀ j, j ≤ i → badP zs p i j = false) ∧ Below w.heap.size w wr) (fun i _ => n - (intOf i).toNat)
  case atStart => exact ⟨0, Nat.zero_le _, rfl, Lib.hid (fun i hi => by omega), Below.refl _ _⟩
  case round =>
    obtain ⟨k, hk, rfl, HE, hb⟩ := hrel
    have HBo := Lib.hid hb
    clear hb
    by_cases hlt : k < n
    · have hkI : (k : Int) < (n : Int) := by omega
      have hk0 : (0 : Int) ≤ (k : Int) := by omega
      go_wp2
      go_loopw [6] (fun i wr => ∃ v : Nat, v ≤ k + 1 ∧ i = .int .i64 (v : Int) ∧ Hid (∀ j, j < v → badP zs p k j = false) ∧ Below w.heap.size w wr) (fun i _ => k + 1 - (intOf i).toNat)
      case atStart => exact ⟨0, Nat.zero_le _, rfl, Lib.hid (fun j hj => by omega), HBo.out⟩
      case round =>
        obtain ⟨v, hv, rfl, HV, hb⟩ := hrel
        by_cases hvm : v ≤ k
        · have HIr := Lib.hid ((HI.out.below hb).mono hb.size)
          obtain ⟨z, hz, hz64⟩ := HAT.out k hlt
          obtain ⟨y, hy, hy64⟩ := HAT.out v (by omega)
          obtain ⟨b1, o1, rfl, hb1, hc1⟩ := HIr.out.at_ (k := k) (by rw [← HN.out]; exact hlt)
          obtain ⟨b2, o2, e2, -, hc2⟩ := HIr.out.at_ (k := v) (by rw [← HN.out]; omega)
          injection e2 with e2; injection e2 with e2a e2b
          subst e2a; subst e2b
          have hbt : ∀ v, v < 8 → (bits BinOp.and IntKind.i64 ((p : Int) / 2 ^ v) 1 == 1) = p.testBit v := fun v hv => has8_fin ⟨p, hp⟩ ⟨v, hv⟩
          have hbk := hbt k (by omega)
          have hbv := hbt v (by omega)
          have hzy : bits BinOp.and IntKind.i64 (z : Int) (y : Int) = ((z &&& y : Nat) : Int) := and_at8 (by omega) (by omega)
          have HBAD : Hid (badP zs p k v = (p.testBit k && p.testBit v && decide (z &&& y = 0))) := Lib.hid (by
            unfold badP metN
            rw [hz, hy, Int.toNat_natCast, Int.toNat_natCast]
            by_cases h : z &&& y = 0 <;> simp [h])
          have hze : (((z &&& y : Nat) : Int) == 0) = decide (z &&& y = 0) := by rw [Bool.eq_iff_iff, beq_iff_eq, decide_eq_true_eq]; omega
          rw [hz] at hc1
          rw [hy] at hc2
          have hv0 : (0 : Int) ≤ (v : Int) := by omega
          have hvI : (v : Int) ≤ (k : Int) := by omega
          have hvn : (v : Int) < (n : Int) := by omega
          have HBr := Lib.hid hb
          obtain ⟨K, hK⟩ : ∃ K, K = p.testBit k := ⟨_, rfl⟩
          obtain ⟨V, hV⟩ : ∃ V, V = p.testBit v := ⟨_, rfl⟩
          obtain ⟨X, hX⟩ : ∃ X, X = (z &&& y) := ⟨_, rfl⟩
          rw [← hK] at hbk HBAD
          rw [← hV] at hbv HBAD
          rw [← hX] at hzy hze HBAD
          clear hb hz hy hbt hb1 hK hV hX HIr
          cases K
          · clear hze
            have HVN : Hid (∀ j, j < v + 1 → badP zs p k j = false) := Lib.hid fun j hj => by
              rcases Nat.lt_succ_iff_lt_or_eq.1 hj with h | rfl
              · exact HV.out j h
              · rw [HBAD.out]; simp
            go_wp2
            go_quiet (fail)
            go_wp2
            go_roundw
            case rel => exact ⟨v + 1, by omega, by go_num, HVN, below_drewN HBr.out _⟩
            case measure => simp [intOf]; omega
          · cases V
            · clear hze
              have HVN : Hid (∀ j, j < v + 1 → badP zs p k j = false) := Lib.hid fun j hj => by
                rcases Nat.lt_succ_iff_lt_or_eq.1 hj with h | rfl
                · exact HV.out j h
                · rw [HBAD.out]; simp
              go_wp2
              go_quiet (fail)
              go_wp2
              go_roundw
              case rel => exact ⟨v + 1, by omega, by go_num, HVN, below_drewN HBr.out _⟩
              case measure => simp [intOf]; omega
            · by_cases hx0 : X = 0
              · have hze' : ((X : Int) == 0) = true := by rw [hze]; exact decide_eq_true hx0
                have HNO : Hid (metP zs p = false) := Lib.hid (metP_no (i := k) (k := v) (by rw [← HN.out]; exact hlt) hvm (by rw [HBAD.out, decide_eq_true hx0]; rfl))
                clear hze hx0
                go_wp2
                go_quiet (fail)
                go_wp2
                go_ret
                exact ⟨by rw [HNO.out]; rfl, below_drewN HBr.out _⟩
              · have hze' : ((X : Int) == 0) = false := by rw [hze]; exact decide_eq_false hx0
                have HX0 := Lib.hid hx0
                clear hze hx0
                have HVN : Hid (∀ j, j < v + 1 → badP zs p k j = false) := Lib.hid fun j hj => by
                  rcases Nat.lt_succ_iff_lt_or_eq.1 hj with h | rfl
                  · exact HV.out j h
                  · rw [HBAD.out]; simp [HX0.out]
                go_wp2
                go_quiet (fail)
                go_wp2
                go_roundw
                case rel => exact ⟨v + 1, by omega, by go_num, HVN, below_drewN HBr.out _⟩
                case measure => simp [intOf]; omega
        · obtain rfl : v = k + 1 := by omega
          have HBr := Lib.hid hb
          clear hb
          go_wp2
          go_roundw
          case rel => exact ⟨k + 1, by omega, by go_num, Lib.hid (fun i hi j hj => by
            rcases Nat.lt_succ_iff_lt_or_eq.1 hi with h | rfl
            · exact HE.out i h j hj
            · exact HV.out j (by omega)), HBr.out⟩
          case measure => simp [intOf]; omega
    · obtain rfl : k = n := by omega
      have HR : Hid (metP zs p = true) := Lib.hid (metP_yes (by rw [← HN.out]; exact HE.out))
      go_wp2
      go_ret
      exact ⟨by rw [HR.out]; rfl, HBo.out⟩

end Go.Proofs.YtgpgocijacgkhaaDoor
