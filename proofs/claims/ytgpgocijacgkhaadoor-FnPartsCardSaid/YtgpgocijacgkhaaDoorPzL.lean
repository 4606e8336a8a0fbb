/- It is proved that the call of the law FnParts returns true; conditions: those of each statement. -/
import Derived.Test.YtgpgocijacgkhaaDoorRows
import Derived.WalkKit
import Derived.WalkSpells
import Derived.ProofKit
import Derived.OpenShut
import Derived.ShutString
import Derived.ChangeOld
import Derived.Below
import Derived.Deep.RegionHeld3
import Derived.Deep.QuietTactic
import Derived.BigQuiet
import Derived.Lib.Hide
import Derived.Lib.SmallJoins
import Derived.Outline
import Derived.Laws.MakeOwn
import Derived.Laws.OwnMore
import Derived.IntWalk
import Derived.Deep.RegionLaw
import Derived.Deep.AppendLies
import Derived.RangeFuncNested
import Derived.RangeFuncBound
import Derived.RangeFuncCalls
import Derived.RangeFuncLeaves
import Derived.RangeFuncBox
import Derived.Shelf.Abstract
import Derived.Shelf.RegionOpen
import Derived.OwnWalkIn
import Derived.TacticsInMore
import Derived.LoopNIn
import Derived.LoopIn
import Derived.Maps.AppendAt
import Derived.OwnWalk
import Derived.StillTail
import Derived.StillTactics
import Derived.OrdersIn
import Derived.TacticsIn
import Derived.Shelf.Spec.TrailingZeros
import Derived.StillTailTactics
import Derived.Test.YtgpgocijacgkhaaDoorRaab
import Derived.Test.YtgpgocijacgkhaaDoorDb
import Derived.Test.YtgpgocijacgkhaaDoorRaag
import Derived.Test.YtgpgocijacgkhaaDoorRaah
import Derived.Test.YtgpgocijacgkhaaDoorPa
import Derived.Test.YtgpgocijacgkhaaDoorPc
import Derived.Test.YtgpgocijacgkhaaDoorPd
import Derived.Test.YtgpgocijacgkhaaDoorPg
import Derived.Test.YtgpgocijacgkhaaDoorRaay
import Derived.Test.YtgpgocijacgkhaaDoorRaaa
import Derived.Test.YtgpgocijacgkhaaDoorRaac
import Derived.Test.YtgpgocijacgkhaaDoorRaar
import Derived.Test.YtgpgocijacgkhaaDoorRaaz
namespace Go.Proofs.YtgpgocijacgkhaaDoor
open Go.RowKit

set_option maxRecDepth 100000 in
theorem two_fin : ∀ s : Fin 64, decide (1 < pop (s.val : Int)) = decide (∃ u : Fin 6, ∃ v : Fin 6, u.val < v.val ∧ s.val.testBit u.val = true ∧ s.val.testBit v.val = true) := by decide +kernel

theorem two_iff {s : Nat} (h : s < 64) : 1 < pop (s : Int) ↔ ∃ u v, u < v ∧ v < 6 ∧ s.testBit u = true ∧ s.testBit v = true := by
  have := two_fin ⟨s, h⟩
  rw [decide_eq_decide] at this
  constructor
  · intro h1
    obtain ⟨u, v, h2, h3, h4⟩ := this.1 h1
    exact ⟨u.val, v.val, h2, v.isLt, h3, h4⟩
  · rintro ⟨u, v, h2, h5, h3, h4⟩
    exact this.2 ⟨⟨u, by omega⟩, ⟨v, h5⟩, h2, h3, h4⟩

theorem cnt_all (m : Nat) (ks : List Nat) (v : Nat) : cntP m ks v = v ↔ ∀ u, u < v → firstP m ks u = true := by
  have h1 : cntP m ks v = (List.range v).length ↔ ∀ u ∈ List.range v, firstP m ks u = true := by
    unfold cntP
    exact List.length_filter_eq_length_iff
  rw [List.length_range] at h1
  rw [h1]
  simp only [List.mem_range]

theorem parts_facts {m : Int} {zs : List Int} (h : famIn m zs = true) : 1 ≤ partsZ m zs ∧ partsZ m zs ≤ m ∧ (decide (partsZ m zs = m) = !((sizesZ m zs).any fun x => decide (1 < x))) := by
  obtain ⟨h1, h2, h3, h4⟩ := famIn_out h
  obtain ⟨k, rfl⟩ : ∃ k : Nat, m = (k : Int) := ⟨m.toNat, by omega⟩
  have hf : fullI (k : Int) = ((2 ^ k : Nat) : Int) - 1 := by simp [fullI]
  have hK : Ksm k (ksOf zs) := ⟨by omega, fun x hx => by
    obtain ⟨z, hz, rfl⟩ := List.mem_map.1 hx
    have := h4 z hz
    omega⟩
  have e1 : partsZ (k : Int) zs = ((cntP k (ksOf zs) k : Nat) : Int) := by simp [partsZ, h]
  have e2 : sizesZ (k : Int) zs = zs.map pop := by simp [sizesZ, h]
  rw [e1, e2]
  have hle := cntP_le k (ksOf zs) k
  have hfirst : firstP k (ksOf zs) 0 = true := (firstP_iff hK (by omega)).2 (fun u hu => by omega)
  have hpos : 1 ≤ cntP k (ksOf zs) k := by
    unfold cntP
    exact List.length_pos_iff.2 (List.ne_nil_of_mem (List.mem_filter.2 ⟨List.mem_range.2 (show 0 < k by omega), hfirst⟩))
  refine ⟨by omega, by omega, ?_⟩
  have h64 : ∀ z ∈ zs, z.toNat < 64 := fun z hz => by have := small63 h z hz; omega
  have key : cntP k (ksOf zs) k = k ↔ ¬ ∃ z ∈ zs, ∃ u v, u < v ∧ v < 6 ∧ z.toNat.testBit u = true ∧ z.toNat.testBit v = true := by
    rw [cnt_all]
    constructor
    · rintro ha ⟨z, hz, u, v, huv, hv6, hu, hv⟩
      have hzk : z.toNat < 2 ^ k := hK.lt _ (List.mem_map.2 ⟨z, hz, rfl⟩)
      have hvk : v < k := by
        rcases Nat.lt_or_ge v k with h | h
        · exact h
        · rw [Nat.testBit_lt_two_pow (Nat.lt_of_lt_of_le hzk (Nat.pow_le_pow_right (by decide) h))] at hv; cases hv
      have hp : (partP k (ksOf zs) u).testBit v = true := partP_closed hK (show u < k by omega) z.toNat (List.mem_map.2 ⟨z, hz, rfl⟩) ⟨u, hu, partP_self u⟩ v hv
      have := (firstP_iff hK hvk).1 (ha v hvk) u huv
      rw [this] at hp
      cases hp
    · intro hno v hv
      rw [firstP_iff hK hv]
      intro u hu
      have hc : ClosedP (ksOf zs) (fun i => i = u) := by
        intro x hx hm i hi
        obtain ⟨z, hz, rfl⟩ := List.mem_map.1 hx
        obtain ⟨j, hj, rfl⟩ := hm
        have hb : ∀ i, z.toNat.testBit i = true → i < 6 := fun i hi => by
          rcases Nat.lt_or_ge i 6 with h | h
          · exact h
          · rw [Nat.testBit_lt_two_pow (Nat.lt_of_lt_of_le (h64 z hz) (Nat.pow_le_pow_right (by decide) h : 2 ^ 6 ≤ 2 ^ i))] at hi; cases hi
        rcases Nat.lt_trichotomy i j with h | h | h
        · exact absurd ⟨z, hz, i, j, h, hb j hj, hi, hj⟩ hno
        · exact h
        · exact absurd ⟨z, hz, j, i, h, hb i hi, hj, hi⟩ hno
      cases hb : (partP k (ksOf zs) u).testBit v
      · rfl
      · have := partP_min (m := k) hc rfl v hb
        omega
  rw [Bool.eq_iff_iff, decide_eq_true_eq, Bool.not_eq_true', List.any_map, List.any_eq_false]
  rw [show (((cntP k (ksOf zs) k : Nat) : Int) = (k : Int)) ↔ cntP k (ksOf zs) k = k from by omega, key]
  constructor
  · intro hno z hz
    simp only [Function.comp, decide_eq_true_eq]
    intro h1
    have hz0 := small63 h z hz
    have h2 := (two_iff (h64 z hz)).1 (by rw [Int.toNat_of_nonneg hz0.1]; exact h1)
    exact hno ⟨z, hz, h2⟩
  · rintro ha ⟨z, hz, h2⟩
    have hz0 := small63 h z hz
    have h3 := (two_iff (h64 z hz)).2 h2
    rw [Int.toNat_of_nonneg hz0.1] at h3
    have := ha z hz
    simp only [Function.comp, decide_eq_true_eq] at this
    exact this h3

set_option maxRecDepth 100000 in
set_option maxHeartbeats 8000000 in
theorem walkFnParts (a : Option Addr) (n cap : Nat) (w : World) (hb : Bys w w.heap.size a n) (hT : Tab w) (hn : n ≤ 1048576) (hc : n ≤ cap) (hc2 : cap ≤ 9223372036854775807) :
    Calls Tryd.prog 6 #[.slice a n cap] w fun e w' => e = .returned (.bool true) ∧ Below w.heap.size w w' := by
  have HBy := Lib.hid hb
  have HT := Lib.hid hT
  clear hb hT
  go_enter Tryd.func6, Tryd.ntmps6
  go_wp2_with fail
  refine (drawParts_any a n cap w HBy.out hn hc hc2).mono ?_
  rintro e w1 ⟨m, a1, zs, c1, rfl, hl, ho1, hb1⟩
  have F1 := FB.start (m := m) (c := c1) (own_ints ho1)
  have B1 := Lib.hid (hb1.trans ((below1 w1 (.cells #[.int .i64 m, .slice a1 zs.length c1] 25)).mono hb1.size))
  have hln : zs.length ≤ 1048576 := by omega
  have f_f_1 := Lib.hid F1
  clear F1 ho1 hb1
  have f_0 := f_f_1.out.x0
  have f_1 := f_f_1.out.x1
  obtain ⟨A, hA⟩ : ∃ A, A = partsZ m zs := ⟨_, rfl⟩
  have HA := Lib.hid hA
  clear hA
  go_wp2_with fail
  refine (implParts_any m a1 c1 zs _ f_f_1.out.ints (HT.out.below B1.out HT.out.lt) hln).mono ?_
  rw [← HA.out]
  rintro e w2 ⟨rfl, hb2⟩
  have B2 := Lib.hid (B1.out.trans (hb2.mono B1.out.size))
  have f_f_2 := Lib.hid (f_f_1.out.step hb2)
  clear hb2 B1 f_f_1
  clear f_0 f_1
  have f_0 := f_f_2.out.x0
  have f_1 := f_f_2.out.x1
  go_wp2_with fail
  refine (specParts_any m a1 c1 zs _ f_f_2.out.ints hln).mono ?_
  rw [← HA.out]
  rintro e w3 ⟨rfl, hb3⟩
  have B3 := Lib.hid (B2.out.trans (hb3.mono B2.out.size))
  have f_f_3 := Lib.hid (f_f_2.out.step hb3)
  clear hb3 B2 f_f_2
  clear f_0 f_1
  have f_0 := f_f_3.out.x0
  have f_1 := f_f_3.out.x1
  cases hd : famIn m zs
  · clear hd HA
    go_wp2
    go_ret
    exact ⟨rfl, B3.out⟩
  · have HD := Lib.hid hd
    clear hd
    obtain ⟨qs, hqs⟩ : ∃ qs, qs = sizesZ m zs := ⟨_, rfl⟩
    have HE : Hid (1 ≤ A ∧ A ≤ m ∧ (decide (A = m) = !(qs.any fun x => decide (1 < x)))) := Lib.hid (by rw [hqs, HA.out]; exact parts_facts HD.out)
    have HQS := Lib.hid hqs
    have hql : qs.length ≤ 1048576 := by rw [hqs]; unfold sizesZ; split <;> simp; exact hln
    clear hqs
    go_wp2_with fail
    refine (implSizes_any m a1 c1 zs _ f_f_3.out.ints hln).mono ?_
    rw [HD.out]
    rw [← HQS.out]
    rintro e w4 ⟨a4, c4, rfl, ho4, hb4⟩
    have G4 := Lib.hid (own_ints ho4)
    have B4 := Lib.hid (B3.out.trans (hb4.mono B3.out.size))
    have f_f_4 := Lib.hid (f_f_3.out.step hb4)
    clear ho4 hb4 B3 f_f_3
    clear f_0 f_1
    obtain ⟨Z, hZ⟩ : ∃ Z, Z = qs.length := ⟨_, rfl⟩
    have HZ := Lib.hid hZ
    have hZ1 : Z ≤ 1048576 := by rw [hZ]; exact hql
    rw [← hZ]
    have hs1 : w1.heap.size < w4.heap.size := lt_of_some f_f_4.out.blk
    clear hZ hql hl hln HA HQS
    go_wp2
    go_loopw [10, 11] (fun v i wr => ∃ (k : Nat) (b' : Bool), k ≤ Z ∧ i = .int .i64 (k : Int) ∧ v = .bool b' ∧ b' = (qs.take k).any (fun x => decide (1 < x)) ∧ Below w4.heap.size w4 wr) (fun _ i _ => Z - (intOf i).toNat)
    case atStart => exact ⟨0, false, Nat.zero_le _, rfl, rfl, by simp, Below.refl _ _⟩
    case round =>
      obtain ⟨k, bb, hk, rfl, rfl, hbb, hB⟩ := hrel
      have HBI := Lib.hid hbb
      clear hbb
      by_cases hlt : k < Z
      · have hkq : k < qs.length := by rw [← HZ.out]; exact hlt
        have HNX : Hid ((qs.take (k + 1)).any (fun x => decide (1 < x)) = (bb || decide (1 < qs[k]?.getD 0))) := Lib.hid (by rw [List.take_succ_eq_append_getElem hkq, List.any_append, ← HBI.out]; simp [hkq])
        cases bb
        · obtain ⟨b1, o1, ha1, hb1, hc1⟩ := G4.out.at_ (k := k) hkq
          subst ha1
          have v1 := (hB.cell (p := ⟨b1, o1 + k, none⟩) hb1).trans hc1
          obtain ⟨q, hq⟩ : ∃ q, q = qs[k]?.getD 0 := ⟨_, rfl⟩
          rw [← hq] at v1 HNX
          have HB := Lib.hid hB
          clear hB hc1 hq hkq
          cases hp : decide (1 < q)
          · have HP := Lib.hid hp
            go_wp2
            go_roundw
            case rel => exact ⟨k + 1, false, by omega, by go_num, rfl, by rw [HNX.out, HP.out]; rfl, HB.out⟩
            case measure => simp [intOf]; omega
          · have HP := Lib.hid hp
            go_wp2
            go_roundw
            case rel => exact ⟨k + 1, true, by omega, by go_num, rfl, by rw [HNX.out, HP.out]; rfl, HB.out⟩
            case measure => simp [intOf]; omega
        · have HB := Lib.hid hB
          clear hB hkq
          go_wp2
          go_roundw
          case rel => exact ⟨k + 1, true, by omega, by go_num, rfl, by rw [HNX.out]; rfl, HB.out⟩
          case measure => simp [intOf]; omega
      · have f0 := (hB.cell (p := ⟨w1.heap.size, 0, none⟩) hs1).trans f_f_4.out.x0
        have HR := Lib.hid (B4.out.trans (hB.mono B4.out.size))
        have HBB : Hid (decide (A = m) = !bb) := Lib.hid (by rw [HE.out.2.2, HBI.out, List.take_of_length_le (by have := HZ.out; omega)])
        have h1A := HE.out.1
        have hAm := HE.out.2.1
        clear hB HBI HE
        cases bb
        · have e1 : (A == m) = true := by have h := HBB.out; simp at h; simp [h]
          clear HBB
          go_wp2
          go_ret
          exact ⟨rfl, HR.out⟩
        · have e1 : (A == m) = false := by have h := HBB.out; simp at h; simp [h]
          clear HBB
          go_wp2
          go_ret
          exact ⟨rfl, HR.out⟩

end Go.Proofs.YtgpgocijacgkhaaDoor
