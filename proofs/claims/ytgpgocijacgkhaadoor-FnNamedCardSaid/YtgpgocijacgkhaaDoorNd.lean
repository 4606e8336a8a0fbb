/- It is proved what has, namesIn, l1Names and l1Called return; conditions: those of each statement. -/
import Derived.Deep.QuietTactic
import Derived.BigQuiet
import Derived.Test.YtgpgocijacgkhaaDoorRows
import Derived.WalkKit
import Derived.WalkSpells
import Derived.ProofKit
import Derived.OpenShut
import Derived.ShutString
import Derived.ChangeOld
import Derived.Below
import Derived.Deep.RegionHeld3
import Derived.Lib.Hide
import Derived.Lib.SmallJoins
import Derived.Outline
import Derived.Laws.MakeOwn
import Derived.Laws.OwnMore
import Derived.IntWalk
import Derived.RangeFuncNested
import Derived.RangeFuncBound
import Derived.RangeFuncCalls
import Derived.RangeFuncLeaves
import Derived.RangeFuncBox
import Derived.Shelf.Abstract
import Derived.Shelf.RegionOpen
import Derived.OwnWalkIn
import Derived.TacticsInMore
import Derived.LoopNIn
import Derived.LoopIn
import Derived.Maps.AppendAt
import Derived.Deep.AppendLies
import Derived.OwnWalk
import Derived.StillTail
import Derived.StillTactics
import Derived.OrdersIn
import Derived.TacticsIn
import Derived.Shelf.Spec.TrailingZeros
import Derived.StillTailTactics
import Derived.Test.YtgpgocijacgkhaaDoorRaaa
import Derived.Test.YtgpgocijacgkhaaDoorRaab
import Derived.Test.YtgpgocijacgkhaaDoorNa
import Derived.Test.YtgpgocijacgkhaaDoorNc
import Derived.Test.YtgpgocijacgkhaaDoorRaac
import Derived.Test.YtgpgocijacgkhaaDoorTd
import Derived.Test.YtgpgocijacgkhaaDoorRaae
import Derived.Test.YtgpgocijacgkhaaDoorUc
namespace Go.Proofs.YtgpgocijacgkhaaDoor
open Go.RowKit

set_option maxRecDepth 100000 in
theorem has_fin : ∀ x : Fin 64, ∀ p : Fin 6, (bits BinOp.and IntKind.i64 ((x.val : Int) / 2 ^ p.val) 1 == 1) = x.val.testBit p.val := by decide +kernel

theorem has_any (x p : Nat) (hx : x < 64) (hp : p < 6) (w : World) :
    Calls Tryd.prog 60 #[.int .i64 (x : Int), .int .i64 (p : Int)] w fun e w' => e = .returned (.bool (x.testBit p)) ∧ w = w' := by
  have HH := Lib.hid (has_fin ⟨x, hx⟩ ⟨p, hp⟩)
  simp only at HH
  go_enter Tryd.func60, Tryd.ntmps60
  go_wp2
  go_ret
  exact ⟨by rw [← HH.out]; rfl, rfl⟩

set_option maxRecDepth 100000 in
set_option maxHeartbeats 2000000 in
theorem namesIn_any (m : Nat) (hm : m ≤ 6) (a : Option Addr) (c : Nat) (ps : List Int) (w : World) (ha : Ints w w.heap.size a ps) (hx : ps.length ≤ 1048576) :
    Calls Tryd.prog 52 #[.int .i64 (m : Int), .slice a ps.length c] w fun e w' => e = .returned (.bool (namesB m ps)) ∧ w = w' := by
  obtain ⟨n, hn⟩ : ∃ n, n = ps.length := ⟨_, rfl⟩
  have HN := Lib.hid hn
  rw [← hn]
  rw [← hn] at hx
  by_cases hl : n = m
  · have HLM : Hid (ps.length = m) := Lib.hid (by omega)
    subst hl
    clear hn
    go_enter Tryd.func52, Tryd.ntmps52
    go_wp2
    go_loop [5, 14] (fun s i => ∃ k : Nat, k ≤ n ∧ i = .int .i64 (k : Int) ∧ s = .int .i64 ((orP (ps.take k) : Nat) : Int) ∧ (∀ j, j < k → inB (ps[j]?.getD 0) 0 ((n : Int) - 1) = true) ∧ (∀ j, j < k → (orP (ps.take j)).testBit (ps[j]?.getD 0).toNat = false)) (fun _ i => n - (intOf i).toNat)
    case atStart => exact ⟨0, Nat.zero_le _, rfl, rfl, fun j hj => by omega, fun j hj => by omega⟩
    case round =>
      obtain ⟨k, hk, rfl, rfl, hr, ht⟩ := hrel
      by_cases hlt : k < n
      · obtain ⟨b1, o1, rfl, hb1, hc1⟩ := ha.at_ (k := k) (by rw [← HN.out]; exact hlt)
        obtain ⟨p, hp⟩ : ∃ p, p = ps[k]?.getD 0 := ⟨_, rfl⟩
        rw [← hp] at hc1
        have HP := Lib.hid hp
        have HR := Lib.hid hr
        have HT := Lib.hid ht
        have hk0 : (0 : Int) ≤ (k : Int) := by omega
        have hk1 : (k : Int) < (n : Int) := by omega
        clear hr ht hp
        by_cases hp0 : p < 0
        · have HF : Hid (namesB n ps = false) := Lib.hid (by
            have := inR_no (m := n) (ps := ps) (k := k) (by rw [← HN.out]; exact hlt) (by rw [← HP.out]; exact inB_false (.inl hp0))
            simp [namesB, this])
          go_wp2
          go_ret
          exact ⟨by rw [HF.out]; rfl, rfl⟩
        · by_cases hpm : (n : Int) ≤ p
          · have HF : Hid (namesB n ps = false) := Lib.hid (by
              have := inR_no (m := n) (ps := ps) (k := k) (by rw [← HN.out]; exact hlt) (by rw [← HP.out]; exact inB_false (.inr (by omega)))
              simp [namesB, this])
            go_wp2
            go_ret
            exact ⟨by rw [HF.out]; rfl, rfl⟩
          · obtain ⟨q, rfl⟩ : ∃ q : Nat, p = (q : Int) := ⟨p.toNat, by omega⟩
            obtain ⟨d, hd⟩ : ∃ d, d = orP (ps.take k) := ⟨_, rfl⟩
            have hd64 : d < 64 := by
              rw [hd]
              have h1 := orP_lt n (ps.take k) (fun z hz => by
                obtain ⟨j, hj, rfl⟩ := List.getElem_of_mem hz
                simp only [List.length_take] at hj
                have h2 := inB_out (HR.out j (by omega))
                rw [List.getElem_take]
                rw [show ps[j]?.getD 0 = ps[j]'(by omega) from by rw [List.getElem?_eq_getElem (by omega)]; rfl] at h2
                omega)
              exact Nat.lt_of_lt_of_le h1 (Nat.pow_le_pow_right (by decide) hm : 2 ^ n ≤ 2 ^ 6)
            have hq6 : q < 6 := by omega
            have HD := Lib.hid hd
            rw [← hd]
            clear hd
            cases hb : d.testBit q
            · have HB := Lib.hid hb
              clear hb
              go_wp2_with (first
                | (go_at_call 60; refine (has_any d q hd64 hq6 _).mono ?_; rintro e w' ⟨rfl, rfl⟩; rw [HB.out])
                | (go_at_call 62; refine (with_any d q (by omega) (by omega) _).mono ?_; rintro e w' ⟨rfl, rfl⟩))
              go_round
              case rel => exact ⟨k + 1, by omega, by go_num, by rw [take_snoc ps k (by rw [← HN.out]; exact hlt), orP_snoc, ← HP.out, ← HD.out]; rfl, fun j hj => by
                rcases Nat.lt_succ_iff_lt_or_eq.1 hj with h | rfl
                · exact HR.out j h
                · rw [← HP.out]; exact inB_true (by omega) (by omega), fun j hj => by
                rcases Nat.lt_succ_iff_lt_or_eq.1 hj with h | rfl
                · exact HT.out j h
                · rw [← HP.out, ← HD.out]; exact HB.out⟩
              case measure => simp [intOf]; omega
            · have HB := Lib.hid hb
              have HF : Hid (namesB n ps = false) := Lib.hid (by
                cases hin : inR n ps
                · simp [namesB, hin]
                · exact names_twice hm hin HLM.out hlt (by rw [← HP.out, ← HD.out]; exact HB.out))
              clear hb
              go_wp2_with (go_at_call 60; refine (has_any d q hd64 hq6 _).mono ?_; rintro e w' ⟨rfl, rfl⟩; rw [HB.out])
              go_ret
              exact ⟨by rw [HF.out]; rfl, rfl⟩
      · obtain rfl : k = n := by omega
        have HF : Hid (namesB k ps = true) := Lib.hid (names_once hm (inR_yes (fun j hj => hr j (by have := HLM.out; omega))) HLM.out ht)
        clear hr ht
        go_wp2
        go_ret
        exact ⟨by rw [HF.out]; rfl, rfl⟩
  · have HF : Hid (namesB m ps = false) := Lib.hid (by
      have : ¬ ps.length = m := by omega
      simp [namesB, this])
    have hlz : ((n : Int) != (m : Int)) = true := by rw [bne_iff_ne]; omega
    clear hn
    go_enter Tryd.func52, Tryd.ntmps52
    go_wp2
    go_ret
    exact ⟨by rw [HF.out]; rfl, rfl⟩

theorem seen_full (m d : Nat) : (((d : Nat) : Int) == 2 ^ m - 1) = decide (d = 2 ^ m - 1) := by
  have h : (1 : Nat) ≤ 2 ^ m := Nat.one_le_two_pow
  have h2 : ((2 : Int) ^ m) = ((2 ^ m : Nat) : Int) := by simp
  rw [h2]
  by_cases hd : d = 2 ^ m - 1
  · rw [decide_eq_true hd, beq_iff_eq]; omega
  · rw [decide_eq_false hd, beq_eq_false_iff_ne]; omega

set_option maxRecDepth 100000 in
set_option maxHeartbeats 2000000 in
theorem l1Names_any (m : Nat) (hm1 : 1 ≤ m) (hm : m ≤ 6) (a : Option Addr) (c : Nat) (ps : List Int) (w : World) (ha : Ints w w.heap.size a ps) (hx : ps.length ≤ 1048576) :
    Calls Tryd.prog 56 #[.slice a ps.length c, .int .i64 (m : Int)] w fun e w' => e = .returned (.bool (namesB m ps)) ∧ w = w' := by
  obtain ⟨n, hn⟩ : ∃ n, n = ps.length := ⟨_, rfl⟩
  have HN := Lib.hid hn
  rw [← hn]
  rw [← hn] at hx
  clear hn
  go_enter Tryd.func56, Tryd.ntmps56
  go_wp2
  go_loop [5, 6] (fun s i => ∃ k : Nat, k ≤ n ∧ i = .int .i64 (k : Int) ∧ s = .int .i64 ((orP (ps.take k) : Nat) : Int) ∧ (∀ j, j < k → inB (ps[j]?.getD 0) 0 ((m : Int) - 1) = true)) (fun _ i => n - (intOf i).toNat)
  case atStart => exact ⟨0, Nat.zero_le _, rfl, rfl, fun j hj => by omega⟩
  case round =>
    obtain ⟨k, hk, rfl, rfl, hr⟩ := hrel
    by_cases hlt : k < n
    · obtain ⟨b1, o1, rfl, hb1, hc1⟩ := ha.at_ (k := k) (by rw [← HN.out]; exact hlt)
      obtain ⟨p, hp⟩ : ∃ p, p = ps[k]?.getD 0 := ⟨_, rfl⟩
      rw [← hp] at hc1
      have HP := Lib.hid hp
      have HR := Lib.hid hr
      have hk0 : (0 : Int) ≤ (k : Int) := by omega
      have hk1 : (k : Int) < (n : Int) := by omega
      clear hr hp
      cases hb : inB p 0 ((m : Int) - 1)
      · have HB := Lib.hid hb
        have HF : Hid (namesB m ps = false) := Lib.hid (by
          have := inR_no (m := m) (ps := ps) (k := k) (by rw [← HN.out]; exact hlt) (by rw [← HP.out]; exact HB.out)
          simp [namesB, this])
        clear hb
        go_wp2_with (go_at_call 43; refine (l6In_any _ _ _ _).mono ?_; rintro e w' ⟨rfl, rfl⟩; rw [HB.out])
        go_ret
        exact ⟨by rw [HF.out]; rfl, rfl⟩
      · have HB := Lib.hid hb
        obtain ⟨hp0, hp1⟩ := inB_out hb
        obtain ⟨q, rfl⟩ : ∃ q : Nat, p = (q : Int) := ⟨p.toNat, by omega⟩
        obtain ⟨d, hd⟩ : ∃ d, d = orP (ps.take k) := ⟨_, rfl⟩
        have hd64 : d < 64 := by
          rw [hd]
          have h1 := orP_lt m (ps.take k) (fun z hz => by
            obtain ⟨j, hj, rfl⟩ := List.getElem_of_mem hz
            simp only [List.length_take] at hj
            have h2 := inB_out (HR.out j (by omega))
            rw [List.getElem_take]
            rw [show ps[j]?.getD 0 = ps[j]'(by omega) from by rw [List.getElem?_eq_getElem (by omega)]; rfl] at h2
            omega)
          exact Nat.lt_of_lt_of_le h1 (Nat.pow_le_pow_right (by decide) hm : 2 ^ m ≤ 2 ^ 6)
        have HO := Lib.hid (or_at d q (by omega) (by omega))
        obtain ⟨h1q, h2q⟩ := p2_small q (by omega)
        have HD := Lib.hid hd
        rw [← hd]
        clear hb hd
        go_wp2_with (go_at_call 43; refine (l6In_any _ _ _ _).mono ?_; rintro e w' ⟨rfl, rfl⟩; rw [HB.out])
        go_round
        case rel => exact ⟨k + 1, by omega, by go_num, by rw [HO.out, take_snoc ps k (by rw [← HN.out]; exact hlt), orP_snoc, ← HP.out, ← HD.out]; rfl, fun j hj => by
          rcases Nat.lt_succ_iff_lt_or_eq.1 hj with h | rfl
          · exact HR.out j h
          · rw [← HP.out]; exact HB.out⟩
        case measure => simp [intOf]; omega
    · obtain rfl : k = n := by omega
      have hin : inR m ps = true := inR_yes (fun j hj => hr j (by have := HN.out; omega))
      have hfull : orP (ps.take k) = orP ps := by rw [HN.out, List.take_length]
      obtain ⟨d, hd⟩ : ∃ d, d = orP (ps.take k) := ⟨_, rfl⟩
      have HS := Lib.hid (seen_full m d)
      rw [← hd]
      by_cases hl : k = m
      · have HF : Hid (namesB m ps = decide (d = 2 ^ m - 1)) := Lib.hid (by
          have : ps.length = m := by rw [← HN.out]; exact hl
          simp [namesB, hin, this, hd, hfull])
        obtain ⟨h1q, h2q⟩ := p2_small m (by omega)
        clear hr hin hfull hd
        subst hl
        go_wp2
        go_ret
        exact ⟨by rw [HF.out, ← HS.out]; rfl, rfl⟩
      · have HF : Hid (namesB m ps = false) := Lib.hid (by
          have : ¬ ps.length = m := by rw [← HN.out]; exact hl
          simp [namesB, this])
        have hlz : ((k : Int) == (m : Int)) = false := by rw [beq_eq_false_iff_ne]; omega
        clear hr hin hfull hd
        go_wp2
        go_ret
        exact ⟨by rw [HF.out]; rfl, rfl⟩

/-- What is called after v members. -/
def cal (ps : List Int) (s v : Nat) : Nat := (List.range v).foldl (fun t u => t ||| (((s >>> u) &&& 1) * 2 ^ (ps[u]?.getD 0).toNat)) 0

theorem cal_succ (ps : List Int) (s v : Nat) : cal ps s (v + 1) = cal ps s v ||| (((s >>> v) &&& 1) * 2 ^ (ps[v]?.getD 0).toNat) := by simp [cal, List.range_succ]
set_option maxRecDepth 100000 in
theorem mem_range : ∀ m, m ≤ 6 → ∀ s, s < 2 ^ m → mem s = (List.range m).filter fun i => s.testBit i := by decide +kernel

set_option maxRecDepth 100000 in
theorem bit_if : ∀ s, s < 64 → ∀ u, u < 6 → ((s >>> u) &&& 1) = if s.testBit u then 1 else 0 := by decide +kernel

theorem cal_called (m : Nat) (hm : m ≤ 6) (ps : List Int) (s : Nat) (hs : s < 2 ^ m) : cal ps s m = called ps s := by
  have hs64 : s < 64 := Nat.lt_of_lt_of_le hs (Nat.pow_le_pow_right (by decide) hm : 2 ^ m ≤ 2 ^ 6)
  have key : ∀ v, v ≤ m → cal ps s v = nm ps ((List.range v).filter fun i => s.testBit i) := by
    intro v
    induction v with
    | zero => intro _; rfl
    | succ v ih =>
      intro hv
      rw [cal_succ, ih (by omega), List.range_succ, List.filter_append, bit_if s hs64 v (by omega)]
      cases hb : s.testBit v
      · simp [hb]
      · simp only [List.filter_cons, hb, if_true, List.filter_nil, nm_snoc, Nat.one_mul]
  rw [key m (Nat.le_refl _), called, mem_range m hm s hs]

set_option maxRecDepth 100000 in
set_option maxHeartbeats 2000000 in
theorem l1Called_any (m s : Nat) (hm : m ≤ 6) (hs : s < 2 ^ m) (a : Option Addr) (c : Nat) (ps : List Int) (hp : Okp m ps) (w : World) (ha : Ints w w.heap.size a ps) :
    Calls Tryd.prog 80 #[.int .i64 (s : Int), .slice a ps.length c] w fun e w' => e = .returned (.int .i64 ((called ps s : Nat) : Int)) ∧ Below w.heap.size w w' := by
  have hs64 : s < 64 := Nat.lt_of_lt_of_le hs (Nat.pow_le_pow_right (by decide) hm : 2 ^ m ≤ 2 ^ 6)
  have HL := Lib.hid hp.len
  have HR := Lib.hid hp.rng
  have HI := Lib.hid ha
  rw [HL.out]
  clear ha hp
  go_enter Tryd.func80, Tryd.ntmps80
  go_wp2
  go_loopw [5, 6] (fun t i wr => ∃ v : Nat, v ≤ m ∧ i = .int .i64 (v : Int) ∧ t = .int .i64 ((cal ps s v : Nat) : Int) ∧ cal ps s v < 64 ∧ Below w.heap.size w wr) (fun _ i _ => m - (intOf i).toNat)
  case atStart => exact ⟨0, Nat.zero_le _, rfl, rfl, by simp [cal], Below.refl _ _⟩
  case round =>
    obtain ⟨v, hv, rfl, rfl, hc64, hB⟩ := hrel
    have HBW := Lib.hid hB
    by_cases hlt : v < m
    · obtain ⟨b1, o1, rfl, hb1, hc1⟩ := HI.out.at_ (k := v) (by rw [HL.out]; exact hlt)
      obtain ⟨hq0, hq1⟩ := HR.out v hlt
      obtain ⟨q, hq⟩ : ∃ q : Nat, ps[v]?.getD 0 = (q : Int) := ⟨(ps[v]?.getD 0).toNat, by omega⟩
      rw [hq] at hc1
      have c1 := (hB.cell (p := ⟨b1, o1 + v, none⟩) hb1).trans hc1
      obtain ⟨d, hd⟩ : ∃ d, d = cal ps s v := ⟨_, rfl⟩
      rw [← hd] at hc64 ⊢
      obtain ⟨e, he⟩ : ∃ e, e = (s >>> v) &&& 1 := ⟨_, rfl⟩
      have he1 : e ≤ 1 := by rw [he]; exact Nat.and_le_right
      have hq6 : q < 6 := by omega
      have HW1 : Hid (bits BinOp.and IntKind.i64 ((s : Int) / 2 ^ v) 1 = (e : Int)) := Lib.hid (by rw [bit_at s v hs64 (by omega), ← he])
      have HW2 : Hid (bits BinOp.or IntKind.i64 (d : Int) ((e : Int) * 2 ^ q) = ((d ||| (e * 2 ^ q) : Nat) : Int)) := Lib.hid (or1_at d e q (by omega) he1 (by omega))
      have HW3 : Hid (wrap64 ((e : Int) * 2 ^ q) = (e : Int) * 2 ^ q) := Lib.hid (by obtain ⟨h1, h2⟩ := e2_small e q he1 (by omega); unfold wrap64; omega)
      have HCS : Hid (cal ps s (v + 1) = d ||| (e * 2 ^ q)) := Lib.hid (by rw [cal_succ, ← hd, ← he, hq, Int.toNat_natCast])
      have hlt64 : d ||| (e * 2 ^ q) < 64 := by
        refine Nat.or_lt_two_pow (n := 6) hc64 ?_
        have h2 : 2 ^ q ≤ 2 ^ 5 := Nat.pow_le_pow_right (by decide) (by omega)
        have h3 : e * 2 ^ q ≤ 1 * 2 ^ 5 := Nat.mul_le_mul he1 h2
        have h4 : (1 * 2 ^ 5 : Nat) < 2 ^ 6 := by decide
        omega
      have HL64 := Lib.hid hlt64
      have hv0 : (0 : Int) ≤ (v : Int) := by omega
      have hv1 : (v : Int) < (m : Int) := by omega
      clear hB hc1 hq hd he hq0 hq1 hlt64
      go_wp2
      go_quiet (fail)
      simp only [HW1.out, HW3.out, HW2.out]
      go_wp2
      go_roundw
      case rel => exact ⟨v + 1, by omega, by go_num, by rw [HCS.out], by rw [HCS.out]; exact HL64.out, below_drewN HBW.out _⟩
      case measure => simp [intOf]; omega
    · obtain rfl : v = m := by omega
      rw [cal_called v hm ps s hs]
      clear hB
      go_wp2
      go_ret
      exact ⟨rfl, HBW.out⟩

end Go.Proofs.YtgpgocijacgkhaaDoor
