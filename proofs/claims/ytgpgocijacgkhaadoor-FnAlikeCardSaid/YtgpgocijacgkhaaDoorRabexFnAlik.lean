/- It is proved what has, namesIn, l1Names and l1Called return; conditions: those of each statement. -/
import Derived.Deep.QuietTactic
import Derived.BigQuiet
import Derived.Test.YtgpgocijacgkhaaDoorRows
import Derived.WalkKit
import Derived.WalkSpells
import Derived.ProofKit
import Derived.OpenShut
import Derived.ShutString
import Derived.ChangeOld
import Derived.Below
import Derived.Deep.RegionHeld3
import Derived.Lib.Hide
import Derived.Lib.SmallJoins
import Derived.Outline
import Derived.Laws.MakeOwn
import Derived.Laws.OwnMore
import Derived.IntWalk
import Derived.RangeFuncNested
import Derived.RangeFuncBound
import Derived.RangeFuncCalls
import Derived.RangeFuncLeaves
import Derived.RangeFuncBox
import Derived.Shelf.Abstract
import Derived.Shelf.RegionOpen
import Derived.OwnWalkIn
import Derived.TacticsInMore
import Derived.LoopNIn
import Derived.LoopIn
import Derived.Maps.AppendAt
import Derived.Deep.AppendLies
import Derived.OwnWalk
import Derived.StillTail
import Derived.StillTactics
import Derived.OrdersIn
import Derived.TacticsIn
import Derived.Shelf.Spec.TrailingZeros
import Derived.StillTailTactics
import Derived.Test.YtgpgocijacgkhaaDoorRaaa
import Derived.Test.YtgpgocijacgkhaaDoorRaab
import Derived.Test.YtgpgocijacgkhaaDoorRabdxFnAlik
import Derived.Test.YtgpgocijacgkhaaDoorRaac
import Derived.Test.YtgpgocijacgkhaaDoorTd
import Derived.Test.YtgpgocijacgkhaaDoorRaae
import Derived.Test.YtgpgocijacgkhaaDoorDb
import Derived.Test.YtgpgocijacgkhaaDoorTb
import Derived.Laws.CopyRow
import Derived.Lib.SlBuf
import Derived.Lib.AppendZeros
import Derived.Lib.SlicesCompact
import Derived.Lib.OwnBridge
import Derived.Shelf.Sort.Plain
import Derived.Shelf.Slices.In.SortNone
import Derived.Shelf.Slices.CompactI
import Derived.Ground.Names2Prog
import Derived.RowKit
import Derived.RangeFuncWrites
namespace Go.Proofs.YtgpgocijacgkhaaDoor
open Go.RowKit

set_option maxRecDepth 100000 in
theorem has_fin : ∀ x : Fin 64, ∀ p : Fin 6, (bits BinOp.and IntKind.i64 ((x.val : Int) / 2 ^ p.val) 1 == 1) = x.val.testBit p.val := by decide +kernel

theorem has_any (x p : Nat) (hx : x < 64) (hp : p < 6) (w : World) :
    Calls Tryd.prog 60 #[.int .i64 (x : Int), .int .i64 (p : Int)] w fun e w' => e = .returned (.bool (x.testBit p)) ∧ w = w' := by
  have HH := Lib.hid (has_fin ⟨x, hx⟩ ⟨p, hp⟩)
  simp only at HH
  go_enter Tryd.func60, Tryd.ntmps60
  go_wp2
  go_ret
  exact ⟨by rw [← HH.out]; rfl, rfl⟩

set_option maxRecDepth 100000 in
set_option maxHeartbeats 2000000 in
theorem namesIn_any (m : Nat) (hm : m ≤ 6) (a : Option Addr) (c : Nat) (ps : List Int) (w : World) (ha : Ints w w.heap.size a ps) (hx : ps.length ≤ 1048576) :
    Calls Tryd.prog 52 #[.int .i64 (m : Int), .slice a ps.length c] w fun e w' => e = .returned (.bool (namesB m ps)) ∧ w = w' := by
  obtain ⟨n, hn⟩ : ∃ n, n = ps.length := ⟨_, rfl⟩
  have HN := Lib.hid hn
  rw [← hn]
  rw [← hn] at hx
  by_cases hl : n = m
  · have HLM : Hid (ps.length = m) := Lib.hid (by omega)
    subst hl
    clear hn
    go_enter Tryd.func52, Tryd.ntmps52
    go_wp2
    go_loop [5, 14] (fun s i => ∃ k : Nat, k ≤ n ∧ i = .int .i64 (k : Int) ∧ s = .int .i64 ((orP (ps.take k) : Nat) : Int) ∧ (∀ j, j < k → inB (ps[j]?.getD 0) 0 ((n : Int) - 1) = true) ∧ (∀ j, j < k → (orP (ps.take j)).testBit (ps[j]?.getD 0).toNat = false)) (fun _ i => n - (intOf i).toNat)
    case atStart => exact ⟨0, Nat.zero_le _, rfl, rfl, fun j hj => by omega, fun j hj => by omega⟩
    case round =>
      obtain ⟨k, hk, rfl, rfl, hr, ht⟩ := hrel
      by_cases hlt : k < n
      · obtain ⟨b1, o1, rfl, hb1, hc1⟩ := ha.at_ (k := k) (by rw [← HN.out]; exact hlt)
        obtain ⟨p, hp⟩ : ∃ p, p = ps[k]?.getD 0 := ⟨_, rfl⟩
        rw [← hp] at hc1
        have HP := Lib.hid hp
        have HR := Lib.hid hr
        have HT := Lib.hid ht
        have hk0 : (0 : Int) ≤ (k : Int) := by omega
        have hk1 : (k : Int) < (n : Int) := by omega
        clear hr ht hp
        by_cases hp0 : p < 0
        · have HF : Hid (namesB n ps = false) := Lib.hid (by
            have := inR_no (m := n) (ps := ps) (k := k) (by rw [← HN.out]; exact hlt) (by rw [← HP.out]; exact inB_false (.inl hp0))
            simp [namesB, this])
          go_wp2
          go_ret
          exact ⟨by rw [HF.out]; rfl, rfl⟩
        · by_cases hpm : (n : Int) ≤ p
          · have HF : Hid (namesB n ps = false) := Lib.hid (by
              have := inR_no (m := n) (ps := ps) (k := k) (by rw [← HN.out]; exact hlt) (by rw [← HP.out]; exact inB_false (.inr (by omega)))
              simp [namesB, this])
            go_wp2
            go_ret
            exact ⟨by rw [HF.out]; rfl, rfl⟩
          · obtain ⟨q, rfl⟩ : ∃ q : Nat, p = (q : Int) := ⟨p.toNat, by omega⟩
            obtain ⟨d, hd⟩ : ∃ d, d = orP (ps.take k) := ⟨_, rfl⟩
            have hd64 : d < 64 := by
              rw [hd]
              have h1 := orP_lt n (ps.take k) (fun z hz => by
                obtain ⟨j, hj, rfl⟩ := List.getElem_of_mem hz
                simp only [List.length_take] at hj
                have h2 := inB_out (HR.out j (by omega))
                rw [List.getElem_take]
                rw [show ps[j]?.getD 0 = ps[j]'(by omega) from by rw [List.getElem?_eq_getElem (by omega)]; rfl] at h2
                omega)
              exact Nat.lt_of_lt_of_le h1 (Nat.pow_le_pow_right (by decide) hm : 2 ^ n ≤ 2 ^ 6)
            have hq6 : q < 6 := by omega
            have HD := Lib.hid hd
            rw [← hd]
            clear hd
            cases hb : d.testBit q
            · have HB := Lib.hid hb
              clear hb
              go_wp2_with (first
                | (go_at_call 60; refine (has_any d q hd64 hq6 _).mono ?_; rintro e w' ⟨rfl, rfl⟩; rw [HB.out])
                | (go_at_call 62; refine (with_any d q (by omega) (by omega) _).mono ?_; rintro e w' ⟨rfl, rfl⟩))
              go_round
              case rel => exact ⟨k + 1, by omega, by go_num, by rw [take_snoc ps k (by rw [← HN.out]; exact hlt), orP_snoc, ← HP.out, ← HD.out]; rfl, fun j hj => by
                rcases Nat.lt_succ_iff_lt_or_eq.1 hj with h | rfl
                · exact HR.out j h
                · rw [← HP.out]; exact inB_true (by omega) (by omega), fun j hj => by
                rcases Nat.lt_succ_iff_lt_or_eq.1 hj with h | rfl
                · exact HT.out j h
                · rw [← HP.out, ← HD.out]; exact HB.out⟩
              case measure => simp [intOf]; omega
            · have HB := Lib.hid hb
              have HF : Hid (namesB n ps = false) := Lib.hid (by
                cases hin : inR n ps
                · simp [namesB, hin]
                · exact names_twice hm hin HLM.out hlt (by rw [← HP.out, ← HD.out]; exact HB.out))
              clear hb
              go_wp2_with (go_at_call 60; refine (has_any d q hd64 hq6 _).mono ?_; rintro e w' ⟨rfl, rfl⟩; rw [HB.out])
              go_ret
              exact ⟨by rw [HF.out]; rfl, rfl⟩
      · obtain rfl : k = n := by omega
        have HF : Hid (namesB k ps = true) := Lib.hid (names_once hm (inR_yes (fun j hj => hr j (by have := HLM.out; omega))) HLM.out ht)
        clear hr ht
        go_wp2
        go_ret
        exact ⟨by rw [HF.out]; rfl, rfl⟩
  · have HF : Hid (namesB m ps = false) := Lib.hid (by
      have : ¬ ps.length = m := by omega
      simp [namesB, this])
    have hlz : ((n : Int) != (m : Int)) = true := by rw [bne_iff_ne]; omega
    clear hn
    go_enter Tryd.func52, Tryd.ntmps52
    go_wp2
    go_ret
    exact ⟨by rw [HF.out]; rfl, rfl⟩

theorem seen_full (m d : Nat) : (((d : Nat) : Int) == 2 ^ m - 1) = decide (d = 2 ^ m - 1) := by
  have h : (1 : Nat) ≤ 2 ^ m := Nat.one_le_two_pow
  have h2 : ((2 : Int) ^ m) = ((2 ^ m : Nat) : Int) := by simp
  rw [h2]
  by_cases hd : d = 2 ^ m - 1
  · rw [decide_eq_true hd, beq_iff_eq]; omega
  · rw [decide_eq_false hd, beq_eq_false_iff_ne]; omega

set_option maxRecDepth 100000 in
set_option maxHeartbeats 2000000 in
theorem l1Names_any (m : Nat) (hm1 : 1 ≤ m) (hm : m ≤ 6) (a : Option Addr) (c : Nat) (ps : List Int) (w : World) (ha : Ints w w.heap.size a ps) (hx : ps.length ≤ 1048576) :
    Calls Tryd.prog 56 #[.slice a ps.length c, .int .i64 (m : Int)] w fun e w' => e = .returned (.bool (namesB m ps)) ∧ w = w' := by
  obtain ⟨n, hn⟩ : ∃ n, n = ps.length := ⟨_, rfl⟩
  have HN := Lib.hid hn
  rw [← hn]
  rw [← hn] at hx
  clear hn
  go_enter Tryd.func56, Tryd.ntmps56
  go_wp2
  go_loop [5, 6] (fun s i => ∃ k : Nat, k ≤ n ∧ i = .int .i64 (k : Int) ∧ s = .int .i64 ((orP (ps.take k) : Nat) : Int) ∧ (∀ j, j < k → inB (ps[j]?.getD 0) 0 ((m : Int) - 1) = true)) (fun _ i => n - (intOf i).toNat)
  case atStart => exact ⟨0, Nat.zero_le _, rfl, rfl, fun j hj => by omega⟩
  case round =>
    obtain ⟨k, hk, rfl, rfl, hr⟩ := hrel
    by_cases hlt : k < n
    · obtain ⟨b1, o1, rfl, hb1, hc1⟩ := ha.at_ (k := k) (by rw [← HN.out]; exact hlt)
      obtain ⟨p, hp⟩ : ∃ p, p = ps[k]?.getD 0 := ⟨_, rfl⟩
      rw [← hp] at hc1
      have HP := Lib.hid hp
      have HR := Lib.hid hr
      have hk0 : (0 : Int) ≤ (k : Int) := by omega
      have hk1 : (k : Int) < (n : Int) := by omega
      clear hr hp
      cases hb : inB p 0 ((m : Int) - 1)
      · have HB := Lib.hid hb
        have HF : Hid (namesB m ps = false) := Lib.hid (by
          have := inR_no (m := m) (ps := ps) (k := k) (by rw [← HN.out]; exact hlt) (by rw [← HP.out]; exact HB.out)
          simp [namesB, this])
        clear hb
        go_wp2_with (go_at_call 43; refine (l6In_any _ _ _ _).mono ?_; rintro e w' ⟨rfl, rfl⟩; rw [HB.out])
        go_ret
        exact ⟨by rw [HF.out]; rfl, rfl⟩
      · have HB := Lib.hid hb
        obtain ⟨hp0, hp1⟩ := inB_out hb
        obtain ⟨q, rfl⟩ : ∃ q : Nat, p = (q : Int) := ⟨p.toNat, by omega⟩
        obtain ⟨d, hd⟩ : ∃ d, d = orP (ps.take k) := ⟨_, rfl⟩
        have hd64 : d < 64 := by
          rw [hd]
          have h1 := orP_lt m (ps.take k) (fun z hz => by
            obtain ⟨j, hj, rfl⟩ := List.getElem_of_mem hz
            simp only [List.length_take] at hj
            have h2 := inB_out (HR.out j (by omega))
            rw [List.getElem_take]
            rw [show ps[j]?.getD 0 = ps[j]'(by omega) from by rw [List.getElem?_eq_getElem (by omega)]; rfl] at h2
            omega)
          exact Nat.lt_of_lt_of_le h1 (Nat.pow_le_pow_right (by decide) hm : 2 ^ m ≤ 2 ^ 6)
        have HO := Lib.hid (or_at d q (by omega) (by omega))
        obtain ⟨h1q, h2q⟩ := p2_small q (by omega)
        have HD := Lib.hid hd
        rw [← hd]
        clear hb hd
        go_wp2_with (go_at_call 43; refine (l6In_any _ _ _ _).mono ?_; rintro e w' ⟨rfl, rfl⟩; rw [HB.out])
        go_round
        case rel => exact ⟨k + 1, by omega, by go_num, by rw [HO.out, take_snoc ps k (by rw [← HN.out]; exact hlt), orP_snoc, ← HP.out, ← HD.out]; rfl, fun j hj => by
          rcases Nat.lt_succ_iff_lt_or_eq.1 hj with h | rfl
          · exact HR.out j h
          · rw [← HP.out]; exact HB.out⟩
        case measure => simp [intOf]; omega
    · obtain rfl : k = n := by omega
      have hin : inR m ps = true := inR_yes (fun j hj => hr j (by have := HN.out; omega))
      have hfull : orP (ps.take k) = orP ps := by rw [HN.out, List.take_length]
      obtain ⟨d, hd⟩ : ∃ d, d = orP (ps.take k) := ⟨_, rfl⟩
      have HS := Lib.hid (seen_full m d)
      rw [← hd]
      by_cases hl : k = m
      · have HF : Hid (namesB m ps = decide (d = 2 ^ m - 1)) := Lib.hid (by
          have : ps.length = m := by rw [← HN.out]; exact hl
          simp [namesB, hin, this, hd, hfull])
        obtain ⟨h1q, h2q⟩ := p2_small m (by omega)
        clear hr hin hfull hd
        subst hl
        go_wp2
        go_ret
        exact ⟨by rw [HF.out, ← HS.out]; rfl, rfl⟩
      · have HF : Hid (namesB m ps = false) := Lib.hid (by
          have : ¬ ps.length = m := by rw [← HN.out]; exact hl
          simp [namesB, this])
        have hlz : ((k : Int) == (m : Int)) = false := by rw [beq_eq_false_iff_ne]; omega
        clear hr hin hfull hd
        go_wp2
        go_ret
        exact ⟨by rw [HF.out]; rfl, rfl⟩

/-- What is called after v members. -/
def cal (ps : List Int) (s v : Nat) : Nat := (List.range v).foldl (fun t u => t ||| (((s >>> u) &&& 1) * 2 ^ (ps[u]?.getD 0).toNat)) 0

theorem cal_succ (ps : List Int) (s v : Nat) : cal ps s (v + 1) = cal ps s v ||| (((s >>> v) &&& 1) * 2 ^ (ps[v]?.getD 0).toNat) := by simp [cal, List.range_succ]
set_option maxRecDepth 100000 in
theorem mem_range : ∀ m, m ≤ 6 → ∀ s, s < 2 ^ m → mem s = (List.range m).filter fun i => s.testBit i := by decide +kernel

set_option maxRecDepth 100000 in
theorem bit_if : ∀ s, s < 64 → ∀ u, u < 6 → ((s >>> u) &&& 1) = if s.testBit u then 1 else 0 := by decide +kernel

theorem cal_called (m : Nat) (hm : m ≤ 6) (ps : List Int) (s : Nat) (hs : s < 2 ^ m) : cal ps s m = called ps s := by
  have hs64 : s < 64 := Nat.lt_of_lt_of_le hs (Nat.pow_le_pow_right (by decide) hm : 2 ^ m ≤ 2 ^ 6)
  have key : ∀ v, v ≤ m → cal ps s v = nm ps ((List.range v).filter fun i => s.testBit i) := by
    intro v
    induction v with
    | zero => intro _; rfl
    | succ v ih =>
      intro hv
      rw [cal_succ, ih (by omega), List.range_succ, List.filter_append, bit_if s hs64 v (by omega)]
      cases hb : s.testBit v
      · simp [hb]
      · simp only [List.filter_cons, hb, if_true, List.filter_nil, nm_snoc, Nat.one_mul]
  rw [key m (Nat.le_refl _), called, mem_range m hm s hs]

set_option maxRecDepth 100000 in
set_option maxHeartbeats 2000000 in
theorem l1Called_any (m s : Nat) (hm : m ≤ 6) (hs : s < 2 ^ m) (a : Option Addr) (c : Nat) (ps : List Int) (hp : Okp m ps) (w : World) (ha : Ints w w.heap.size a ps) :
    Calls Tryd.prog 80 #[.int .i64 (s : Int), .slice a ps.length c] w fun e w' => e = .returned (.int .i64 ((called ps s : Nat) : Int)) ∧ Below w.heap.size w w' := by
  have hs64 : s < 64 := Nat.lt_of_lt_of_le hs (Nat.pow_le_pow_right (by decide) hm : 2 ^ m ≤ 2 ^ 6)
  have HL := Lib.hid hp.len
  have HR := Lib.hid hp.rng
  have HI := Lib.hid ha
  rw [HL.out]
  clear ha hp
  go_enter Tryd.func80, Tryd.ntmps80
  go_wp2
  go_loopw [5, 6] (fun t i wr => ∃ v : Nat, v ≤ m ∧ i = .int .i64 (v : Int) ∧ t = .int .i64 ((cal ps s v : Nat) : Int) ∧ cal ps s v < 64 ∧ Below w.heap.size w wr) (fun _ i _ => m - (intOf i).toNat)
  case atStart => exact ⟨0, Nat.zero_le _, rfl, rfl, by simp [cal], Below.refl _ _⟩
  case round =>
    obtain ⟨v, hv, rfl, rfl, hc64, hB⟩ := hrel
    have HBW := Lib.hid hB
    by_cases hlt : v < m
    · obtain ⟨b1, o1, rfl, hb1, hc1⟩ := HI.out.at_ (k := v) (by rw [HL.out]; exact hlt)
      obtain ⟨hq0, hq1⟩ := HR.out v hlt
      obtain ⟨q, hq⟩ : ∃ q : Nat, ps[v]?.getD 0 = (q : Int) := ⟨(ps[v]?.getD 0).toNat, by omega⟩
      rw [hq] at hc1
      have c1 := (hB.cell (p := ⟨b1, o1 + v, none⟩) hb1).trans hc1
      obtain ⟨d, hd⟩ : ∃ d, d = cal ps s v := ⟨_, rfl⟩
      rw [← hd] at hc64 ⊢
      obtain ⟨e, he⟩ : ∃ e, e = (s >>> v) &&& 1 := ⟨_, rfl⟩
      have he1 : e ≤ 1 := by rw [he]; exact Nat.and_le_right
      have hq6 : q < 6 := by omega
      have HW1 : Hid (bits BinOp.and IntKind.i64 ((s : Int) / 2 ^ v) 1 = (e : Int)) := Lib.hid (by rw [bit_at s v hs64 (by omega), ← he])
      have HW2 : Hid (bits BinOp.or IntKind.i64 (d : Int) ((e : Int) * 2 ^ q) = ((d ||| (e * 2 ^ q) : Nat) : Int)) := Lib.hid (or1_at d e q (by omega) he1 (by omega))
      have HW3 : Hid (wrap64 ((e : Int) * 2 ^ q) = (e : Int) * 2 ^ q) := Lib.hid (by obtain ⟨h1, h2⟩ := e2_small e q he1 (by omega); unfold wrap64; omega)
      have HCS : Hid (cal ps s (v + 1) = d ||| (e * 2 ^ q)) := Lib.hid (by rw [cal_succ, ← hd, ← he, hq, Int.toNat_natCast])
      have hlt64 : d ||| (e * 2 ^ q) < 64 := by
        refine Nat.or_lt_two_pow (n := 6) hc64 ?_
        have h2 : 2 ^ q ≤ 2 ^ 5 := Nat.pow_le_pow_right (by decide) (by omega)
        have h3 : e * 2 ^ q ≤ 1 * 2 ^ 5 := Nat.mul_le_mul he1 h2
        have h4 : (1 * 2 ^ 5 : Nat) < 2 ^ 6 := by decide
        omega
      have HL64 := Lib.hid hlt64
      have hv0 : (0 : Int) ≤ (v : Int) := by omega
      have hv1 : (v : Int) < (m : Int) := by omega
      clear hB hc1 hq hd he hq0 hq1 hlt64
      go_wp2
      go_quiet (fail)
      simp only [HW1.out, HW3.out, HW2.out]
      go_wp2
      go_roundw
      case rel => exact ⟨v + 1, by omega, by go_num, by rw [HCS.out], by rw [HCS.out]; exact HL64.out, below_drewN HBW.out _⟩
      case measure => simp [intOf]; omega
    · obtain rfl : v = m := by omega
      rw [cal_called v hm ps s hs]
      clear hB
      go_wp2
      go_ret
      exact ⟨rfl, HBW.out⟩

end Go.Proofs.YtgpgocijacgkhaaDoor

/- It is proved what l1Named returns; conditions: those of each statement. -/
namespace Go.Proofs.YtgpgocijacgkhaaDoor
open Go.RowKit

theorem row_below {W W' : World} {B size n : Nat} {e : TypeId} {v : Value} {xs : List Value} (h : W.ownsRow B e size v n xs) (hb : Below W.heap.size W W') : W'.ownsRow B e size v n xs :=
  World.ownsRow.kept h (only_of_below hb none) (by cases v.ownBlock <;> simp)

/-- A club called by names. -/
def callZ (ps : List Int) (z : Int) : Int := ((called ps z.toNat : Nat) : Int)

set_option maxRecDepth 100000 in
set_option maxHeartbeats 2000000 in
theorem l1Named_any (m : Nat) (a b : Option Addr) (c d : Nat) (zs ps : List Int) (w : World) (ha : Ints w w.heap.size a zs) (hb : Ints w w.heap.size b ps) (hf : famIn (m : Int) zs = true) (hp : Okp m ps) :
    Calls Tryd.prog 58 #[.agg #[.int .i64 (m : Int), .slice a zs.length c], .slice b ps.length d] w (RetFam w m (zs.map (callZ ps))) := by
  obtain ⟨i0, hi0, hz0, hz1, hz2⟩ := info_parts Tryd.info3
  have hPc := isClub_all hf
  obtain ⟨hm1, hm6, hl8, -⟩ := famIn_out hf
  have hm6' : m ≤ 6 := by omega
  have HA := Lib.hid ha
  have HB := Lib.hid hb
  have HP := Lib.hid hp
  obtain ⟨n, hn⟩ : ∃ n, n = zs.length := ⟨_, rfl⟩
  have HN := Lib.hid hn
  obtain ⟨k0, hk0⟩ : ∃ k0, k0 = ps.length := ⟨_, rfl⟩
  have HK := Lib.hid hk0
  rw [← hn, ← hk0]
  have hl8' : n ≤ 8 := by omega
  have hPn : ∀ k, k < n → IsClub m (k, zs[k]?.getD 0) := fun k hk => hPc k (by omega)
  have hb3 := below3 w (.cells #[.int .i64 (m : Int), .slice a n c] 25) (.cells #[.int .i64 0, .slice none 0 0] 25) (.cells #[] 3)
  have HB3 := Lib.hid hb3
  have HQ0 : Hid (HasBlk (((w.alloc (.cells #[.int .i64 (m : Int), .slice a n c] 25)).alloc (.cells #[.int .i64 0, .slice none 0 0] 25)).alloc (.cells #[] 3)) w.heap.size #[.int .i64 (m : Int), .slice a n c] 25) := Lib.hid (alloc3_0 w _ _ _)
  have HQ1 : Hid (HasBlk (((w.alloc (.cells #[.int .i64 (m : Int), .slice a n c] 25)).alloc (.cells #[.int .i64 0, .slice none 0 0] 25)).alloc (.cells #[] 3)) (w.heap.size + 1) #[.int .i64 0, .slice none 0 0] 25) := Lib.hid (alloc3_1 w _ _ _)
  have HO0 : Hid (OwnN (((w.alloc (.cells #[.int .i64 (m : Int), .slice a n c] 25)).alloc (.cells #[.int .i64 0, .slice none 0 0] 25)).alloc (.cells #[] 3)) (w.heap.size + 2) (some ⟨w.heap.size + 1 + 1, 0, none⟩) 0 0 []) := Lib.hid (own_empty (alloc3_2 w _ _ _) (by omega))
  clear ha hb hf hp hn hk0 hl8 hPc hb3
  go_enter Tryd.func58, Tryd.ntmps58
  go_wp2
  go_loopw [5, 6] (fun v i wr => ∃ (k : Nat) (a' : Option Addr) (c' : Nat), k ≤ n ∧ i = .int .i64 (k : Int) ∧ v = .slice a' k c' ∧ OwnN wr (w.heap.size + 2) a' k c' ((zs.take k).map (callZ ps)) ∧ Below (w.heap.size + 2) (((w.alloc (.cells #[.int .i64 (m : Int), .slice a n c] 25)).alloc (.cells #[.int .i64 0, .slice none 0 0] 25)).alloc (.cells #[] 3)) wr) (fun _ i _ => n - (intOf i).toNat)
  case atStart => exact ⟨0, _, _, Nat.zero_le _, rfl, rfl, HO0.out, Below.refl _ _⟩
  case round =>
    obtain ⟨k, a', c', hk, rfl, rfl, ho, hB⟩ := hrel
    obtain ⟨wo, hwo⟩ : ∃ wo, wo = wr := ⟨wr, rfl⟩
    subst hwo
    have q0 := (hB.block w.heap.size (by omega)).trans HQ0.out
    have q1 := (hB.block (w.heap.size + 1) (by omega)).trans HQ1.out
    have x0 := (blk_cell q0 0).trans (cell2_0 _ _)
    have x1 := (blk_cell q0 1).trans (cell2_1 _ _)
    have Q1 := Lib.hid q1
    have HO := Lib.hid ho
    have HW := Lib.hid hB
    have hsz : w.heap.size + 3 ≤ wo.heap.size := by have := hB.size; simpa using this
    have hbw : Hid (Below w.heap.size w wo) := Lib.hid (HB3.out.trans (hB.mono (by omega)))
    clear ho hB q0 q1
    by_cases hlt : k < n
    · obtain ⟨s, hs⟩ : ∃ s : Nat, zs[k]?.getD 0 = (s : Int) := ⟨(zs[k]?.getD 0).toNat, by have := (hPn k hlt).2.1; simp only at this; omega⟩
      have hs2 : s < 2 ^ m := by have := (hPn k hlt).2.2; simp only [hs] at this; simpa using this
      obtain ⟨b1, o1, rfl, hb1, hc1⟩ := HA.out.at_ (k := k) (by have := HN.out; omega)
      rw [hs] at hc1
      have c1 := (hbw.out.cell (p := ⟨b1, o1 + k, none⟩) hb1).trans hc1
      have HS := Lib.hid hs
      have hk0' : (0 : Int) ≤ (k : Int) := by omega
      have hk1' : (k : Int) < (n : Int) := by omega
      clear hc1 hs
      go_wp2_with fail
      rw [HK.out]
      refine (l1Called_any m s hm6' hs2 b d ps HP.out wo ((HB.out.below hbw.out).mono (by omega))).mono ?_
      rintro e w3 ⟨rfl, hb3⟩
      have HO3 := Lib.hid (row_below HO.out hb3)
      have hs3 := hb3.size
      have HW3 := Lib.hid (HW.out.trans (hb3.mono (by omega)))
      clear hb3
      rw [← HK.out]
      go_wp2_with (at_builtin; refine wpList_append_own _ rfl _ _ 23 rfl (w.heap.size + 2) 3 i0 (.int .i64 0) 1 8 Tryd.underlying23 hi0 hz0 hz1 hz2 rfl (by decide) _ _ _ rfl (HO3.out.alloc _) ⟨w3.heap.size, 0, none⟩ 1 1 [.int .i64 _] rfl rfl (cell_one_new _ _ _) (by simp [Value.oneCell']) (by simp only [maxLen]; omega) (by omega) (by simp; omega) ?_; intro v' w9 hown hgrow _; obtain ⟨g', cap', rfl, _, _⟩ := World.ownsRow.form hown (by omega))
      go_roundw
      case rel => exact ⟨k + 1, _, _, by omega, by go_num, rfl, by rw [map_at _ zs k (by have := HN.out; omega), HS.out]; exact own_more hown, (HW3.out.alloc (by omega) _).grown hgrow (by simp; omega) (fun g e => (World.ownsRow.lt HO3.out g e).1)⟩
      case measure => simp [intOf]; omega
    · obtain rfl : k = n := by omega
      go_wp2_with fail
      refine (l1With_any _ _ _ _ _ _ _ _).mono ?_
      rintro e w5 ⟨rfl, hb5⟩
      have q1 := (hb5.block (w.heap.size + 1) (by omega)).trans Q1.out
      have d0 := (blk_cell q1 0).trans (cell2_0 _ _)
      have d1 := (blk_cell q1 1).trans (cell2_1 _ _)
      have f0 := blk_frozen q1 0
      have f1 := blk_frozen q1 1
      have HO5 := Lib.hid (row_below HO.out hb5)
      have hs5 := hb5.size
      have HW5 := Lib.hid (hbw.out.trans (hb5.mono (by omega)))
      clear hb5 q1
      go_wp2
      refine bodyPost_ret (v := .agg #[.int .i64 (m : Int), .slice a' k c']) (by simp [results, Tryd.results58, go_sem, d0, d1]) rfl ?_
      have hmt : (zs.take k).map (callZ ps) = zs.map (callZ ps) := by rw [HN.out, List.take_length]
      refine ⟨a', c', by rw [List.length_map, ← HN.out], ?_, ?_⟩
      · have h1 := HO5.out
        rw [hmt] at h1
        unfold OwnI
        rw [List.length_map, ← HN.out]
        exact ownsRow_base (ownsRow_setCell_below (ownsRow_setCell_below h1 (a := ⟨w.heap.size + 1, 0, none⟩) (show w.heap.size + 1 < w.heap.size + 2 by omega) _) (a := ⟨w.heap.size + 1, 1, none⟩) (show w.heap.size + 1 < w.heap.size + 2 by omega) _) (by omega)
      · exact (HW5.out.setCell (p := ⟨w.heap.size + 1, 0, none⟩) (by simp) _).setCell (p := ⟨w.heap.size + 1, 1, none⟩) (by simp) _

end Go.Proofs.YtgpgocijacgkhaaDoor

/- It is proved what slices.Sort does with the first places of an array, and how listed clubs are told; conditions: those of each statement. -/
namespace Go.Proofs.YtgpgocijacgkhaaDoor
open Go.RowKit Go.Shelf

def leZ : Int → Int → Bool := fun x y => decide (x ≤ y)
theorem nums_own {β : Type} (b : Nat) (t : TypeId) (f : β → List Int) : Own (fun (s : β) W => Nums W b t (f s)) := fun s W W' row h hg hrow =>
  HasBlk.kept h hg (fun e => by obtain ⟨o, ho, hc⟩ := hrow b e; rw [show W.heap[b]? = _ from h] at ho; cases ho; cases hc)

theorem putCells_iv (ys L : List Int) (n : Nat) (hy : ys.length = n) (hn : n ≤ L.length) : Sort.putCells (Value.int .i64) 0 ys.toArray (iv L) = iv (ys ++ L.drop n) := by
  apply Array.ext_getElem?
  intro j
  simp only [Sort.putCells, Array.getElem?_mapIdx, iv, List.getElem?_toArray, List.map_append, List.size_toArray, Nat.zero_le, true_and, Nat.zero_add, Nat.sub_zero]
  by_cases hj : j < n
  · rw [List.getElem?_append_left (by simp; omega), List.getElem?_map, List.getElem?_map, List.getElem?_eq_getElem (by omega : j < L.length), List.getElem?_eq_getElem (by omega : j < ys.length)]
    simp only [Option.map_some]
    rw [if_pos (by omega), getElem!_pos _ j (by simp; omega)]
    simp
  · rw [List.getElem?_append_right (by simp; omega), List.getElem?_map, List.getElem?_map, List.getElem?_drop, List.length_map, hy, show n + (j - n) = j from by omega]
    cases L[j]? with
    | none => rfl
    | some z => simp only [Option.map_some]; rw [if_neg (by omega)]

theorem sort_nums (g n cap t : Nat) (L : List Int) (w : World) (h : Nums w g t L) (hn : n ≤ L.length) (hc : n ≤ cap) (hl : L.length ≤ 1048576) :
    Calls Tryd.prog 109 #[.slice (some ⟨g, 0, none⟩) n cap] w fun e w' => e = .returned (.tuple #[]) ∧ Nums w' g t ((L.take n).mergeSort leZ ++ L.drop n) ∧ w.grownBy w' (some g) := by
  have htl : (L.take n).length = n := by rw [List.length_take]; omega
  have hH : Sort.Holds (Value.int .i64) w g 0 (L.take n).toArray := by
    intro j hj
    have hj' : j < n := by simpa [htl] using hj
    refine ⟨?_, h.frozen _⟩
    have h1 := h.cell j (by omega)
    rw [Nat.zero_add, h1]
    have : ((L.take n).toArray)[j]! = L[j]?.getD 0 := by
      rw [getElem!_pos _ j hj]
      simp [show j < L.length by omega]
    rw [this]
  have hc := Any.slices_Sort_int sortLays g 0 cap (L.take n) w hH h.lt (by rw [htl]; omega)
  rw [htl] at hc
  refine hc.mono ?_
  rintro e w' ⟨rfl, q, os, rfl⟩
  refine ⟨rfl, ?_, only_trans (grownBy_put w g q _) (only_of_below (grown_below _ os) _)⟩
  have h1 : Nums (Sort.putRow (Value.int .i64) (Sort.ahead w q) g 0 ((L.take n).mergeSort leZ).toArray) g t ((L.take n).mergeSort leZ ++ L.drop n) := by
    have hb := h
    unfold Nums HasBlk at hb ⊢
    have hlt := (Array.getElem?_eq_some_iff.1 hb).1
    simp only [Sort.putRow, Sort.mapBlock, Sort.ahead, Array.getElem?_modify, if_pos, hb, Option.map_some, Sort.onCells]
    rw [putCells_iv _ _ n (by rw [List.length_mergeSort, htl]) hn]
  exact h1.below (grown_below _ os) h1.lt

/-- The array of clubs as it is filled. -/
def madeL (ps : List Int) (pre : List (Nat × Int)) : List Int := pre.foldl (fun L p => L.set p.1 (callZ ps p.2)) (List.replicate 8 0)

theorem madeL_snoc (ps : List Int) (pre : List (Nat × Int)) (p : Nat × Int) : madeL ps (pre ++ [p]) = (madeL ps pre).set p.1 (callZ ps p.2) := by simp [madeL]
theorem madeL_len (ps : List Int) : ∀ pre : List (Nat × Int), (madeL ps pre).length = 8 := by
  intro pre
  unfold madeL
  suffices h : ∀ (pre : List (Nat × Int)) (L : List Int), (pre.foldl (fun L p => L.set p.1 (callZ ps p.2)) L).length = L.length by rw [h]; simp
  intro pre
  induction pre with
  | nil => intro L; rfl
  | cons p pre ih => intro L; rw [List.foldl_cons, ih, List.length_set]

theorem madeL_pairs (ps zs : List Int) (h8 : zs.length ≤ 8) : ∀ k, k ≤ zs.length → madeL ps (pairs zs k) = (zs.take k).map (callZ ps) ++ List.replicate (8 - k) 0
  | 0, _ => by simp [pairs, madeL]
  | k + 1, hk => by
    rw [pairs_succ' zs k (by omega), madeL_snoc, madeL_pairs ps zs h8 k (by omega)]
    have hl : ((zs.take k).map (callZ ps)).length = k := by rw [List.length_map, List.length_take]; omega
    rw [List.set_append_right _ _ (by simp only; omega), hl, Nat.sub_self, show 8 - k = (8 - (k + 1)) + 1 from by omega, List.replicate_succ, List.set_cons_zero, List.take_succ_eq_append_getElem (by omega), List.map_append, List.append_assoc]
    rfl

/-- The list that names make of a family's clubs, and behind it zeros. -/
def keyL (zs ps : List Int) : List Int := (zs.map (callZ ps)).mergeSort leZ ++ List.replicate (8 - zs.length) 0

theorem keyL_len (zs ps : List Int) (h : zs.length ≤ 8) : (keyL zs ps).length = 8 := by simp [keyL]; omega
theorem keyL_made (zs ps : List Int) (h8 : zs.length ≤ 8) : ((madeL ps (pairs zs zs.length)).take zs.length).mergeSort leZ ++ (madeL ps (pairs zs zs.length)).drop zs.length = keyL zs ps := by
  have hl : (zs.map (callZ ps)).length = zs.length := by simp
  rw [madeL_pairs ps zs h8 _ (Nat.le_refl _), List.take_length, List.take_append_of_le_length (by omega), List.take_of_length_le (by omega), List.drop_append_of_le_length (by omega), List.drop_of_length_le (by omega), List.nil_append, keyL]

end Go.Proofs.YtgpgocijacgkhaaDoor

/- It is proved what the iterator over a set's members yields, each member known to be one; conditions: those of each statement. -/
namespace Go.Proofs.YtgpgocijacgkhaaDoor
open Go.RowKit Go.Shelf

attribute [local go_sem] Oper.semAt_some

/-- A member of s. -/
abbrev MemS (s : Nat) := { v : Nat // v ∈ mem s }

def valsS {s : Nat} (ys : List (MemS s)) : List Nat := ys.map (·.1)
theorem valsS_snoc {s : Nat} (ys : List (MemS s)) (y : MemS s) : valsS (ys ++ [y]) = valsS ys ++ [y.1] := by simp [valsS]
set_option maxRecDepth 100000 in
set_option maxHeartbeats 2000000 in
theorem membersS1_in (n : Nat) (hn : 1 ≤ n) (l Bs n₀ s : Nat) (hs64 : s < 64) (J Jx : List (MemS s) → World → Prop)
    (hY : ∀ pre x W, J pre W → pre.length < 6 → YieldAt Fence.wide (n - 1) Tryd.prog l #[.int .i64 (x.1 : Int)] W fun e W' =>
      (e = .returned (.bool true) ∧ J (pre ++ [x]) W' ∧ Below n₀ W W') ∨ (e = .returned (.bool false) ∧ Jx (pre ++ [x]) W'))
    (W : World) (hBs : W.cell? ⟨Bs, 0, none⟩ = some (.int .i64 (s : Int))) (hT : Tab W) (hn0 : 1 < n₀) (h0 : J [] W) :
    CallsIn Fence.wide n Tryd.prog 78 #[.func (.yield l) #[] #[], .pointer (some ⟨Bs, 0, none⟩)] W fun e W' => (∃ v, e = .returned v) ∧
      ((∃ ys, valsS ys = mem s ∧ J ys W') ∨ (∃ pre, valsS pre <+: mem s ∧ Jx pre W')) := by
  have hss : (s : Int) < 64 := by omega
  refine callsIn_of_wp Tryd.func78 rfl trivial ?_ rfl
  simp only [Tryd.ntmps78, List.size_toArray, List.length_cons, List.length_nil, Nat.reduceAdd, Nat.reduceSub, Array.replicate_succ, Array.replicate_zero, List.push_toArray, List.append_toArray, List.nil_append, List.cons_append]
  gi_wp2
  gi_loopw [3] (fun r wr => ∃ (t : Nat) (pre : List (MemS s)), t < 64 ∧ valsS pre ++ mem t = mem s ∧ r = .int .u64 (t : Int) ∧ J pre wr ∧ Below n₀ W wr)
    (fun r _ => (intOf r).toNat)
  case atStart => exact ⟨s, [], hs64, by simp [valsS], rfl, h0, Below.refl _ _⟩
  case round =>
    obtain ⟨t, pre, ht, hpre, rfl, hJs, hnx⟩ := hrel
    by_cases h0 : t = 0
    · subst h0
      rw [mem_zero, List.append_nil] at hpre
      gi_wp2
      go_end0
      exact ⟨⟨_, rfl⟩, .inl ⟨pre, hpre, hJs⟩⟩
    · have hc := mem_cons t ht h0
      rw [hc] at hpre
      have hk : Lib.ctz 64 t ∈ mem s := by rw [← hpre]; simp
      have hlen : pre.length < 6 := by
        have h1 := mem_length s hs64
        rw [← hpre] at h1
        simp [valsS] at h1
        omega
      have HA := Lib.hid (low_and t h0 ht)
      have hT2 : Tab wr := hT.below hnx hn0
      have hpre' : valsS (pre ++ [(⟨Lib.ctz 64 t, hk⟩ : MemS s)]) ++ mem (t &&& (t - 1)) = mem s := (by rw [valsS_snoc, List.append_assoc]; exact hpre)
      have hlt : t &&& (t - 1) < t := by have := @Nat.and_le_right t (t - 1); omega
      obtain ⟨fn, tmps, assign, body, hy, hR⟩ := hY _ ⟨Lib.ctz 64 t, hk⟩ wr hJs hlen
      dsimp only at hy
      have ht0 : (0 : Int) < (t : Int) := by omega
      clear hc hpre
      gi_wp2
      refine ⟨trivial, (callsIn_wide.2 (tz_any t h0 ht _ hT2)).mono ?_⟩
      rintro e w' ⟨rfl, rfl⟩
      gi_wp2
      refine hR.mono ?_
      rintro e W3 (⟨rfl, hJ3, hk3⟩ | ⟨rfl, hJx3⟩)
      · gi_wp2
        go_roundw
        case rel => exact ⟨t &&& (t - 1), _, by omega, hpre', by rw [HA.out], hJ3, hnx.trans hk3⟩
        case measure => rw [HA.out]; simp only [intOf]; omega
      · gi_wp2
        refine bodyPost_ret (results_none rfl _ _ _) rfl ?_
        exact ⟨⟨_, rfl⟩, .inr ⟨_, ⟨mem (t &&& (t - 1)), hpre'⟩, hJx3⟩⟩

theorem membersS_stops (n : Nat) (hn : 1 ≤ n) (Bs n₀ s : Nat) (hs : s < 64) (w : World) (hBs : Bs < w.heap.size) (hn₀ : n₀ ≤ w.heap.size) (hn1 : 1 < n₀)
    (hc : w.cell? ⟨Bs, 0, none⟩ = some (.int .i64 (s : Int))) (hT : Tab w) :
    SeqStopsK Fence.wide n Tryd.prog 78 #[.pointer (some ⟨Bs, 0, none⟩)] (fun x : MemS s => #[Value.int .i64 (x.1 : Int)]) (Below n₀) (fun ys => valsS ys = mem s)
      (fun pre => valsS pre <+: mem s) 6 w := fun l J Jx W hW _ _ hY h0 =>
  membersS1_in n hn l Bs n₀ s hs J Jx hY W ((hW.cell (p := ⟨Bs, 0, none⟩) hBs).trans hc) (hT.below hW (by omega)) hn1 h0

theorem yield_any {m : Nat} (m' : Nat) {P : Program} {l : Nat} {args : Array Value} {W : World} {R : Ending → World → Prop} (h : YieldAt Fence.wide m P l args W R) : YieldAt Fence.wide m' P l args W R := by
  obtain ⟨fn, tmps, assign, body, hy, hR⟩ := h
  exact ⟨fn, tmps, assign, body, hy, hR.1, fun c cs _ => hR.2 c cs (room_wide _)⟩

/-- Numbers of names. -/
def nI (p : List Nat) : List Int := List.map (fun (v : Nat) => (v : Int)) p

theorem nI_len (p : List Nat) : (nI p).length = p.length := by simp [nI]
theorem nI_snoc (p : List Nat) (v : Nat) : nI (p ++ [v]) = nI p ++ [(v : Int)] := by simp [nI]
theorem permsL_count : ∀ (k : Nat) (us : List Nat), us.length ≤ 6 → (permsL k us).length ≤ 6 ^ k
  | 0, _, _ => by simp [permsL]
  | k + 1, us, h => by
    rw [permsL]
    refine Nat.le_trans (flat_len _ (6 ^ k) us (fun v _ => ?_)) (by rw [Nat.pow_succ, Nat.mul_comm]; exact Nat.mul_le_mul_left _ h)
    rw [List.length_map]
    exact permsL_count k _ (Nat.le_trans (List.length_erase_le) h)

/-- What has been yielded behind names that were chosen first. -/
def partL (k : Nat) (us vs : List Nat) : List (List Nat) := vs.flatMap fun v => (permsL k (us.erase v)).map (v :: ·)

theorem partL_snoc (k : Nat) (us vs : List Nat) (v : Nat) : partL k us (vs ++ [v]) = partL k us vs ++ (permsL k (us.erase v)).map (v :: ·) := by simp [partL]
theorem partL_count (k : Nat) (us vs : List Nat) (h : us.length ≤ 6) : (partL k us vs).length ≤ vs.length * 6 ^ k := by
  unfold partL
  refine flat_len _ _ vs (fun v _ => ?_)
  rw [List.length_map]
  exact permsL_count k _ (Nat.le_trans (List.length_erase_le) h)

end Go.Proofs.YtgpgocijacgkhaaDoor
