/- It is proved that the call of the law FnBad returns true; conditions: those of each statement. -/
import Derived.RowKit
import Derived.Laws.CopyRow
import Derived.Lib.SlBuf
import Derived.Deep.QuietTactic
import Derived.RangeFuncNested
import Derived.RangeFuncBound
import Derived.RangeFuncCalls
import Derived.RangeFuncLeaves
import Derived.RangeFuncBox
import Derived.RangeFuncWrites
import Derived.StillTailTactics
import Derived.Maps.OwnIn
import Derived.Maps.Ext
import Derived.DeepKeys4
import Derived.MapKept
import Derived.Test.YtacglafoahmcnaaDoorRows
import Derived.WalkKit
import Derived.WalkSpells
import Derived.ProofKit
import Derived.OpenShut
import Derived.ShutString
import Derived.ChangeOld
import Derived.Below
import Derived.Deep.RegionHeld3
import Derived.BigQuiet
import Derived.Lib.Hide
import Derived.Lib.SmallJoins
import Derived.Outline
import Derived.Laws.MakeOwn
import Derived.Laws.OwnMore
import Derived.IntWalk
import Derived.Maps.AppendAt
import Derived.Deep.RegionLaw
import Derived.Deep.AppendLies
import Derived.Lib.AppendZeros
import Derived.OwnWalk
import Derived.Lib.SlicesCompact
import Derived.Lib.OwnBridge
import Derived.OrdersIn
import Derived.TacticsIn
import Derived.Shelf.Sort.Plain
import Derived.Shelf.Slices.In.SortNone
import Derived.Shelf.Slices.CompactI
import Derived.Ground.Names2Prog
import Derived.Lib.SliceRun
import Derived.Shelf.RegionOpen
import Derived.Shelf.Abstract
import Derived.OwnWalkIn
import Derived.TacticsInMore
import Derived.LoopNIn
import Derived.LoopIn
import Derived.StillTail
import Derived.StillTactics
import Derived.Shelf.Spec.TrailingZeros
import Derived.Test.YtacglafoahmcnaaDoorRaal
import Derived.Test.YtacglafoahmcnaaDoorRabdxFnMeet
import Derived.Test.YtacglafoahmcnaaDoorRaae
import Derived.Test.YtacglafoahmcnaaDoorRaac
import Derived.Test.YtacglafoahmcnaaDoorRaaa
import Derived.Test.YtacglafoahmcnaaDoorTd
import Derived.Test.YtacglafoahmcnaaDoorRaag
import Derived.Test.YtacglafoahmcnaaDoorUc
import Derived.Laws.BitsAllLaws
import Derived.Test.YtacglafoahmcnaaDoorRabbxFnMeet
import Derived.Test.YtacglafoahmcnaaDoorRaam
import Derived.Test.YtacglafoahmcnaaDoorRaad
import Derived.Test.YtacglafoahmcnaaDoorRaab
namespace Go.Proofs.YtacglafoahmcnaaDoor
open Go.RowKit

set_option maxRecDepth 100000 in
theorem lawSizeW_any (z : Nat) (w : World) (h : z < 256) : Calls Tryd.prog 37 #[.int .i64 (z : Int)] w fun e w' => e = .returned (.int .i64 ((cntK 8 z : Nat) : Int)) ∧ w = w' := by
  go_enter Tryd.func37, Tryd.ntmps37
  go_wp2
  go_loop [0, 3] (fun s n => ∃ t k : Nat, t < 256 ∧ k + cntK 8 t = cntK 8 z ∧ s = .int .i64 (t : Int) ∧ n = .int .i64 (k : Int)) (fun s _ => (intOf s).toNat)
  case atStart => exact ⟨z, 0, h, by omega, rfl, rfl⟩
  case round =>
    obtain ⟨t, k, ht, hk, rfl, rfl⟩ := hrel
    have hz8 := cntK_bound 8 z
    have hk8 : k ≤ 8 := by omega
    have hlow := low8_fin ⟨t, ht⟩
    have hhf := cnt8_half ⟨t, ht⟩
    simp only at hlow hhf
    have HK := Lib.hid hk
    have HH := Lib.hid hhf
    have hm2 : t % 2 < 2 := Nat.mod_lt _ (by decide)
    obtain ⟨r, hr⟩ : ∃ r, r = t % 2 := ⟨_, rfl⟩
    rw [← hr] at hlow hm2
    have HR := Lib.hid hr
    have htI : (t : Int) ≤ 255 := by omega
    have hkI : (k : Int) ≤ 8 := by omega
    have hrI : (r : Int) ≤ 1 := by omega
    clear hk hhf hr
    by_cases h0 : 0 < t
    · have h0I : (0 : Int) < (t : Int) := by omega
      go_wp2
      go_round
      case rel => exact ⟨t / 2, k + r, by omega, by have := HK.out; have := HH.out; have := HR.out; omega, by go_num, by go_num⟩
      case measure => simp [intOf]; omega
    · have ht0 : t = 0 := by omega
      have e0 : cntK 8 t = 0 := by rw [ht0]; unfold cntK; rw [memK_zero]; rfl
      have HE : Hid (cntK 8 z = k) := Lib.hid (by have := HK.out; omega)
      have h0I : ¬ ((0 : Int) < (t : Int)) := by omega
      clear ht0 e0
      go_wp2
      go_ret
      exact ⟨by rw [HE.out]; rfl, rfl⟩

theorem bad_facts {m : Int} {zs : List Int} (h : badB m zs = true) :
    ∃ g : Nat, badZ m zs = (g : Int) ∧ 0 < g ∧ g < 2 ^ zs.length ∧ cntK 8 (togK zs g) < cntK 8 g ∧ zs.length ≤ 8 ∧ ∀ z ∈ zs, 0 ≤ z ∧ z.toNat < 64 := by
  have h' := h
  unfold badB at h'
  rw [Bool.and_eq_true] at h'
  obtain ⟨hf, hs⟩ := h'
  obtain ⟨k, rfl, hk1, hk6, hS, hl8⟩ := fam_nat2 hf
  obtain ⟨g, hg⟩ := Option.isSome_iff_exists.1 hs
  have hz : badZ (k : Int) zs = (g : Int) := by unfold badZ; rw [hf, if_pos rfl, hg]; rfl
  have hov := List.find?_some hg
  have hov2 : 0 < overP zs g := by simpa using hov
  refine ⟨g, hz, ?_, badF_lt hg, ?_, hl8, fun z hzm => ⟨(hS z hzm).1, p64 hk6 (hS z hzm).2⟩⟩
  · rcases Nat.eq_zero_or_pos g with e | e
    · rw [e, overP_zero] at hov2; omega
    · exact e
  · unfold overP at hov2
    omega

end Go.Proofs.YtacglafoahmcnaaDoor

/- It is proved what named and its closure return; conditions: those of each statement. -/
namespace Go.Proofs.YtacglafoahmcnaaDoor
open Go.RowKit Go.Shelf

attribute [local go_sem] Oper.semAt_some

/-- Members called by names, as a set. -/
def nm (ps : List Int) (us : List Nat) : Nat := us.foldl (fun t v => t ||| 2 ^ (ps[v]?.getD 0).toNat) 0

theorem nm_snoc (ps : List Int) (us : List Nat) (u : Nat) : nm ps (us ++ [u]) = nm ps us ||| 2 ^ (ps[u]?.getD 0).toNat := by simp [nm]
/-- A set called by names. -/
def called (ps : List Int) (s : Nat) : Nat := nm ps (mem s)

/-- Names that may be called: one for each member, below six. -/
structure Okp (m : Nat) (ps : List Int) : Prop where
  len : ps.length = m
  rng : ∀ v, v < m → 0 ≤ ps[v]?.getD 0 ∧ ps[v]?.getD 0 < 6

end Go.Proofs.YtacglafoahmcnaaDoor

/- It is proved that both sides look at names alike; conditions: those of each statement. -/
namespace Go.Proofs.YtacglafoahmcnaaDoor
open Go.RowKit

/-- All names met, as a set. -/
def orP (ps : List Int) : Nat := ps.foldl (fun t p => t ||| 2 ^ p.toNat) 0

theorem orP_snoc (ps : List Int) (p : Int) : orP (ps ++ [p]) = orP ps ||| 2 ^ p.toNat := by simp [orP]
theorem orP_lt (m : Nat) (ps : List Int) (h : ∀ p ∈ ps, p.toNat < m) : orP ps < 2 ^ m := by
  have : ∀ t, t < 2 ^ m → ps.foldl (fun t p => t ||| 2 ^ p.toNat) t < 2 ^ m := by
    induction ps with
    | nil => intro t ht; exact ht
    | cons x ps ih =>
      intro t ht
      rw [List.foldl_cons]
      exact ih (fun y hy => h y (by simp [hy])) _ (Nat.or_lt_two_pow ht (Nat.pow_lt_pow_right (by decide) (h x (by simp))))
  exact this 0 (Nat.two_pow_pos m)

/-- Names in range. -/
def inR (m : Nat) (ps : List Int) : Bool := ps.all fun p => inB p 0 ((m : Int) - 1)

theorem inR_at {m : Nat} {ps : List Int} (h : inR m ps = true) {k : Nat} (hk : k < ps.length) : 0 ≤ ps[k]?.getD 0 ∧ ps[k]?.getD 0 < (m : Int) := by
  have := inB_out (List.all_eq_true.1 h ps[k] (List.getElem_mem hk))
  have e : ps[k]?.getD 0 = ps[k] := by simp [hk]
  rw [e]; omega

theorem inR_no {m : Nat} {ps : List Int} {k : Nat} (hk : k < ps.length) (h : inB (ps[k]?.getD 0) 0 ((m : Int) - 1) = false) : inR m ps = false := by
  refine List.all_eq_false.2 ⟨ps[k], List.getElem_mem hk, ?_⟩
  have e : ps[k]?.getD 0 = ps[k] := by simp [hk]
  rw [e] at h
  simp [h]

theorem inR_yes {m : Nat} {ps : List Int} (h : ∀ k, k < ps.length → inB (ps[k]?.getD 0) 0 ((m : Int) - 1) = true) : inR m ps = true := by
  refine List.all_eq_true.2 fun p hp => ?_
  obtain ⟨k, hk, rfl⟩ := List.getElem_of_mem hp
  have := h k hk
  rwa [show ps[k]?.getD 0 = ps[k] from by simp [hk]] at this

/-- Each of m numbers once. -/
def namesB (m : Nat) (ps : List Int) : Bool := inR m ps && (decide (ps.length = m) && decide (orP ps = 2 ^ m - 1))

/-- How many members a set has. -/
def popS (s : Nat) : Nat := (mem s).length

theorem take_snoc (ps : List Int) (k : Nat) (h : k < ps.length) : ps.take (k + 1) = ps.take k ++ [ps[k]?.getD 0] := by
  rw [List.take_succ_eq_append_getElem h]; simp [h]

theorem namesB_ok {m : Nat} (hm : m ≤ 6) {ps : List Int} (h : namesB m ps = true) : Okp m ps := by
  simp only [namesB, Bool.and_eq_true, decide_eq_true_eq] at h
  refine ⟨h.2.1, fun v hv => ?_⟩
  have := inR_at h.1 (k := v) (by omega)
  omega

end Go.Proofs.YtacglafoahmcnaaDoor

/- It is proved what has, namesIn, l1Names and l1Called return; conditions: those of each statement. -/
namespace Go.Proofs.YtacglafoahmcnaaDoor
open Go.RowKit

set_option maxRecDepth 100000 in
theorem has_fin : ∀ x : Fin 64, ∀ p : Fin 6, (bits BinOp.and IntKind.i64 ((x.val : Int) / 2 ^ p.val) 1 == 1) = x.val.testBit p.val := by decide +kernel

theorem has_any (x p : Nat) (hx : x < 64) (hp : p < 6) (w : World) :
    Calls Tryd.prog 108 #[.int .i64 (x : Int), .int .i64 (p : Int)] w fun e w' => e = .returned (.bool (x.testBit p)) ∧ w = w' := by
  have HH := Lib.hid (has_fin ⟨x, hx⟩ ⟨p, hp⟩)
  simp only at HH
  go_enter Tryd.func108, Tryd.ntmps108
  go_wp2
  go_ret
  exact ⟨by rw [← HH.out]; rfl, rfl⟩

theorem seen_full (m d : Nat) : (((d : Nat) : Int) == 2 ^ m - 1) = decide (d = 2 ^ m - 1) := by
  have h : (1 : Nat) ≤ 2 ^ m := Nat.one_le_two_pow
  have h2 : ((2 : Int) ^ m) = ((2 ^ m : Nat) : Int) := by simp
  rw [h2]
  by_cases hd : d = 2 ^ m - 1
  · rw [decide_eq_true hd, beq_iff_eq]; omega
  · rw [decide_eq_false hd, beq_eq_false_iff_ne]; omega

set_option maxRecDepth 100000 in
set_option maxHeartbeats 2000000 in
theorem l1Names_any (m : Nat) (hm1 : 1 ≤ m) (hm : m ≤ 6) (a : Option Addr) (c : Nat) (ps : List Int) (w : World) (ha : Ints w w.heap.size a ps) (hx : ps.length ≤ 1048576) :
    Calls Tryd.prog 113 #[.slice a ps.length c, .int .i64 (m : Int)] w fun e w' => e = .returned (.bool (namesB m ps)) ∧ w = w' := by
  obtain ⟨n, hn⟩ : ∃ n, n = ps.length := ⟨_, rfl⟩
  have HN := Lib.hid hn
  rw [← hn]
  rw [← hn] at hx
  clear hn
  go_enter Tryd.func113, Tryd.ntmps113
  go_wp2
  go_loop [5, 6] (fun s i => ∃ k : Nat, k ≤ n ∧ i = .int .i64 (k : Int) ∧ s = .int .i64 ((orP (ps.take k) : Nat) : Int) ∧ (∀ j, j < k → inB (ps[j]?.getD 0) 0 ((m : Int) - 1) = true)) (fun _ i => n - (intOf i).toNat)
  case atStart => exact ⟨0, Nat.zero_le _, rfl, rfl, fun j hj => by omega⟩
  case round =>
    obtain ⟨k, hk, rfl, rfl, hr⟩ := hrel
    by_cases hlt : k < n
    · obtain ⟨b1, o1, rfl, hb1, hc1⟩ := ha.at_ (k := k) (by rw [← HN.out]; exact hlt)
      obtain ⟨p, hp⟩ : ∃ p, p = ps[k]?.getD 0 := ⟨_, rfl⟩
      rw [← hp] at hc1
      have HP := Lib.hid hp
      have HR := Lib.hid hr
      have hk0 : (0 : Int) ≤ (k : Int) := by omega
      have hk1 : (k : Int) < (n : Int) := by omega
      clear hr hp
      cases hb : inB p 0 ((m : Int) - 1)
      · have HB := Lib.hid hb
        have HF : Hid (namesB m ps = false) := Lib.hid (by
          have := inR_no (m := m) (ps := ps) (k := k) (by rw [← HN.out]; exact hlt) (by rw [← HP.out]; exact HB.out)
          simp [namesB, this])
        clear hb
        go_wp2_with (go_at_call 54; refine (l6In_any _ _ _ _).mono ?_; rintro e w' ⟨rfl, rfl⟩; rw [HB.out])
        go_ret
        exact ⟨by rw [HF.out]; rfl, rfl⟩
      · have HB := Lib.hid hb
        obtain ⟨hp0, hp1⟩ := inB_out hb
        obtain ⟨q, rfl⟩ : ∃ q : Nat, p = (q : Int) := ⟨p.toNat, by omega⟩
        obtain ⟨d, hd⟩ : ∃ d, d = orP (ps.take k) := ⟨_, rfl⟩
        have hd64 : d < 64 := by
          rw [hd]
          have h1 := orP_lt m (ps.take k) (fun z hz => by
            obtain ⟨j, hj, rfl⟩ := List.getElem_of_mem hz
            simp only [List.length_take] at hj
            have h2 := inB_out (HR.out j (by omega))
            rw [List.getElem_take]
            rw [show ps[j]?.getD 0 = ps[j]'(by omega) from by rw [List.getElem?_eq_getElem (by omega)]; rfl] at h2
            omega)
          exact Nat.lt_of_lt_of_le h1 (Nat.pow_le_pow_right (by decide) hm : 2 ^ m ≤ 2 ^ 6)
        have HO := Lib.hid (or_at d q (by omega) (by omega))
        obtain ⟨h1q, h2q⟩ := p2_small q (by omega)
        have HD := Lib.hid hd
        rw [← hd]
        clear hb hd
        go_wp2_with (go_at_call 54; refine (l6In_any _ _ _ _).mono ?_; rintro e w' ⟨rfl, rfl⟩; rw [HB.out])
        go_round
        case rel => exact ⟨k + 1, by omega, by go_num, by rw [HO.out, take_snoc ps k (by rw [← HN.out]; exact hlt), orP_snoc, ← HP.out, ← HD.out]; rfl, fun j hj => by
          rcases Nat.lt_succ_iff_lt_or_eq.1 hj with h | rfl
          · exact HR.out j h
          · rw [← HP.out]; exact HB.out⟩
        case measure => simp [intOf]; omega
    · obtain rfl : k = n := by omega
      have hin : inR m ps = true := inR_yes (fun j hj => hr j (by have := HN.out; omega))
      have hfull : orP (ps.take k) = orP ps := by rw [HN.out, List.take_length]
      obtain ⟨d, hd⟩ : ∃ d, d = orP (ps.take k) := ⟨_, rfl⟩
      have HS := Lib.hid (seen_full m d)
      rw [← hd]
      by_cases hl : k = m
      · have HF : Hid (namesB m ps = decide (d = 2 ^ m - 1)) := Lib.hid (by
          have : ps.length = m := by rw [← HN.out]; exact hl
          simp [namesB, hin, this, hd, hfull])
        obtain ⟨h1q, h2q⟩ := p2_small m (by omega)
        clear hr hin hfull hd
        subst hl
        go_wp2
        go_ret
        exact ⟨by rw [HF.out, ← HS.out]; rfl, rfl⟩
      · have HF : Hid (namesB m ps = false) := Lib.hid (by
          have : ¬ ps.length = m := by rw [← HN.out]; exact hl
          simp [namesB, this])
        have hlz : ((k : Int) == (m : Int)) = false := by rw [beq_eq_false_iff_ne]; omega
        clear hr hin hfull hd
        go_wp2
        go_ret
        exact ⟨by rw [HF.out]; rfl, rfl⟩

/-- What is called after v members. -/
def cal (ps : List Int) (s v : Nat) : Nat := (List.range v).foldl (fun t u => t ||| (((s >>> u) &&& 1) * 2 ^ (ps[u]?.getD 0).toNat)) 0

theorem cal_succ (ps : List Int) (s v : Nat) : cal ps s (v + 1) = cal ps s v ||| (((s >>> v) &&& 1) * 2 ^ (ps[v]?.getD 0).toNat) := by simp [cal, List.range_succ]
set_option maxRecDepth 100000 in
theorem mem_range : ∀ m, m ≤ 6 → ∀ s, s < 2 ^ m → mem s = (List.range m).filter fun i => s.testBit i := by decide +kernel

set_option maxRecDepth 100000 in
theorem bit_if : ∀ s, s < 64 → ∀ u, u < 6 → ((s >>> u) &&& 1) = if s.testBit u then 1 else 0 := by decide +kernel

theorem cal_called (m : Nat) (hm : m ≤ 6) (ps : List Int) (s : Nat) (hs : s < 2 ^ m) : cal ps s m = called ps s := by
  have hs64 : s < 64 := Nat.lt_of_lt_of_le hs (Nat.pow_le_pow_right (by decide) hm : 2 ^ m ≤ 2 ^ 6)
  have key : ∀ v, v ≤ m → cal ps s v = nm ps ((List.range v).filter fun i => s.testBit i) := by
    intro v
    induction v with
    | zero => intro _; rfl
    | succ v ih =>
      intro hv
      rw [cal_succ, ih (by omega), List.range_succ, List.filter_append, bit_if s hs64 v (by omega)]
      cases hb : s.testBit v
      · simp [hb]
      · simp only [List.filter_cons, hb, if_true, List.filter_nil, nm_snoc, Nat.one_mul]
  rw [key m (Nat.le_refl _), called, mem_range m hm s hs]

set_option maxRecDepth 100000 in
set_option maxHeartbeats 2000000 in
theorem l1Called_any (m s : Nat) (hm : m ≤ 6) (hs : s < 2 ^ m) (a : Option Addr) (c : Nat) (ps : List Int) (hp : Okp m ps) (w : World) (ha : Ints w w.heap.size a ps) :
    Calls Tryd.prog 138 #[.int .i64 (s : Int), .slice a ps.length c] w fun e w' => e = .returned (.int .i64 ((called ps s : Nat) : Int)) ∧ Below w.heap.size w w' := by
  have hs64 : s < 64 := Nat.lt_of_lt_of_le hs (Nat.pow_le_pow_right (by decide) hm : 2 ^ m ≤ 2 ^ 6)
  have HL := Lib.hid hp.len
  have HR := Lib.hid hp.rng
  have HI := Lib.hid ha
  rw [HL.out]
  clear ha hp
  go_enter Tryd.func138, Tryd.ntmps138
  go_wp2
  go_loopw [5, 6] (fun t i wr => ∃ v : Nat, v ≤ m ∧ i = .int .i64 (v : Int) ∧ t = .int .i64 ((cal ps s v : Nat) : Int) ∧ cal ps s v < 64 ∧ Below w.heap.size w wr) (fun _ i _ => m - (intOf i).toNat)
  case atStart => exact ⟨0, Nat.zero_le _, rfl, rfl, by simp [cal], Below.refl _ _⟩
  case round =>
    obtain ⟨v, hv, rfl, rfl, hc64, hB⟩ := hrel
    have HBW := Lib.hid hB
    by_cases hlt : v < m
    · obtain ⟨b1, o1, rfl, hb1, hc1⟩ := HI.out.at_ (k := v) (by rw [HL.out]; exact hlt)
      obtain ⟨hq0, hq1⟩ := HR.out v hlt
      obtain ⟨q, hq⟩ : ∃ q : Nat, ps[v]?.getD 0 = (q : Int) := ⟨(ps[v]?.getD 0).toNat, by omega⟩
      rw [hq] at hc1
      have c1 := (hB.cell (p := ⟨b1, o1 + v, none⟩) hb1).trans hc1
      obtain ⟨d, hd⟩ : ∃ d, d = cal ps s v := ⟨_, rfl⟩
      rw [← hd] at hc64 ⊢
      obtain ⟨e, he⟩ : ∃ e, e = (s >>> v) &&& 1 := ⟨_, rfl⟩
      have he1 : e ≤ 1 := by rw [he]; exact Nat.and_le_right
      have hq6 : q < 6 := by omega
      have HW1 : Hid (bits BinOp.and IntKind.i64 ((s : Int) / 2 ^ v) 1 = (e : Int)) := Lib.hid (by rw [bit_at s v hs64 (by omega), ← he])
      have HW2 : Hid (bits BinOp.or IntKind.i64 (d : Int) ((e : Int) * 2 ^ q) = ((d ||| (e * 2 ^ q) : Nat) : Int)) := Lib.hid (or1_at d e q (by omega) he1 (by omega))
      have HW3 : Hid (wrap64 ((e : Int) * 2 ^ q) = (e : Int) * 2 ^ q) := Lib.hid (by obtain ⟨h1, h2⟩ := e2_small e q he1 (by omega); unfold wrap64; omega)
      have HCS : Hid (cal ps s (v + 1) = d ||| (e * 2 ^ q)) := Lib.hid (by rw [cal_succ, ← hd, ← he, hq, Int.toNat_natCast])
      have hlt64 : d ||| (e * 2 ^ q) < 64 := by
        refine Nat.or_lt_two_pow (n := 6) hc64 ?_
        have h2 : 2 ^ q ≤ 2 ^ 5 := Nat.pow_le_pow_right (by decide) (by omega)
        have h3 : e * 2 ^ q ≤ 1 * 2 ^ 5 := Nat.mul_le_mul he1 h2
        have h4 : (1 * 2 ^ 5 : Nat) < 2 ^ 6 := by decide
        omega
      have HL64 := Lib.hid hlt64
      have hv0 : (0 : Int) ≤ (v : Int) := by omega
      have hv1 : (v : Int) < (m : Int) := by omega
      clear hB hc1 hq hd he hq0 hq1 hlt64
      go_wp2
      go_quiet (fail)
      simp only [HW1.out, HW3.out, HW2.out]
      go_wp2
      go_roundw
      case rel => exact ⟨v + 1, by omega, by go_num, by rw [HCS.out], by rw [HCS.out]; exact HL64.out, below_drewN HBW.out _⟩
      case measure => simp [intOf]; omega
    · obtain rfl : v = m := by omega
      rw [cal_called v hm ps s hs]
      clear hB
      go_wp2
      go_ret
      exact ⟨rfl, HBW.out⟩

end Go.Proofs.YtacglafoahmcnaaDoor

/- It is proved what standing, unbroken and evenIn return; conditions: those of each statement. -/
namespace Go.Proofs.YtacglafoahmcnaaDoor
open Go.RowKit Go.Shelf

/-- The places, of the first j ones, at which f holds. -/
def plF (f : Nat → Bool) : Nat → Nat
  | 0 => 0
  | j + 1 => if f j then plF f j ||| 2 ^ j else plF f j

/-- How many runs of places f has. -/
def runF (f : Nat → Bool) : Nat → Nat
  | 0 => 0
  | j + 1 => if f j && (j == 0 || !f (j - 1)) then runF f j + 1 else runF f j

theorem plF_lt (f : Nat → Bool) : ∀ j, plF f j < 2 ^ j
  | 0 => by simp [plF]
  | j + 1 => by
    have h := plF_lt f j
    have h1 : plF f j < 2 ^ (j + 1) := by rw [Nat.pow_succ]; omega
    have h2 : (2 : Nat) ^ j < 2 ^ (j + 1) := by rw [Nat.pow_succ]; have := Nat.one_le_two_pow (n := j); omega
    unfold plF
    split
    · exact Nat.or_lt_two_pow h1 h2
    · exact h1

theorem plF_lt6 (f : Nat → Bool) {j : Nat} (hj : j ≤ 6) : plF f j < 64 := Nat.lt_of_lt_of_le (plF_lt f j) (Nat.pow_le_pow_right (n := 2) (by decide) hj)
theorem runF_le (f : Nat → Bool) : ∀ j, runF f j ≤ j
  | 0 => Nat.le_refl _
  | j + 1 => by
    have := runF_le f j
    unfold runF
    split <;> omega

/-- The least bit of a set. -/
def lowN (x : Nat) : Nat := (bits .and .i64 (x : Int) (-(x : Int))).toNat

def unbB (x : Nat) : Bool := decide (x &&& (x + lowN x) = 0)
set_option maxRecDepth 100000 in
theorem low_fin : ∀ x : Fin 64, bits BinOp.and IntKind.i64 (x.val : Int) (-(x.val : Int)) = ((lowN x.val : Nat) : Int) ∧ x.val + lowN x.val < 128 := by decide +kernel

theorem low_at (x : Nat) (hx : x < 64) : bits BinOp.and IntKind.i64 (x : Int) (-(x : Int)) = ((lowN x : Nat) : Int) ∧ x + lowN x < 128 := low_fin ⟨x, hx⟩
set_option maxRecDepth 100000 in
theorem and7_fin : ∀ x : Fin 64, ∀ y : Fin 128, bits BinOp.and IntKind.i64 (x.val : Int) (y.val : Int) = ((x.val &&& y.val : Nat) : Int) := by decide +kernel

theorem and7_at (x y : Nat) (hx : x < 64) (hy : y < 128) : bits BinOp.and IntKind.i64 (x : Int) (y : Int) = ((x &&& y : Nat) : Int) := and7_fin ⟨x, hx⟩ ⟨y, hy⟩
theorem unb_0 : unbB 0 = decide (0 ≤ 1) := by decide +kernel
/-- A set has no gap just if it has one run at most. -/
theorem unb_run (f : Nat → Bool) : ∀ j, j ≤ 6 → unbB (plF f j) = decide (runF f j ≤ 1)
  | 0, _ => unb_0
  | 1, _ => by simp only [plF, runF, Nat.zero_add, Nat.add_sub_cancel]; generalize f 0 = b0; revert b0; decide +kernel
  | 2, _ => by simp only [plF, runF, Nat.zero_add, Nat.add_sub_cancel]; generalize f 0 = b0; generalize f (0 + 1) = b1; revert b0 b1; decide +kernel
  | 3, _ => by simp only [plF, runF, Nat.zero_add, Nat.add_sub_cancel]; generalize f 0 = b0; generalize f 1 = b1; generalize f 2 = b2; revert b0 b1 b2; decide +kernel
  | 4, _ => by simp only [plF, runF, Nat.zero_add, Nat.add_sub_cancel]; generalize f 0 = b0; generalize f 1 = b1; generalize f 2 = b2; generalize f 3 = b3; revert b0 b1 b2 b3; decide +kernel
  | 5, _ => by simp only [plF, runF, Nat.zero_add, Nat.add_sub_cancel]; generalize f 0 = b0; generalize f 1 = b1; generalize f 2 = b2; generalize f 3 = b3; generalize f 4 = b4; revert b0 b1 b2 b3 b4; decide +kernel
  | 6, _ => by simp only [plF, runF, Nat.zero_add, Nat.add_sub_cancel]; generalize f 0 = b0; generalize f 1 = b1; generalize f 2 = b2; generalize f 3 = b3; generalize f 4 = b4; generalize f 5 = b5; revert b0 b1 b2 b3 b4 b5; decide +kernel
  | j + 7, h => by omega

/-- At which places of an order the members of a set are. -/
def atF (z : Nat) (o : List Int) (i : Nat) : Bool := z.testBit (o[i]?.getD 0).toNat

/-- No set of an order is broken. -/
def brkB (o : List Int) (z : Nat) : Bool := !unbB (plF (atF z o) o.length)

def brkC (zs : List Int) (o : List Int) : Bool := zs.any fun z => brkB o z.toNat
theorem meets7_any (x y : Nat) (hx : x < 64) (hy : y < 128) (w : World) :
    Calls Tryd.prog 137 #[.int .i64 (x : Int), .int .i64 (y : Int)] w fun e w' => e = .returned (.bool (!decide (x &&& y = 0))) ∧ w = w' := by
  have HA := Lib.hid (and7_at x y hx hy)
  have HE : Hid ((((x &&& y : Nat) : Int) != 0) = !decide (x &&& y = 0)) := Lib.hid (by
    by_cases h : x &&& y = 0
    · rw [h]; rfl
    · rw [decide_eq_false h, bne_iff_ne.2 (by omega)]; rfl)
  go_enter Tryd.func137, Tryd.ntmps137
  go_wp2
  go_ret
  exact ⟨by rw [← HE.out, ← HA.out]; rfl, rfl⟩

theorem unbroken_any (x : Nat) (hx : x < 64) (w : World) :
    Calls Tryd.prog 119 #[.int .i64 (x : Int)] w fun e w' => e = .returned (.bool (unbB x)) ∧ w = w' := by
  obtain ⟨h1, h2⟩ := low_at x hx
  have HM := Lib.hid (meets7_any x (x + lowN x) hx h2 w)
  obtain ⟨l, hl⟩ : ∃ l, l = lowN x := ⟨_, rfl⟩
  have HU : Hid (unbB x = decide (x &&& (x + l) = 0)) := Lib.hid (by rw [hl]; rfl)
  rw [← hl] at h1 h2 HM
  have hlI : (x : Int) + (l : Int) < 128 := by omega
  have hxI : (x : Int) < 64 := by omega
  have hx0 : (0 : Int) ≤ (x : Int) := by omega
  have hl0 : (0 : Int) ≤ (l : Int) := by omega
  have HC : Hid (((x + l : Nat) : Int) = (x : Int) + (l : Int)) := Lib.hid (by omega)
  clear hl
  go_enter Tryd.func119, Tryd.ntmps119
  go_wp2_with fail
  rw [← HC.out]
  refine HM.out.mono ?_
  rintro e w1 ⟨rfl, rfl⟩
  go_wp2
  go_ret
  exact ⟨by rw [HU.out]; simp, rfl⟩

set_option maxRecDepth 100000 in
set_option maxHeartbeats 2000000 in
theorem standing_any (z : Nat) (hz : z < 64) (a : Option Addr) (c : Nat) (o : List Int) (ho : ∀ x ∈ o, 0 ≤ x ∧ x < 6) (hol : o.length ≤ 6) (w : World) (ha : Ints w w.heap.size a o) :
    Calls Tryd.prog 118 #[.int .i64 (z : Int), .slice a o.length c] w fun e w' => e = .returned (.int .i64 ((plF (atF z o) o.length : Nat) : Int)) ∧ w = w' := by
  obtain ⟨N, hN⟩ : ∃ N, N = o.length := ⟨_, rfl⟩
  have HN := Lib.hid hN
  have HI := Lib.hid ha
  have HO := Lib.hid ho
  rw [← hN]
  rw [← hN] at hol
  clear hN ha ho
  go_enter Tryd.func118, Tryd.ntmps118
  go_wp2
  go_loop [5, 10] (fun x i => ∃ k : Nat, k ≤ N ∧ i = .int .i64 k ∧ x = .int .i64 ((plF (atF z o) k : Nat) : Int)) (fun _ i => N - (intOf i).toNat)
  case atStart => exact ⟨0, Nat.zero_le _, rfl, rfl⟩
  case round =>
    obtain ⟨j, hk, rfl, rfl⟩ := hrel
    by_cases hlt : j < N
    · have hki : (j : Int) < (N : Int) := by omega
      have hk0 : (0 : Int) ≤ (j : Int) := by omega
      obtain ⟨b1, o1, rfl, hb1, hc⟩ := HI.out.at_ (k := j) (by rw [← HN.out]; exact hlt)
      have hvm := HO.out _ (getD_mem (zs := o) (i := j) (by rw [← HN.out]; exact hlt))
      obtain ⟨v, hv⟩ : ∃ v : Nat, o[j]?.getD 0 = (v : Int) := ⟨(o[j]?.getD 0).toNat, by have := hvm.1; omega⟩
      have hv6 : v < 6 := by have := hvm.2; omega
      have HAT : Hid (atF z o j = z.testBit v) := Lib.hid (by unfold atF; rw [hv, Int.toNat_natCast])
      rw [hv] at hc
      have HPL : Hid (plF (atF z o) (j + 1) = if z.testBit v then plF (atF z o) j ||| 2 ^ j else plF (atF z o) j) := Lib.hid (by rw [← HAT.out]; rfl)
      have hp := plF_lt6 (atF z o) (j := j) (by omega)
      obtain ⟨P, hP⟩ : ∃ P, P = plF (atF z o) j := ⟨_, rfl⟩
      rw [← hP] at hp HPL
      have HP : Hid (P = plF (atF z o) j) := Lib.hid hP
      rw [← hP]
      clear hP hvm hv
      cases hb : z.testBit v
      · have HBT := Lib.hid hb
        have HR : Hid (plF (atF z o) (j + 1) = P) := Lib.hid (by rw [HPL.out, hb]; rfl)
        clear hb
        go_wp2_with fail
        refine (has_any z v hz hv6 _).mono ?_
        rintro e w3 ⟨rfl, rfl⟩
        rw [HBT.out]
        go_wp2
        go_round
        case rel => exact ⟨j + 1, by omega, by go_num, by rw [HR.out]⟩
        case measure => simp [intOf]; omega
      · have HBT := Lib.hid hb
        have HR : Hid (plF (atF z o) (j + 1) = P ||| 2 ^ j) := Lib.hid (by rw [HPL.out, hb]; rfl)
        clear hb
        go_wp2_with fail
        refine (has_any z v hz hv6 _).mono ?_
        rintro e w3 ⟨rfl, rfl⟩
        rw [HBT.out]
        go_wp2_with fail
        refine (with_any P j (by omega) (by omega) _).mono ?_
        rintro e w4 ⟨rfl, rfl⟩
        go_wp2
        go_round
        case rel => exact ⟨j + 1, by omega, by go_num, by rw [HR.out]⟩
        case measure => simp [intOf]; omega
    · obtain rfl : j = N := by omega
      go_wp2
      go_ret
      exact ⟨rfl, rfl⟩

theorem even1_any (z : Nat) (hz : z < 64) (oa : Option Addr) (oc : Nat) (o : List Int) (ho : ∀ x ∈ o, 0 ≤ x ∧ x < 6) (hol : o.length ≤ 6) (Bs : Nat) (w : World) (hio : Ints w w.heap.size oa o) (hb : Boxed w Bs 23 (.slice oa o.length oc)) :
    Calls Tryd.prog 117 #[.int .i64 (z : Int), .pointer (some ⟨Bs, 0, none⟩)] w fun e w' => e = .returned (.bool (brkB o z)) ∧ w = w' := by
  have x0 := (blk_cell hb 0).trans (cell1_0 _)
  have H := Lib.hid (standing_any z hz oa oc o ho hol w hio)
  have H2 := Lib.hid (unbroken_any (plF (atF z o) o.length) (plF_lt6 _ hol) w)
  have HB : Hid (brkB o z = !unbB (plF (atF z o) o.length)) := Lib.hid rfl
  obtain ⟨U, hU⟩ : ∃ U, U = unbB (plF (atF z o) o.length) := ⟨_, rfl⟩
  rw [← hU] at HB H2
  obtain ⟨P, hP⟩ : ∃ P, P = plF (atF z o) o.length := ⟨_, rfl⟩
  rw [← hP] at H H2
  clear hb hio ho hol hU hP
  go_enter Tryd.func117, Tryd.ntmps117
  go_wp2_with fail
  refine H.out.mono ?_
  rintro e w1 ⟨rfl, rfl⟩
  go_wp2_with fail
  refine H2.out.mono ?_
  rintro e w1 ⟨rfl, rfl⟩
  go_wp2
  go_ret
  exact ⟨by rw [HB.out]; rfl, rfl⟩

theorem brk_yes {o : List Int} {zs : List Int} {k : Nat} (hk : k < zs.length) (h : brkB o (zs[k]?.getD 0).toNat = true) : brkC zs o = true := by
  unfold brkC
  rw [List.any_eq_true]
  exact ⟨_, getD_mem hk, h⟩

theorem brk_no {o : List Int} {zs : List Int} (h : ∀ j, j < zs.length → brkB o (zs[j]?.getD 0).toNat = false) : brkC zs o = false := by
  unfold brkC
  rw [List.any_eq_false]
  intro z hz
  obtain ⟨j, hj, rfl⟩ := List.mem_iff_getElem.1 hz
  have := h j hj
  rw [List.getElem?_eq_getElem hj, Option.getD_some] at this
  rw [this]
  decide

set_option maxRecDepth 100000 in
set_option maxHeartbeats 2000000 in
theorem indexEven_any (k : Nat) (hk8 : k ≤ 6) (b : Option Addr) (c : Nat) (zs : List Int) (oa : Option Addr) (oc : Nat) (o : List Int) (ho : ∀ x ∈ o, 0 ≤ x ∧ x < 6) (hol : o.length ≤ 6) (hz : Sets k zs) (hx8 : zs.length ≤ 1048576) (Bs : Nat) (w : World) (hb : Ints w w.heap.size b zs) (hio : Ints w w.heap.size oa o) (hx : Boxed w Bs 23 (.slice oa o.length oc)) :
    Calls Tryd.prog 131 #[.slice b zs.length c, .func (.func 117) #[] #[.pointer (some ⟨Bs, 0, none⟩)]] w fun e w' =>
      ∃ r : Int, e = .returned (.int .i64 r) ∧ decide (0 ≤ r) = brkC zs o ∧ w = w' := by
  obtain ⟨N, hN⟩ : ∃ N, N = zs.length := ⟨_, rfl⟩
  have HN : Hid (N = zs.length) := Lib.hid hN
  have HI := Lib.hid hb
  have HW : Hid (∀ (z : Nat), z < 64 → Calls Tryd.prog 117 #[.int .i64 (z : Int), .pointer (some ⟨Bs, 0, none⟩)] w fun e w' => e = .returned (.bool (brkB o z)) ∧ w = w') := Lib.hid fun z hzz => even1_any z hzz oa oc o ho hol Bs w hio hx
  have HZ := Lib.hid hz
  rw [← hN]
  rw [← hN] at hx8
  clear hN hb hx hz hio ho hol
  go_enter Tryd.func131, Tryd.ntmps131
  go_wp2
  go_loop [5, 8] (fun _ i => ∃ k : Nat, k ≤ N ∧ i = .int .i64 k ∧ Hid (∀ j, j < k → brkB o (zs[j]?.getD 0).toNat = false)) (fun _ i => N - (intOf i).toNat)
  case atStart => exact ⟨0, Nat.zero_le _, rfl, Lib.hid (fun j hj => by omega)⟩
  case round =>
    obtain ⟨j, hk, rfl, HE⟩ := hrel
    by_cases hlt : j < N
    · have hki : (j : Int) < (N : Int) := by omega
      have hk0 : (0 : Int) ≤ (j : Int) := by omega
      obtain ⟨b1, o1, rfl, hb1, hc⟩ := HI.out.at_ (k := j) (by rw [← HN.out]; exact hlt)
      have hzm := HZ.out _ (getD_mem (zs := zs) (i := j) (by rw [← HN.out]; exact hlt))
      obtain ⟨z, hzz⟩ : ∃ z : Nat, zs[j]?.getD 0 = (z : Int) := ⟨(zs[j]?.getD 0).toNat, by have := hzm.1; omega⟩
      have hzn : z < 64 := by
        have := p64 hk8 hzm.2
        rw [hzz, Int.toNat_natCast] at this
        exact this
      have HC := Lib.hid (HW.out z hzn)
      have HZZ : Hid ((zs[j]?.getD 0).toNat = z) := Lib.hid (by rw [hzz, Int.toNat_natCast])
      rw [hzz] at hc
      clear hzz hzm
      cases hf : brkB o z
      · have HF := Lib.hid hf
        clear hf
        go_wp2_with fail
        refine HC.out.mono ?_
        rintro e w3 ⟨rfl, rfl⟩
        rw [HF.out]
        have HR : Hid (∀ i, i < j + 1 → brkB o (zs[i]?.getD 0).toNat = false) := Lib.hid fun i hi => by
          rcases Nat.lt_succ_iff_lt_or_eq.1 hi with h | rfl
          · exact HE.out i h
          · rw [HZZ.out]; exact HF.out
        go_wp2
        go_round
        case rel => exact ⟨j + 1, by omega, by go_num, HR⟩
        case measure => simp [intOf]; omega
      · have HF := Lib.hid hf
        clear hf
        go_wp2_with fail
        refine HC.out.mono ?_
        rintro e w3 ⟨rfl, rfl⟩
        rw [HF.out]
        go_wp2
        go_ret
        exact ⟨_, rfl, by rw [brk_yes (k := j) (by rw [← HN.out]; exact hlt) (by rw [HZZ.out]; exact HF.out)]; simp, rfl⟩
    · obtain rfl : j = N := by omega
      go_wp2
      go_ret
      exact ⟨_, rfl, by rw [brk_no (by rw [← HN.out]; exact HE.out)]; decide, rfl⟩

set_option maxRecDepth 100000 in
set_option maxHeartbeats 1600000 in
theorem containsEven_any (k : Nat) (hk8 : k ≤ 6) (b : Option Addr) (c : Nat) (zs : List Int) (oa : Option Addr) (oc : Nat) (o : List Int) (ho : ∀ x ∈ o, 0 ≤ x ∧ x < 6) (hol : o.length ≤ 6) (hz : Sets k zs) (hx8 : zs.length ≤ 1048576) (Bs : Nat) (w : World) (hb : Ints w w.heap.size b zs) (hio : Ints w w.heap.size oa o) (hx : Boxed w Bs 23 (.slice oa o.length oc)) :
    Calls Tryd.prog 100 #[.slice b zs.length c, .func (.func 117) #[] #[.pointer (some ⟨Bs, 0, none⟩)]] w fun e w' => e = .returned (.bool (brkC zs o)) ∧ w = w' := by
  have H := Lib.hid (indexEven_any k hk8 b c zs oa oc o ho hol hz hx8 Bs w hb hio hx)
  clear hb hx hz hio ho hol
  go_enter Tryd.func100, Tryd.ntmps100
  go_wp2_with fail
  refine H.out.mono ?_
  rintro e w1 ⟨r, rfl, hr, rfl⟩
  have HR := Lib.hid hr
  clear hr
  by_cases h : 0 ≤ r
  · go_wp2
    go_ret
    exact ⟨by rw [← HR.out, decide_eq_true h]; rfl, rfl⟩
  · have h' : r < 0 := by omega
    go_wp2
    go_ret
    exact ⟨by rw [← HR.out]; rfl, rfl⟩

set_option maxRecDepth 100000 in
theorem evenIn_any (k : Nat) (hk8 : k ≤ 6) (m : Int) (a : Option Addr) (c : Nat) (zs : List Int) (oa : Option Addr) (oc : Nat) (o : List Int) (ho : ∀ x ∈ o, 0 ≤ x ∧ x < 6) (hol : o.length ≤ 6) (w : World) (ha : Ints w w.heap.size a zs) (hio : Ints w w.heap.size oa o) (hx : zs.length ≤ 1048576) (hz : Sets k zs) :
    Calls Tryd.prog 81 #[.agg #[.int .i64 m, .slice a zs.length c], .slice oa o.length oc] w fun e w' => e = .returned (.bool (!brkC zs o)) ∧ Below w.heap.size w w' := by
  have HB := Lib.hid (below2 w (.cells #[.int .i64 m, .slice a zs.length c] 25) (.cells #[.slice oa o.length oc] 23))
  have HC := Lib.hid (containsEven_any k hk8 a c zs oa oc o ho hol hz hx (w.heap.size + 1) ((w.alloc (.cells #[.int .i64 m, .slice a zs.length c] 25)).alloc (.cells #[.slice oa o.length oc] 23)) ((ha.below HB.out).mono (by simp; omega)) ((hio.below HB.out).mono (by simp; omega)) (alloc2_1 w _ _))
  clear ha hz hio ho
  go_enter Tryd.func81, Tryd.ntmps81
  go_wp2_with fail
  refine HC.out.mono ?_
  rintro e w1 ⟨rfl, rfl⟩
  go_wp2
  go_ret
  exact ⟨rfl, HB.out⟩

end Go.Proofs.YtacglafoahmcnaaDoor
