/- It is proved what the iterator over a family's clubs yields where each club is a set of members; conditions: those of each statement. -/
import Derived.Test.YtlfnjoogcenlhaaDoorRows
import Derived.WalkKit
import Derived.WalkSpells
import Derived.ProofKit
import Derived.OpenShut
import Derived.ShutString
import Derived.ChangeOld
import Derived.Below
import Derived.Deep.RegionHeld3
import Derived.Deep.QuietTactic
import Derived.BigQuiet
import Derived.Lib.Hide
import Derived.Lib.SmallJoins
import Derived.Outline
import Derived.Laws.MakeOwn
import Derived.Laws.OwnMore
import Derived.IntWalk
import Derived.RangeFuncNested
import Derived.RangeFuncBound
import Derived.RangeFuncCalls
import Derived.RangeFuncLeaves
import Derived.RangeFuncBox
import Derived.Shelf.Abstract
import Derived.Shelf.RegionOpen
import Derived.OwnWalkIn
import Derived.TacticsInMore
import Derived.LoopNIn
import Derived.LoopIn
import Derived.Maps.AppendAt
import Derived.Deep.AppendLies
import Derived.Shelf.Spec.TrailingZeros
import Derived.Test.YtlfnjoogcenlhaaDoorMzaa
import Derived.Test.YtlfnjoogcenlhaaDoorMzai
import Derived.Lib.AppendZeros
import Derived.OwnWalk
import Derived.Lib.SlicesCompact
import Derived.Lib.OwnBridge
import Derived.Shelf.Sort.Plain
import Derived.Shelf.Slices.In.SortNone
import Derived.Shelf.Slices.CompactI
import Derived.Ground.Names2Prog
import Derived.Lib.SliceRun
import Derived.StillTail
import Derived.StillTactics
import Derived.OrdersIn
import Derived.TacticsIn
import Derived.StillTailTactics
import Derived.Test.YtlfnjoogcenlhaaDoorMzao
import Derived.Test.YtlfnjoogcenlhaaDoorMzaj
import Derived.Test.YtlfnjoogcenlhaaDoorHw
import Derived.Test.YtlfnjoogcenlhaaDoorMzac
namespace Go
end Go
namespace Go.Proofs.YtlfnjoogcenlhaaDoor
open Go.RowKit Go.Shelf

attribute [local go_sem] Oper.semAt_some

set_option maxRecDepth 100000 in
set_option maxHeartbeats 2000000 in
theorem clubsP1_in (P : Nat × Int → Prop) (n : Nat) (hn : 1 ≤ n) (l Bs n₀ : Nat) (a : Option Addr) (c : Nat) (zs : List Int) (hlen : zs.length ≤ 1048576) (hP : ∀ k, k < zs.length → P (k, zs[k]?.getD 0)) (J Jx : List { p // P p } → World → Prop)
    (hY : ∀ pre x W, J pre W → pre.length < zs.length → YieldAt Fence.wide (n - 1) Tryd.prog l #[.int .i64 (x.1.1 : Int), .int .i64 x.1.2] W fun e W' =>
      (e = .returned (.bool true) ∧ J (pre ++ [x]) W' ∧ Below n₀ W W') ∨ (e = .returned (.bool false) ∧ Jx (pre ++ [x]) W'))
    (W : World) (hBs : W.cell? ⟨Bs, 1, none⟩ = some (.slice a zs.length c)) (hI : Ints W n₀ a zs) (h0 : J [] W) :
    CallsIn Fence.wide n Tryd.prog 87 #[.func (.yield l) #[] #[], .pointer (some ⟨Bs, 0, none⟩)] W fun e W' => (∃ v, e = .returned v) ∧
      ((∃ ys, ys.map (·.1) = pairs zs zs.length ∧ J ys W') ∨ (∃ pre, (∃ k, k ≤ zs.length ∧ pre.map (·.1) = pairs zs k) ∧ Jx pre W')) := by
  refine callsIn_of_wp Tryd.func87 rfl trivial ?_ rfl
  simp only [Tryd.ntmps87, List.size_toArray, List.length_cons, List.length_nil, Nat.reduceAdd, Nat.reduceSub, Array.replicate_succ, Array.replicate_zero, List.push_toArray, List.append_toArray, List.nil_append, List.cons_append]
  gi_wp2
  gi_loopw [8] (fun i wr => ∃ (k : Nat) (pre : List { p // P p }), k ≤ zs.length ∧ i = .int .i64 k ∧ pre.map (·.1) = pairs zs k ∧ J pre wr ∧ Below n₀ W wr)
    (fun i _ => zs.length - (intOf i).toNat)
  case atStart => exact ⟨0, [], Nat.zero_le _, rfl, rfl, h0, Below.refl _ _⟩
  case round =>
    obtain ⟨k, pre, hk, rfl, hpre, hJs, hnx⟩ := hrel
    by_cases hlt : k < zs.length
    · obtain ⟨b, off, rfl, hb, hc⟩ := hI.at_ hlt
      have hcx' : wr.cell? ⟨b, off + k, none⟩ = some (.int .i64 (zs[k]?.getD 0)) := (hnx.cell (p := ⟨b, off + k, none⟩) hb).trans hc
      have hpl : pre.length < zs.length := by have := congrArg List.length hpre; rw [List.length_map, pairs_length] at this; omega
      have hPk : P (k, zs[k]) := by have := hP k hlt; simpa [hlt] using this
      have hpre' : (pre ++ [(⟨(k, zs[k]), hPk⟩ : { p // P p })]).map (·.1) = pairs zs (k + 1) := by rw [List.map_append, hpre, pairs_succ' zs k hlt]; rfl
      obtain ⟨fn, tmps, assign, body, hy, hR⟩ := hY _ ⟨(k, zs[k]), hPk⟩ wr hJs hpl
      dsimp only at hy
      clear hpre
      gi_wp2
      refine hR.mono ?_
      rintro e W3 (⟨rfl, hJ3, hk3⟩ | ⟨rfl, hJx3⟩)
      · gi_wp2
        go_roundw
        case rel => exact ⟨k + 1, _, by omega, by simp, hpre', hJ3, hnx.trans hk3⟩
        case measure => simp [intOf]; omega
      · gi_wp2
        refine bodyPost_ret (results_none rfl _ _ _) rfl ?_
        exact ⟨⟨_, rfl⟩, .inr ⟨_, ⟨k + 1, by omega, hpre'⟩, hJx3⟩⟩
    · obtain rfl : k = zs.length := by omega
      gi_wp2
      go_end0
      exact ⟨⟨_, rfl⟩, .inl ⟨_, hpre, hJs⟩⟩

theorem clubsP_stops (P : Nat × Int → Prop) (n : Nat) (hn : 1 ≤ n) (Bs n₀ : Nat) (a : Option Addr) (c : Nat) (zs : List Int) (hlen : zs.length ≤ 1048576) (hP : ∀ k, k < zs.length → P (k, zs[k]?.getD 0)) (w : World) (hBs : Bs < w.heap.size) (hn₀ : n₀ ≤ w.heap.size)
    (hc : w.cell? ⟨Bs, 1, none⟩ = some (.slice a zs.length c)) (hI : Ints w n₀ a zs) :
    SeqStopsK Fence.wide n Tryd.prog 87 #[.pointer (some ⟨Bs, 0, none⟩)] (fun x : { p // P p } => #[Value.int .i64 (x.1.1 : Int), Value.int .i64 x.1.2]) (Below n₀) (fun ys => ys.map (·.1) = pairs zs zs.length)
      (fun pre => ∃ k, k ≤ zs.length ∧ pre.map (·.1) = pairs zs k) zs.length w := fun l J Jx W hW _ _ hY h0 =>
  clubsP1_in P n hn l Bs n₀ a c zs hlen hP J Jx hY W ((hW.cell (p := ⟨Bs, 1, none⟩) hBs).trans hc) (hI.below (hW.mono hn₀)) h0

/-- What the body of a loop over clubs knows of a club. -/
def IsClub (m : Nat) (p : Nat × Int) : Prop := p.1 < 8 ∧ 0 ≤ p.2 ∧ p.2.toNat < 2 ^ m

theorem IsClub.small {m : Nat} (hm : m ≤ 6) {p : Nat × Int} (h : IsClub m p) : p.2.toNat < 64 := Nat.lt_of_lt_of_le h.2.2 (Nat.pow_le_pow_right (by decide) hm : 2 ^ m ≤ 2 ^ 6)
/-- The clubs behind what is known of them. -/
def sets {m : Nat} (ys : List { p // IsClub m p }) : List Int := ys.map (·.1.2)

end Go.Proofs.YtlfnjoogcenlhaaDoor

/- It is proved what least covers are, and that a list between the least covers and the covers has just them as its least sets; conditions: those of each statement. -/
namespace Go.Proofs.YtlfnjoogcenlhaaDoor
open Go.RowKit

/-- All clubs have a member of a set. -/
def covB (zs : List Int) (s : Nat) : Bool := zs.all fun z => z.toNat &&& s != 0

theorem covB_iff {zs : List Int} {s : Nat} : covB zs s = true ↔ ∀ z ∈ zs, z.toNat &&& s ≠ 0 := by simp [covB]
theorem covB_mono {zs : List Int} {s t : Nat} (h : covB zs s = true) (hs : s &&& t = s) : covB zs t = true := by
  rw [covB_iff] at h ⊢
  intro z hz e
  refine h z hz ?_
  rw [← hs, Nat.and_comm s t, ← Nat.and_assoc, e, Nat.zero_and]

theorem covB_snoc (zs : List Int) (z : Int) (s : Nat) : covB (zs ++ [z]) s = (covB zs s && (z.toNat &&& s != 0)) := by simp [covB]
set_option maxRecDepth 100000 in
theorem wo_sub_fin : ∀ t s : Fin 64, ∀ v : Fin 6, t.val &&& s.val = t.val → t.val.testBit v.val = false → t.val &&& woP s.val v.val = t.val := by decide +kernel

set_option maxRecDepth 100000 in
theorem wo_part_fin : ∀ s : Fin 64, ∀ v : Fin 6, woP s.val v.val &&& s.val = woP s.val v.val ∧ (woP s.val v.val).testBit v.val = false ∧ (s.val.testBit v.val = true → woP s.val v.val < s.val) ∧ (s.val.testBit v.val = false → woP s.val v.val = s.val) := by decide +kernel

theorem wo_sub {t s v : Nat} (ht : t < 64) (hs : s < 64) (hv : v < 6) (h : t &&& s = t) (hb : t.testBit v = false) : t &&& woP s v = t := wo_sub_fin ⟨t, ht⟩ ⟨s, hs⟩ ⟨v, hv⟩ h hb
theorem wo_part {s v : Nat} (hs : s < 64) (hv : v < 6) : woP s v &&& s = woP s v ∧ (woP s v).testBit v = false ∧ (s.testBit v = true → woP s v < s) ∧ (s.testBit v = false → woP s v = s) := wo_part_fin ⟨s, hs⟩ ⟨v, hv⟩
theorem sub_lt {t s : Nat} (h : t &&& s = t) : t ≤ s := by rw [← h]; exact Nat.and_le_right
/-- A smaller part misses some member. -/
theorem sub_miss {t s m : Nat} (hs : s < 2 ^ m) (h : t &&& s = t) (hne : t ≠ s) : ∃ v, v < m ∧ s.testBit v = true ∧ t.testBit v = false := by
  refine Classical.byContradiction fun hno => hne ?_
  apply Nat.eq_of_testBit_eq
  intro v
  have h1 : t.testBit v = (t.testBit v && s.testBit v) := by rw [← Nat.testBit_and, h]
  cases hsv : s.testBit v
  · rw [h1, hsv, Bool.and_false]
  · cases htv : t.testBit v
    · exfalso
      refine hno ⟨v, ?_, hsv, htv⟩
      refine Classical.byContradiction fun hvm => ?_
      have : s.testBit v = false := Nat.testBit_lt_two_pow (Nat.lt_of_lt_of_le hs (Nat.pow_le_pow_right (by decide) (by omega)))
      rw [this] at hsv; cases hsv
    · rfl

theorem p64 {m s : Nat} (hm : m ≤ 6) (hs : s < 2 ^ m) : s < 64 := Nat.lt_of_lt_of_le hs (Nat.pow_le_pow_right (n := 2) (by decide) hm)
/-- A cover of which no smaller part is one. -/
def minB (m : Nat) (zs : List Int) (s : Nat) : Bool := covB zs s && (List.range m).all fun v => !(s.testBit v) || !covB zs (woP s v)

theorem minB_iff {m : Nat} (hm : m ≤ 6) {zs : List Int} {s : Nat} (hs : s < 2 ^ m) : minB m zs s = true ↔ covB zs s = true ∧ ∀ t, covB zs t = true → t &&& s = t → t = s := by
  have hs6 := p64 hm hs
  rw [minB, Bool.and_eq_true]
  constructor
  · rintro ⟨h1, h2⟩
    refine ⟨h1, fun t ht hts => Classical.byContradiction fun hne => ?_⟩
    obtain ⟨v, hv, hsv, htv⟩ := sub_miss hs hts hne
    have h3 := List.all_eq_true.1 h2 v (List.mem_range.2 hv)
    rw [hsv, covB_mono ht (wo_sub (Nat.lt_of_le_of_lt (sub_lt hts) hs6) hs6 (by omega) hts htv)] at h3
    cases h3
  · rintro ⟨h1, h2⟩
    refine ⟨h1, List.all_eq_true.2 fun v hv => ?_⟩
    rw [List.mem_range] at hv
    obtain ⟨w1, w2, w3, w4⟩ := wo_part hs6 (show v < 6 by omega)
    cases hsv : s.testBit v
    · rfl
    · cases hc : covB zs (woP s v)
      · rfl
      · have := h2 _ hc w1
        have := w3 hsv
        omega

theorem min_below {m : Nat} (hm : m ≤ 6) {zs : List Int} : ∀ (n s : Nat), s ≤ n → s < 2 ^ m → covB zs s = true → ∃ t, t &&& s = t ∧ t < 2 ^ m ∧ minB m zs t = true
  | 0, s, hn, hs, hc => ⟨s, by simp, hs, by
      have : s = 0 := by omega
      subst this
      rw [minB_iff hm hs]
      exact ⟨hc, fun t _ h => by simpa using h.symm⟩⟩
  | n + 1, s, hn, hs, hc => by
    by_cases h : minB m zs s = true
    · exact ⟨s, by simp, hs, h⟩
    · have hs6 := p64 hm hs
      rw [minB, hc, Bool.true_and, List.all_eq_true] at h
      obtain ⟨v, hv, hsv, hcv⟩ : ∃ v, v < m ∧ s.testBit v = true ∧ covB zs (woP s v) = true := Classical.byContradiction fun hno => h fun v hv => by
        rw [List.mem_range] at hv
        cases h1 : s.testBit v
        · rfl
        · cases h2 : covB zs (woP s v)
          · rfl
          · exact absurd ⟨v, hv, h1, h2⟩ hno
      obtain ⟨w1, w2, w3, w4⟩ := wo_part hs6 (show v < 6 by omega)
      have hlt := w3 hsv
      obtain ⟨t, h1, h2, h3⟩ := min_below hm n (woP s v) (by omega) (by omega) hcv
      refine ⟨t, ?_, h2, h3⟩
      rw [← h1, Nat.and_assoc, w1]

/-- The least covers, in order. -/
def lcL (m : Nat) (zs : List Int) : List Int := ((List.range (2 ^ m)).filter (minB m zs)).map fun s => ((s : Nat) : Int)

theorem lcL_mem {m : Nat} {zs : List Int} {x : Int} : x ∈ lcL m zs ↔ ∃ s : Nat, x = (s : Int) ∧ s < 2 ^ m ∧ minB m zs s = true := by
  simp only [lcL, List.mem_map, List.mem_filter, List.mem_range]
  constructor
  · rintro ⟨s, ⟨h1, h2⟩, rfl⟩; exact ⟨s, rfl, h1, h2⟩
  · rintro ⟨s, rfl, h1, h2⟩; exact ⟨s, ⟨h1, h2⟩, rfl⟩

theorem range_asc (n : Nat) (p : Nat → Bool) : Asc (((List.range n).filter p).map fun s => ((s : Nat) : Int)) := by
  unfold Asc
  rw [List.pairwise_map]
  refine (List.Pairwise.filter _ List.pairwise_lt_range).imp ?_
  intro a b h; omega

theorem lcL_asc (m : Nat) (zs : List Int) : Asc (lcL m zs) := range_asc _ _
theorem lcL_len {m : Nat} (hm : m ≤ 6) (zs : List Int) : (lcL m zs).length ≤ 64 := by
  unfold lcL
  rw [List.length_map]
  refine Nat.le_trans (List.length_filter_le _ _) ?_
  rw [List.length_range]
  exact Nat.pow_le_pow_right (n := 2) (by decide) hm

theorem lcL_in {m : Nat} (hm : m ≤ 6) {zs : List Int} : ∀ x ∈ lcL m zs, 0 ≤ x ∧ x < 64 := fun x hx => by
  obtain ⟨s, rfl, h, -⟩ := lcL_mem.1 hx
  have := p64 hm h
  omega

theorem lcL_nil : ∀ m, m ≤ 6 → lcL m [] = [0] := by
  intro m hm
  refine asc_ext _ _ (lcL_asc _ _) (by simp [Asc]) fun z => ?_
  have h0 : 0 < 2 ^ m := Nat.two_pow_pos m
  rw [lcL_mem]
  constructor
  · rintro ⟨s, rfl, hs, h⟩
    have := ((minB_iff hm hs).1 h).2 0 rfl (by simp)
    subst this; simp
  · intro h
    have : z = 0 := by simpa using h
    subst this
    exact ⟨0, rfl, h0, (minB_iff hm h0).2 ⟨rfl, fun t _ h => by simpa using h.symm⟩⟩

/-- A list between the least covers and the covers has just the least covers as its least sets. -/
theorem between {m : Nat} (hm : m ≤ 6) {zs L : List Int} (h1 : ∀ x ∈ L, ∃ s : Nat, x = (s : Int) ∧ s < 2 ^ m ∧ covB zs s = true) (h2 : ∀ s, s < 2 ^ m → minB m zs s = true → ((s : Nat) : Int) ∈ L) : unbeaten leG L = lcL m zs := by
  refine asc_ext _ _ (unbeaten_asc _ _) (lcL_asc _ _) fun x => ?_
  rw [unbeaten_mem, lcL_mem]
  constructor
  · rintro ⟨hx, hb⟩
    obtain ⟨s, rfl, hs, hc⟩ := h1 x hx
    refine ⟨s, rfl, hs, ?_⟩
    obtain ⟨t, ht1, ht2, ht3⟩ := min_below hm s s (Nat.le_refl _) hs hc
    have hb2 := List.any_eq_false.1 hb _ (h2 t ht2 ht3)
    by_cases e : t = s
    · rwa [← e]
    · exfalso
      refine hb2 ?_
      rw [beatBy, leG_nat t s (p64 hm ht2) (p64 hm hs), decide_eq_true ht1, Bool.and_true, bne_iff_ne]
      omega
  · rintro ⟨s, rfl, hs, h⟩
    refine ⟨h2 s hs h, List.any_eq_false.2 fun o ho hbo => ?_⟩
    obtain ⟨t, rfl, ht, hc⟩ := h1 o ho
    rw [beatBy, leG_nat t s (p64 hm ht) (p64 hm hs), Bool.and_eq_true, decide_eq_true_eq, bne_iff_ne] at hbo
    exact hbo.1 (by rw [((minB_iff hm hs).1 h).2 t hc hbo.2])

/-- All covers, in order. -/
def covL (m : Nat) (zs : List Int) : List Int := ((List.range (2 ^ m)).filter (covB zs)).map fun s => ((s : Nat) : Int)

theorem covL_least {m : Nat} (hm : m ≤ 6) (zs : List Int) : unbeaten leG (covL m zs) = lcL m zs := by
  refine between hm (fun x hx => ?_) (fun s hs h => ?_)
  · simp only [covL, List.mem_map, List.mem_filter, List.mem_range] at hx
    obtain ⟨s, ⟨h1, h2⟩, rfl⟩ := hx
    exact ⟨s, rfl, h1, h2⟩
  · simp only [covL, List.mem_map, List.mem_filter, List.mem_range]
    rw [minB, Bool.and_eq_true] at h
    exact ⟨s, ⟨hs, h.1⟩, rfl⟩

set_option maxRecDepth 100000 in
theorem or_lt_fin : ∀ m : Fin 7, ∀ s : Fin 64, ∀ v : Fin 6, s.val < 2 ^ m.val → v.val < m.val → s.val ||| 2 ^ v.val < 2 ^ m.val := by decide +kernel

theorem or_lt {m s v : Nat} (hm : m ≤ 6) (hs : s < 2 ^ m) (hv : v < m) : s ||| 2 ^ v < 2 ^ m := or_lt_fin ⟨m, by omega⟩ ⟨s, p64 hm hs⟩ ⟨v, by omega⟩ hs hv
theorem or_bit (s v i : Nat) : (s ||| 2 ^ v).testBit i = (s.testBit i || decide (v = i)) := by rw [Nat.testBit_or, Nat.testBit_two_pow]
theorem sub_or (s v : Nat) : s &&& (s ||| 2 ^ v) = s := by
  apply Nat.eq_of_testBit_eq; intro i
  rw [Nat.testBit_and, or_bit]; cases s.testBit i <;> simp

theorem or_sub {t s v : Nat} (h : t &&& s = t) (hv : s.testBit v = true) : (t ||| 2 ^ v) &&& s = t ||| 2 ^ v := by
  apply Nat.eq_of_testBit_eq; intro i
  rw [Nat.testBit_and, or_bit]
  have h1 : t.testBit i = (t.testBit i && s.testBit i) := by rw [← Nat.testBit_and, h]
  by_cases e : v = i
  · subst e; simp [hv]
  · simp only [e, decide_false, Bool.or_false]; exact h1.symm

theorem meet_bit {a b : Nat} : a &&& b ≠ 0 ↔ ∃ v, a.testBit v = true ∧ b.testBit v = true := by
  constructor
  · intro h
    obtain ⟨v, hv⟩ := Nat.exists_testBit_of_ne_zero h
    rw [Nat.testBit_and, Bool.and_eq_true] at hv
    exact ⟨v, hv⟩
  · rintro ⟨v, h1, h2⟩ e
    have : (a &&& b).testBit v = true := by rw [Nat.testBit_and, h1, h2]; rfl
    rw [e] at this; simp at this

theorem mem_bit2 {s v : Nat} (hs : s < 64) : v ∈ mem s ↔ s.testBit v = true := by
  simp only [mem, List.mem_filter, List.mem_range]
  refine ⟨fun h => h.2, fun h => ⟨?_, h⟩⟩
  refine Classical.byContradiction fun hv => ?_
  have : s.testBit v = false := Nat.testBit_lt_two_pow (Nat.lt_of_lt_of_le hs (Nat.pow_le_pow_right (n := 2) (i := 6) (by decide) (by omega)))
  rw [this] at h; cases h

/-- Each member of a club put to each of some sets. -/
def growL (out : List Int) (z : Int) : List Int := out.flatMap fun s => (mem z.toNat).map fun v => ((s.toNat ||| 2 ^ v : Nat) : Int)

theorem grow_least {m : Nat} (hm : m ≤ 6) (zs : List Int) (z : Int) (hz : z.toNat < 2 ^ m) : unbeaten leG (growL (lcL m zs) z) = lcL m (zs ++ [z]) := by
  have hz6 := p64 hm hz
  have hbm : ∀ v, z.toNat.testBit v = true → v < m := fun v hv => Classical.byContradiction fun h => by
    have : z.toNat.testBit v = false := Nat.testBit_lt_two_pow (Nat.lt_of_lt_of_le hz (Nat.pow_le_pow_right (by decide) (by omega)))
    rw [this] at hv; cases hv
  refine between hm (fun x hx => ?_) (fun s hs h => ?_)
  · obtain ⟨o, ho, hx⟩ := List.mem_flatMap.1 hx
    obtain ⟨v, hv, rfl⟩ := List.mem_map.1 hx
    obtain ⟨t, rfl, ht, hmin⟩ := lcL_mem.1 ho
    rw [mem_bit2 hz6] at hv
    simp only [Int.toNat_natCast]
    refine ⟨_, rfl, or_lt hm ht (hbm v hv), ?_⟩
    rw [covB_snoc, covB_mono ((minB_iff hm ht).1 hmin).1 (sub_or t v), Bool.true_and, bne_iff_ne]
    exact meet_bit.2 ⟨v, hv, by rw [or_bit]; simp⟩
  · obtain ⟨hc, hmin⟩ := (minB_iff hm hs).1 h
    have hc1 := hc
    rw [covB_snoc, Bool.and_eq_true, bne_iff_ne] at hc1
    obtain ⟨t, ht1, ht2, ht3⟩ := min_below hm s s (Nat.le_refl _) hs hc1.1
    have hct := ((minB_iff hm ht2).1 ht3).1
    have key : ∃ v, z.toNat.testBit v = true ∧ t ||| 2 ^ v = s := by
      by_cases hzt : z.toNat &&& t ≠ 0
      · have e := hmin t (by rw [covB_snoc, hct, Bool.true_and, bne_iff_ne]; exact hzt) ht1
        obtain ⟨v, h1, h2⟩ := meet_bit.1 hzt
        refine ⟨v, h1, ?_⟩
        have := or_sub (t := t) (s := t) (by simp) h2
        have h3 := sub_or t v
        rw [e] at this h3 ⊢
        rw [← this, Nat.and_comm, h3]
      · obtain ⟨v, h1, h2⟩ := meet_bit.1 hc1.2
        refine ⟨v, h1, hmin _ ?_ (or_sub ht1 h2)⟩
        rw [covB_snoc, covB_mono hct (sub_or t v), Bool.true_and, bne_iff_ne]
        exact meet_bit.2 ⟨v, h1, by rw [or_bit]; simp⟩
    obtain ⟨v, hv, rfl⟩ := key
    refine List.mem_flatMap.2 ⟨(t : Int), lcL_mem.2 ⟨t, rfl, ht2, ht3⟩, List.mem_map.2 ⟨v, (mem_bit2 hz6).2 hv, by simp⟩⟩

end Go.Proofs.YtlfnjoogcenlhaaDoor
