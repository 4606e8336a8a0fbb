/- It is proved what allNames yields; conditions: those of each statement. -/
import Derived.RowKit
import Derived.Laws.CopyRow
import Derived.Lib.SlBuf
import Derived.RangeFuncNested
import Derived.RangeFuncBound
import Derived.RangeFuncCalls
import Derived.RangeFuncLeaves
import Derived.RangeFuncBox
import Derived.RangeFuncWrites
import Derived.StillTailTactics
import Derived.Test.YtacglafoahmcnaaDoorRows
import Derived.WalkKit
import Derived.WalkSpells
import Derived.ProofKit
import Derived.OpenShut
import Derived.ShutString
import Derived.ChangeOld
import Derived.Below
import Derived.Deep.RegionHeld3
import Derived.Deep.QuietTactic
import Derived.BigQuiet
import Derived.Lib.Hide
import Derived.Lib.SmallJoins
import Derived.Outline
import Derived.Laws.MakeOwn
import Derived.Laws.OwnMore
import Derived.IntWalk
import Derived.Shelf.Abstract
import Derived.Shelf.RegionOpen
import Derived.OwnWalkIn
import Derived.TacticsInMore
import Derived.LoopNIn
import Derived.LoopIn
import Derived.Maps.AppendAt
import Derived.Deep.AppendLies
import Derived.OwnWalk
import Derived.StillTail
import Derived.StillTactics
import Derived.OrdersIn
import Derived.TacticsIn
import Derived.Shelf.Spec.TrailingZeros
import Derived.Test.YtacglafoahmcnaaDoorRaac
import Derived.Lib.AppendZeros
import Derived.Lib.SlicesCompact
import Derived.Lib.OwnBridge
import Derived.Shelf.Sort.Plain
import Derived.Shelf.Slices.In.SortNone
import Derived.Shelf.Slices.CompactI
import Derived.Ground.Names2Prog
import Derived.Lib.SliceRun
import Derived.Maps.OwnIn
import Derived.Maps.Ext
import Derived.DeepKeys4
import Derived.MapKept
import Derived.Test.YtacglafoahmcnaaDoorTb
import Derived.Laws.BitsAllLaws
import Derived.Test.YtacglafoahmcnaaDoorRaag
import Derived.Test.YtacglafoahmcnaaDoorRaah
import Derived.Test.YtacglafoahmcnaaDoorRaae
import Derived.Test.YtacglafoahmcnaaDoorRaaw
import Derived.Test.YtacglafoahmcnaaDoorRaam
import Derived.Test.YtacglafoahmcnaaDoorRaab
import Derived.Test.YtacglafoahmcnaaDoorRaal
namespace Go.Proofs.YtacglafoahmcnaaDoor
open Go.RowKit Go.Shelf

theorem full_nat (m : Nat) : fullI (m : Int) = ((2 ^ m - 1 : Nat) : Int) := by
  have h1 : 1 ≤ 2 ^ m := Nat.one_le_two_pow
  have : ((2 ^ m - 1 : Nat) : Int) = ((2 ^ m : Nat) : Int) - 1 := by omega
  rw [this]; simp [fullI]

end Go.Proofs.YtacglafoahmcnaaDoor

/- It is proved that the greatest pack told club by club is the greatest one of all sets of places; conditions: those of each statement. -/
namespace Go.Proofs.YtacglafoahmcnaaDoor
open Go.RowKit

/-- The places of a set, of the first k. -/
def memK (k p : Nat) : List Nat := (List.range k).filter fun i => p.testBit i

theorem memK_two (k b q : Nat) (hb : b < 2) : memK (k + 1) (2 * q + b) = (if b = 1 then [0] else []) ++ (memK k q).map (· + 1) := by
  unfold memK
  rw [List.range_succ_eq_map, List.filter_cons, List.filter_map]
  have h0 : (2 * q + b).testBit 0 = decide (b = 1) := by
    rw [Nat.testBit_zero]
    congr 1
    rw [eq_iff_iff]
    omega
  have h1 : ((fun i => (2 * q + b).testBit i) ∘ Nat.succ) = fun i => q.testBit i := by
    funext i
    simp only [Function.comp, Nat.succ_eq_add_one, Nat.testBit_succ]
    rw [show (2 * q + b) / 2 = q by omega]
  rw [h0, h1]
  by_cases h : b = 1
  · simp [h]
  · simp [h]

/-- No two clubs at some places have a common member, nor one with a set. -/
def packB (zs : List Int) : List Nat → Nat → Bool
  | [], _ => true
  | p :: ps, met => decide ((zs[p]?.getD 0).toNat &&& met = 0) && packB zs ps (met ||| (zs[p]?.getD 0).toNat)

theorem packB_shift (z : Int) (zs : List Int) : ∀ (ps : List Nat) (met : Nat), packB (z :: zs) (ps.map (· + 1)) met = packB zs ps met
  | [], _ => rfl
  | p :: ps, met => by
    rw [List.map_cons, packB, packB, packB_shift z zs ps]
    rfl

/-- .. told club by club. -/
def packM : List Int → Nat → Nat
  | [], _ => 0
  | z :: zs, used => if z.toNat &&& used = 0 then max (packM zs used) (1 + packM zs (used ||| z.toNat)) else packM zs used

def IsMost (zs : List Int) (met n : Nat) : Prop := (∀ q, q < 2 ^ zs.length → packB zs (memK zs.length q) met = true → (memK zs.length q).length ≤ n) ∧ ∃ q, q < 2 ^ zs.length ∧ packB zs (memK zs.length q) met = true ∧ (memK zs.length q).length = n
theorem packM_most : ∀ (zs : List Int) (met : Nat), IsMost zs met (packM zs met)
  | [], met => ⟨fun q _ _ => by simp [memK], 0, by simp, rfl, rfl⟩
  | z :: zs, met => by
    obtain ⟨a1, q1, a2, a3, a4⟩ := packM_most zs met
    obtain ⟨b1, q2, b2, b3, b4⟩ := packM_most zs (met ||| z.toNat)
    have h00 : ∀ q, packB (z :: zs) (memK (zs.length + 1) (2 * q + 0)) met = packB zs (memK zs.length q) met := fun q => by
      rw [memK_two _ 0 q (by decide), if_neg (by decide), List.nil_append, packB_shift]
    have h01 : ∀ q, (memK (zs.length + 1) (2 * q + 0)).length = (memK zs.length q).length := fun q => by
      rw [memK_two _ 0 q (by decide), if_neg (by decide), List.nil_append, List.length_map]
    have h10 : ∀ q, packB (z :: zs) (memK (zs.length + 1) (2 * q + 1)) met = (decide (z.toNat &&& met = 0) && packB zs (memK zs.length q) (met ||| z.toNat)) := fun q => by
      rw [memK_two _ 1 q (by decide), if_pos rfl, List.singleton_append, packB, packB_shift]
      rfl
    have h11 : ∀ q, (memK (zs.length + 1) (2 * q + 1)).length = 1 + (memK zs.length q).length := fun q => by
      rw [memK_two _ 1 q (by decide), if_pos rfl, List.singleton_append, List.length_cons, List.length_map]; omega
    have hp : 2 ^ (z :: zs).length = 2 * 2 ^ zs.length := by rw [List.length_cons, Nat.pow_succ]; omega
    constructor
    · intro q hq hb
      rw [List.length_cons] at hb ⊢
      rcases Nat.mod_two_eq_zero_or_one q with h | h
      · obtain ⟨r, rfl⟩ : ∃ r, q = 2 * r + 0 := ⟨q / 2, by omega⟩
        rw [h00] at hb
        rw [h01]
        have := a1 r (by omega) hb
        rw [packM]; split <;> omega
      · obtain ⟨r, rfl⟩ : ∃ r, q = 2 * r + 1 := ⟨q / 2, by omega⟩
        rw [h10, Bool.and_eq_true, decide_eq_true_eq] at hb
        rw [h11, packM, if_pos hb.1]
        have := b1 r (by omega) hb.2
        omega
    · rw [packM]
      by_cases hz : z.toNat &&& met = 0
      · rw [if_pos hz]
        by_cases hm : packM zs met ≤ 1 + packM zs (met ||| z.toNat)
        · refine ⟨2 * q2 + 1, by omega, ?_, ?_⟩
          · rw [List.length_cons, h10, b3, hz]; rfl
          · rw [List.length_cons, h11, b4]; omega
        · refine ⟨2 * q1 + 0, by omega, ?_, ?_⟩
          · rw [List.length_cons, h00, a3]
          · rw [List.length_cons, h01, a4]; omega
      · rw [if_neg hz]
        refine ⟨2 * q1 + 0, by omega, ?_, ?_⟩
        · rw [List.length_cons, h00, a3]
        · rw [List.length_cons, h01, a4]

/-- .. and set by set. -/
def mostTo (zs : List Int) (n : Nat) : Nat := (List.range n).foldl (fun b q => if packB zs (memK zs.length q) 0 then max b (memK zs.length q).length else b) 0

theorem mostTo_succ (zs : List Int) (n : Nat) : mostTo zs (n + 1) = if packB zs (memK zs.length n) 0 then max (mostTo zs n) (memK zs.length n).length else mostTo zs n := by
  simp [mostTo, List.range_succ]

theorem mostTo_ge (zs : List Int) : ∀ n q, q < n → packB zs (memK zs.length q) 0 = true → (memK zs.length q).length ≤ mostTo zs n
  | 0, q, h, _ => by omega
  | n + 1, q, h, hb => by
    rw [mostTo_succ]
    by_cases e : q = n
    · subst e; rw [if_pos hb]; omega
    · have := mostTo_ge zs n q (by omega) hb
      split <;> omega

theorem mostTo_le (zs : List Int) (N : Nat) (h : ∀ q, q < 2 ^ zs.length → packB zs (memK zs.length q) 0 = true → (memK zs.length q).length ≤ N) : ∀ n, n ≤ 2 ^ zs.length → mostTo zs n ≤ N
  | 0, _ => by simp [mostTo]
  | n + 1, hn => by
    have h1 := mostTo_le zs N h n (by omega)
    rw [mostTo_succ]
    split
    · rename_i hb
      have := h n (by omega) hb
      omega
    · exact h1

theorem most_all (zs : List Int) : mostTo zs (2 ^ zs.length) = packM zs 0 := by
  obtain ⟨h1, q, h2, h3, h4⟩ := packM_most zs 0
  have := mostTo_ge zs _ q h2 h3
  have := mostTo_le zs _ h1 _ (Nat.le_refl _)
  omega

end Go.Proofs.YtacglafoahmcnaaDoor

/- It is proved what CoverPack of the program returns; conditions: those of each statement. -/
namespace Go.Proofs.YtacglafoahmcnaaDoor
open Go.RowKit Go.Shelf

attribute [local go_sem] Oper.semAt_some

theorem n08 {n : Nat} (h : n ≤ 8) : n = 0 ∨ n = 1 ∨ n = 2 ∨ n = 3 ∨ n = 4 ∨ n = 5 ∨ n = 6 ∨ n = 7 ∨ n = 8 := by omega
/-- The greatest pack of some sets of places. -/
def mostOf (zs : List Int) (qs : List Nat) : Nat := qs.foldl (fun b q => if packB zs (memK zs.length q) 0 then max b (memK zs.length q).length else b) 0

theorem mostOf_snoc (zs : List Int) (qs : List Nat) (q : Nat) : mostOf zs (qs ++ [q]) = if packB zs (memK zs.length q) 0 then max (mostOf zs qs) (memK zs.length q).length else mostOf zs qs := by
  simp [mostOf]

theorem mostOf_all (zs : List Int) : mostOf zs (List.range (2 ^ zs.length)) = packM zs 0 := most_all zs
def packZ (m : Int) (zs : List Int) : Int := if famIn m zs then ((packM zs 0 : Nat) : Int) else 0
end Go.Proofs.YtacglafoahmcnaaDoor

/- It is proved what the operations on sets of at most eight members are in terms of their bits; conditions: those of each statement. -/
namespace Go.Proofs.YtacglafoahmcnaaDoor
open Go.RowKit Go.Shelf

theorem and_at8 {x y : Nat} (hx : x < 256) (hy : y < 256) : bits .and .i64 (x : Int) (y : Int) = ((x &&& y : Nat) : Int) := (bits_nat .i64 8 (by decide) (fun n h0 h1 => by rw [IntKind.wrap_i64]; omega) x y hx hy).1
theorem or_at8 {x y : Nat} (hx : x < 256) (hy : y < 256) : bits .or .i64 (x : Int) (y : Int) = ((x ||| y : Nat) : Int) := (bits_nat .i64 8 (by decide) (fun n h0 h1 => by rw [IntKind.wrap_i64]; omega) x y hx hy).2
/-- A set without another one. -/
def anN (a b : Nat) : Nat := a &&& (2 ^ 64 - (b + 1))

theorem anN_bit (a b i : Nat) (ha : a < 256) (hb : b < 256) : (anN a b).testBit i = (a.testBit i && !b.testBit i) := by
  unfold anN
  rw [Nat.testBit_and, Nat.testBit_two_pow_sub_succ (by omega)]
  by_cases hi : i < 64
  · simp [hi]
  · have : a.testBit i = false := Nat.testBit_lt_two_pow (Nat.lt_of_lt_of_le ha (Nat.le_trans (by decide : 256 ≤ 2 ^ 8) (Nat.pow_le_pow_right (by decide) (by omega))))
    simp [this]

theorem anN_le (a b : Nat) : anN a b ≤ a := Nat.and_le_left
theorem an_at8 {a b : Nat} (ha : a < 256) (hb : b < 256) : bits .andNot .i64 (a : Int) (b : Int) = ((anN a b : Nat) : Int) := by
  have h2 := anN_le a b
  show IntKind.i64.wrap ((BitVec.ofInt 64 (a : Int) &&& ~~~BitVec.ofInt 64 (b : Int)).toNat : Int) = _
  rw [BitVec.toNat_and, BitVec.toNat_not, ofInt_u64 a (by omega), ofInt_u64 b (by omega), IntKind.wrap_i64]
  have e : 2 ^ 64 - 1 - b = 2 ^ 64 - (b + 1) := by omega
  rw [e]
  unfold anN at h2 ⊢
  omega

theorem bits_sub (a b : Nat) : a &&& b = a ↔ ∀ i, a.testBit i = true → b.testBit i = true := by
  constructor
  · intro h i hi
    have := congrArg (fun n => n.testBit i) h
    simp only [Nat.testBit_and, hi, Bool.true_and] at this
    exact this
  · intro h
    apply Nat.eq_of_testBit_eq
    intro i
    rw [Nat.testBit_and]
    cases h1 : a.testBit i
    · simp
    · simp [h i h1]

theorem an_zero {a b : Nat} (ha : a < 256) (hb : b < 256) : anN a b = 0 ↔ a &&& b = a := by
  rw [bits_sub]
  constructor
  · intro h i hi
    have := anN_bit a b i ha hb
    rw [h, Nat.zero_testBit, hi, Bool.true_and] at this
    cases h2 : b.testBit i <;> simp_all
  · intro h
    apply Nat.eq_of_testBit_eq
    intro i
    rw [anN_bit a b i ha hb, Nat.zero_testBit]
    cases h1 : a.testBit i
    · rfl
    · rw [h i h1]; rfl

/-- A set is a part of another one. -/
def subN (a b : Nat) : Bool := decide (a &&& b = a)

theorem subN_iff (a b : Nat) : subN a b = true ↔ ∀ i, a.testBit i = true → b.testBit i = true := by unfold subN; rw [decide_eq_true_eq, bits_sub]
theorem leG8 {o z : Nat} (ho : o < 256) (hz : z < 256) : leG (o : Int) (z : Int) = subN o z := by
  unfold leG subN
  rw [an_at8 ho hz, Bool.eq_iff_iff, beq_iff_eq, decide_eq_true_eq, ← an_zero ho hz]
  omega

theorem an_ne {a b : Nat} (ha : a < 256) (hb : b < 256) : (((anN a b : Nat) : Int) != 0) = !subN a b := by
  unfold subN
  rw [Bool.eq_iff_iff, bne_iff_ne, Bool.not_eq_true', decide_eq_false_iff_not, ← an_zero ha hb]
  omega

theorem p256 {m s : Nat} (hm : m ≤ 8) (hs : s < 2 ^ m) : s < 256 := Nat.lt_of_lt_of_le hs (Nat.pow_le_pow_right (n := 2) (by decide) hm)
set_option maxRecDepth 100000 in
theorem has8_fin : ∀ x : Fin 256, ∀ p : Fin 8, (bits BinOp.and IntKind.i64 ((x.val : Int) / 2 ^ p.val) 1 == 1) = x.val.testBit p.val := by decide +kernel

theorem has8_any (x p : Nat) (hx : x < 256) (hp : p < 8) (w : World) :
    Calls Tryd.prog 108 #[.int .i64 (x : Int), .int .i64 (p : Int)] w fun e w' => e = .returned (.bool (x.testBit p)) ∧ w = w' := by
  have HH := Lib.hid (has8_fin ⟨x, hx⟩ ⟨p, hp⟩)
  simp only at HH
  go_enter Tryd.func108, Tryd.ntmps108
  go_wp2
  go_ret
  exact ⟨by rw [← HH.out]; rfl, rfl⟩

theorem wo8_at {x p : Nat} (hx : x < 256) (hp : p < 8) : bits .andNot .i64 (x : Int) (2 ^ p) = ((anN x (2 ^ p) : Nat) : Int) := by
  have h2 : (2 : Nat) ^ p < 256 := Nat.pow_lt_pow_right (a := 2) (n := 8) (by decide) hp
  have := an_at8 hx h2
  rw [← this]
  norm_cast

theorem without8_any (x p : Nat) (hx : x < 256) (hp : p < 8) (w : World) :
    Calls Tryd.prog 59 #[.int .i64 (x : Int), .int .i64 (p : Int)] w fun e w' => e = .returned (.int .i64 ((anN x (2 ^ p) : Nat) : Int)) ∧ w = w' := by
  have hp8 : (p : Int) < 8 := by omega
  obtain ⟨h1, h2⟩ := p2_small p (by omega)
  have HO := Lib.hid (wo8_at hx hp)
  go_enter Tryd.func59, Tryd.ntmps59
  go_wp2
  go_ret
  exact ⟨by rw [HO.out]; rfl, rfl⟩

theorem partOf8_any (x y : Nat) (hx : x < 256) (hy : y < 256) (w : World) : Calls Tryd.prog 130 #[.int .i64 (x : Int), .int .i64 (y : Int)] w fun e w' => e = .returned (.bool (subN x y)) ∧ w = w' := by
  have := partOf_any (x : Int) (y : Int) w
  rwa [leG8 hx hy] at this

set_option maxRecDepth 100000 in
theorem full8_any (k : Nat) (a : Option Addr) (n c : Nat) (w : World) (hk : k ≤ 8) :
    Calls Tryd.prog 57 #[.agg #[.int .i64 (k : Int), .slice a n c]] w fun e w' => e = .returned (.int .i64 ((2 ^ k - 1 : Nat) : Int)) ∧ w' = w.alloc (.cells #[.int .i64 (k : Int), .slice a n c] 25) := by
  rcases n08 hk with rfl | rfl | rfl | rfl | rfl | rfl | rfl | rfl | rfl
  all_goals
    go_enter Tryd.func57, Tryd.ntmps57
    go_wp2
    go_ret
    exact ⟨rfl, rfl⟩

theorem mem8_iff {s v : Nat} (hs : s < 256) : v ∈ memK 8 s ↔ s.testBit v = true := by
  unfold memK
  rw [List.mem_filter, List.mem_range]
  constructor
  · exact fun h => h.2
  · intro h
    refine ⟨?_, h⟩
    apply Decidable.byContradiction
    intro hv
    rw [Nat.testBit_lt_two_pow (Nat.lt_of_lt_of_le hs (Nat.le_trans (by decide : 256 ≤ 2 ^ 8) (Nat.pow_le_pow_right (by decide) (by omega))))] at h
    cases h

end Go.Proofs.YtacglafoahmcnaaDoor

/- It is proved what the iterator over a set's parts yields; conditions: those of each statement. -/
namespace Go.Proofs.YtacglafoahmcnaaDoor
open Go.RowKit Go.Shelf

attribute [local go_sem] Oper.semAt_some

/-- What a round must keep: the cell with the set. -/
def CellK (Bs : Nat) (v : Value) (A B : World) : Prop := A.cell? ⟨Bs, 0, none⟩ = some v → B.cell? ⟨Bs, 0, none⟩ = some v

end Go.Proofs.YtacglafoahmcnaaDoor

/- It is proved what the iterators over the members and the parts of a set of places yield; conditions: those of each statement. -/
namespace Go.Proofs.YtacglafoahmcnaaDoor
open Go.RowKit Go.Shelf

attribute [local go_sem] Oper.semAt_some

set_option maxRecDepth 100000 in
theorem memW_cons_fin : ∀ s : Fin 256, s.val ≠ 0 → memK 8 s.val = Lib.ctz 64 s.val :: memK 8 (s.val &&& (s.val - 1)) := by decide +kernel

theorem memW_cons (s : Nat) (hs : s < 256) (h : s ≠ 0) : memK 8 s = Lib.ctz 64 s :: memK 8 (s &&& (s - 1)) := memW_cons_fin ⟨s, hs⟩ h
theorem memK_len (k s : Nat) : (memK k s).length ≤ k := by unfold memK; exact Nat.le_trans (List.length_filter_le _ _) (by simp)
theorem memK_lt {k s v : Nat} (h : v ∈ memK k s) : v < k := List.mem_range.1 (List.mem_filter.1 h).1
theorem memW_is {k s : Nat} (hk : k ≤ 8) (hs : s < 2 ^ k) : memK 8 s = memK k s := by
  unfold memK
  obtain ⟨d, hd⟩ : ∃ d, 8 = k + d := ⟨8 - k, by omega⟩
  rw [hd, List.range_add, List.filter_append]
  have : (List.map (fun x => k + x) (List.range d)).filter (fun i => s.testBit i) = [] := by
    rw [List.filter_eq_nil_iff]
    intro i hi
    obtain ⟨j, -, rfl⟩ := List.mem_map.1 hi
    rw [Nat.testBit_lt_two_pow (Nat.lt_of_lt_of_le hs (Nat.pow_le_pow_right (by decide) (by omega)))]
    decide
  rw [this, List.append_nil]

theorem tzW_any (x : Nat) (hx0 : x ≠ 0) (hx : x < 256) (w : World) (hT : Tab w) :
    Calls Tryd.prog 90 #[.int .u64 x] w fun e w' => e = .returned (.int .i64 (Lib.ctz 64 x : Nat)) ∧ w = w' := by
  obtain ⟨hlow, hk⟩ := Lib.lowest_bit 64 x hx0 (by omega)
  obtain ⟨hi, htab⟩ := Lib.deBruijn64_at _ hk
  have hcell := hT _ hi
  rw [htab] at hcell
  have H := tz64_coreD x _ _ w (by simp; omega) (tz64_key x _ (by omega) hx0 hlow) hi hk hcell
  clear hT hcell htab hi hlow
  go_enter Tryd.func90, Tryd.ntmps90
  go_wp2_with (go_at_call 123; refine H.mono ?_; rintro e w' ⟨rfl, rfl⟩)
  go_ret
  exact ⟨rfl, rfl⟩

theorem lowW_and (t : Nat) (h0 : t ≠ 0) (h : t < 256) : bits BinOp.and IntKind.u64 (t : Int) ((t : Int) - 1) = ((t &&& (t - 1) : Nat) : Int) := by
  rw [show (t : Int) - 1 = ((t - 1 : Nat) : Int) from by omega, bits_and_u64_nat t _ (by omega) (by omega)]

/-- A place of s. -/
abbrev MemW (s : Nat) := { v : Nat // v ∈ memK 8 s }

def valsW {s : Nat} (ys : List (MemW s)) : List Nat := ys.map (·.1)
theorem valsW_snoc {s : Nat} (ys : List (MemW s)) (y : MemW s) : valsW (ys ++ [y]) = valsW ys ++ [y.1] := by simp [valsW]
set_option maxRecDepth 100000 in
set_option maxHeartbeats 2000000 in
theorem membersW1_in (n : Nat) (hn : 1 ≤ n) (l Bs n₀ s : Nat) (hs64 : s < 256) (J Jx : List (MemW s) → World → Prop)
    (hY : ∀ pre x W, J pre W → pre.length < 8 → valsW (pre ++ [x]) <+: memK 8 s → YieldAt Fence.wide (n - 1) Tryd.prog l #[.int .i64 (x.1 : Int)] W fun e W' =>
      (e = .returned (.bool true) ∧ J (pre ++ [x]) W' ∧ Below n₀ W W') ∨ (e = .returned (.bool false) ∧ Jx (pre ++ [x]) W'))
    (W : World) (hBs : W.cell? ⟨Bs, 0, none⟩ = some (.int .i64 (s : Int))) (hT : Tab W) (hn0 : 1 < n₀) (h0 : J [] W) :
    CallsIn Fence.wide n Tryd.prog 89 #[.func (.yield l) #[] #[], .pointer (some ⟨Bs, 0, none⟩)] W fun e W' => (∃ v, e = .returned v) ∧
      ((∃ ys, valsW ys = memK 8 s ∧ J ys W') ∨ (∃ pre, valsW pre <+: memK 8 s ∧ Jx pre W')) := by
  have hss : (s : Int) < 256 := by omega
  refine callsIn_of_wp Tryd.func89 rfl trivial ?_ rfl
  simp only [Tryd.ntmps89, List.size_toArray, List.length_cons, List.length_nil, Nat.reduceAdd, Nat.reduceSub, Array.replicate_succ, Array.replicate_zero, List.push_toArray, List.append_toArray, List.nil_append, List.cons_append]
  gi_wp2
  gi_loopw [3] (fun r wr => ∃ (t : Nat) (pre : List (MemW s)), t < 256 ∧ valsW pre ++ memK 8 t = memK 8 s ∧ r = .int .u64 (t : Int) ∧ J pre wr ∧ Below n₀ W wr)
    (fun r _ => (intOf r).toNat)
  case atStart => exact ⟨s, [], hs64, by simp [valsW], rfl, h0, Below.refl _ _⟩
  case round =>
    obtain ⟨t, pre, ht, hpre, rfl, hJs, hnx⟩ := hrel
    by_cases h0 : t = 0
    · subst h0
      rw [show memK 8 0 = [] from rfl, List.append_nil] at hpre
      gi_wp2
      go_end0
      exact ⟨⟨_, rfl⟩, .inl ⟨pre, hpre, hJs⟩⟩
    · have hc := memW_cons t ht h0
      rw [hc] at hpre
      have hk : Lib.ctz 64 t ∈ memK 8 s := by rw [← hpre]; simp
      have hlen : pre.length < 8 := by
        have h1 := memK_len 8 s
        rw [← hpre] at h1
        simp [valsW] at h1
        omega
      have HA := Lib.hid (lowW_and t h0 ht)
      have hT2 : Tab wr := hT.below hnx hn0
      have hpre' : valsW (pre ++ [(⟨Lib.ctz 64 t, hk⟩ : MemW s)]) ++ memK 8 (t &&& (t - 1)) = memK 8 s := (by rw [valsW_snoc, List.append_assoc]; exact hpre)
      have hlt : t &&& (t - 1) < t := by have := @Nat.and_le_right t (t - 1); omega
      obtain ⟨fn, tmps, assign, body, hy, hR⟩ := hY _ ⟨Lib.ctz 64 t, hk⟩ wr hJs hlen ⟨_, hpre'⟩
      dsimp only at hy
      have ht0 : (0 : Int) < (t : Int) := by omega
      clear hc hpre
      gi_wp2
      refine ⟨trivial, (callsIn_wide.2 (tzW_any t h0 ht _ hT2)).mono ?_⟩
      rintro e w' ⟨rfl, rfl⟩
      gi_wp2
      refine hR.mono ?_
      rintro e W3 (⟨rfl, hJ3, hk3⟩ | ⟨rfl, hJx3⟩)
      · gi_wp2
        go_roundw
        case rel => exact ⟨t &&& (t - 1), _, by omega, hpre', by rw [HA.out], hJ3, hnx.trans hk3⟩
        case measure => rw [HA.out]; simp only [intOf]; omega
      · gi_wp2
        refine bodyPost_ret (results_none rfl _ _ _) rfl ?_
        exact ⟨⟨_, rfl⟩, .inr ⟨_, ⟨memK 8 (t &&& (t - 1)), hpre'⟩, hJx3⟩⟩

theorem membersW_stops (n : Nat) (hn : 1 ≤ n) (Bs n₀ s : Nat) (hs : s < 256) (w : World) (hBs : Bs < w.heap.size) (hn₀ : n₀ ≤ w.heap.size) (hn1 : 1 < n₀)
    (hc : w.cell? ⟨Bs, 0, none⟩ = some (.int .i64 (s : Int))) (hT : Tab w) :
    SeqStopsK Fence.wide n Tryd.prog 89 #[.pointer (some ⟨Bs, 0, none⟩)] (fun x : MemW s => #[Value.int .i64 (x.1 : Int)]) (Below n₀) (fun ys => valsW ys = memK 8 s)
      (fun pre => valsW pre <+: memK 8 s) 8 w := fun l J Jx W hW _ _ hY h0 =>
  membersW1_in n hn l Bs n₀ s hs J Jx (fun pre x W h1 h2 _ => hY pre x W h1 h2) W ((hW.cell (p := ⟨Bs, 0, none⟩) hBs).trans hc) (hT.below hW (by omega)) hn1 h0

/-- A number below N. -/
abbrev PrtF (N : Nat) := { s : Nat // s < N }

def valsF {N : Nat} (ys : List (PrtF N)) : List Nat := ys.map (·.1)
theorem valsF_snoc {N : Nat} (ys : List (PrtF N)) (y : PrtF N) : valsF (ys ++ [y]) = valsF ys ++ [y.1] := by simp [valsF]
set_option maxRecDepth 100000 in
theorem nextF_fin : ∀ k : Fin 9, ∀ t : Fin 256, t.val < 2 ^ k.val - 1 → bits .and .i64 ((t.val : Int) - (2 ^ k.val - 1)) (2 ^ k.val - 1) = (t.val : Int) + 1 := by decide +kernel

theorem full_lt {k : Nat} (hk : k ≤ 8) : 1 ≤ 2 ^ k ∧ 2 ^ k ≤ 256 := ⟨Nat.one_le_two_pow, Nat.pow_le_pow_right (n := 2) (by decide) hk⟩
theorem cast_full (k : Nat) : ((2 ^ k - 1 : Nat) : Int) = 2 ^ k - 1 := by
  have : 1 ≤ 2 ^ k := Nat.one_le_two_pow
  have h2 : ((2 ^ k : Nat) : Int) = (2 : Int) ^ k := by norm_cast
  omega

set_option maxRecDepth 100000 in
set_option maxHeartbeats 2000000 in
theorem partsF1_in (n : Nat) (hn : 1 ≤ n) (l Bs k N : Nat) (hN : N = 2 ^ k) (hk8 : k ≤ 8) (c : Int) (hc : c = ((2 ^ k - 1 : Nat) : Int)) (J Jx : List (PrtF N) → World → Prop)
    (hY : ∀ pre x W, J pre W → pre.length < N → valsF pre = List.range x.1 → YieldAt Fence.wide (n - 1) Tryd.prog l #[.int .i64 (x.1 : Int)] W fun e W' =>
      (e = .returned (.bool true) ∧ J (pre ++ [x]) W' ∧ CellK Bs (.int .i64 c) W W') ∨ (e = .returned (.bool false) ∧ Jx (pre ++ [x]) W'))
    (W : World) (hBs : W.cell? ⟨Bs, 0, none⟩ = some (.int .i64 c)) (h0 : J [] W) :
    CallsIn Fence.wide n Tryd.prog 140 #[.func (.yield l) #[] #[], .pointer (some ⟨Bs, 0, none⟩)] W fun e W' => (∃ v, e = .returned v) ∧
      ((∃ ys, valsF ys = List.range N ∧ J ys W') ∨ (∃ pre, (∃ j, j ≤ N ∧ valsF pre = List.range j) ∧ Jx pre W')) := by
  obtain ⟨hk1, hk2⟩ := full_lt hk8
  have hcN : c = (N : Int) - 1 := by rw [hc, ← hN]; omega
  have HNX : Hid (∀ t : Nat, t < N - 1 → bits .and .i64 ((t : Int) - c) c = (t : Int) + 1) := Lib.hid (fun t ht => by
    have h := nextF_fin ⟨k, by omega⟩ ⟨t, by omega⟩ (by rw [← hN]; exact ht)
    have e : (2 : Int) ^ k - 1 = c := by rw [hc, cast_full]
    simp only [e] at h
    exact h)
  have hcA : c ≤ (N : Int) - 1 := by omega
  have hcB : (N : Int) - 1 ≤ c := by omega
  have HNK := Lib.hid hN
  rw [← hN] at hk1 hk2
  clear hN hc hcN
  refine callsIn_of_wp Tryd.func140 rfl trivial ?_ rfl
  simp only [Tryd.ntmps140, List.size_toArray, List.length_cons, List.length_nil, Nat.reduceAdd, Nat.reduceSub, Array.replicate_succ, Array.replicate_zero, List.push_toArray, List.append_toArray, List.nil_append, List.cons_append]
  gi_wp2
  gi_loopw [3] (fun r wr => ∃ (t : Nat) (pre : List (PrtF N)), t < N ∧ valsF pre = List.range t ∧ r = .int .i64 (t : Int) ∧ J pre wr ∧ wr.cell? ⟨Bs, 0, none⟩ = some (.int .i64 c))
    (fun r _ => N - (intOf r).toNat)
  case atStart => exact ⟨0, [], by omega, rfl, rfl, h0, hBs⟩
  case round =>
    obtain ⟨t, pre, ht, hpre, rfl, hJs, hcl⟩ := hrel
    have hlen : pre.length < N := by
      have := congrArg List.length hpre
      simp [valsF] at this
      omega
    obtain ⟨x, hx⟩ : ∃ x : PrtF N, x.1 = t := ⟨⟨t, ht⟩, rfl⟩
    have HPX : Hid (valsF (pre ++ [x]) = List.range (t + 1)) := Lib.hid (by rw [valsF_snoc, hx, hpre, List.range_succ])
    obtain ⟨fn, tmps, assign, body, hy, hR⟩ := hY _ x wr hJs hlen (by rw [hx]; exact hpre)
    rw [hx] at hy
    have HX := Lib.hid hx
    have HC := Lib.hid hcl
    clear hx hpre
    have ht0 : (0 : Int) ≤ (t : Int) := by omega
    have ht1 : (t : Int) < 256 := by omega
    have hc0 : (0 : Int) ≤ c := by omega
    have hc1 : c < 256 := by omega
    gi_wp2
    refine hR.mono ?_
    rintro e W3 (⟨rfl, hJ3, hk3⟩ | ⟨rfl, hJx3⟩)
    · have hc3 := hk3 HC.out
      clear hk3
      by_cases e : t + 1 = N
      · have heI : ((t : Int) == c) = true := by rw [beq_iff_eq]; omega
        have HE := Lib.hid e
        clear e
        gi_wp2
        go_end0
        exact ⟨⟨_, rfl⟩, .inl ⟨_, by rw [HPX.out, HE.out], hJ3⟩⟩
      · have heI : ((t : Int) == c) = false := by rw [beq_eq_false_iff_ne]; omega
        have HN1 := Lib.hid (HNX.out t (by omega))
        have HT1 : Hid (t + 1 < N) := Lib.hid (by omega)
        clear e
        gi_wp2
        go_roundw
        case rel => exact ⟨t + 1, _, HT1.out, HPX.out, by rw [HN1.out]; rfl, hJ3, hc3⟩
        case measure => rw [HN1.out]; have := HT1.out; simp only [intOf]; omega
    · gi_wp2
      go_end0
      exact ⟨⟨_, rfl⟩, .inr ⟨_, ⟨t + 1, by omega, HPX.out⟩, hJx3⟩⟩

theorem partsF_stops (n : Nat) (hn : 1 ≤ n) (Bs k : Nat) (hk8 : k ≤ 8) (c : Int) (hc : c = ((2 ^ k - 1 : Nat) : Int)) (w : World) (hBs : Bs < w.heap.size) (hcl : w.cell? ⟨Bs, 0, none⟩ = some (.int .i64 c)) :
    SeqStopsK Fence.wide n Tryd.prog 140 #[.pointer (some ⟨Bs, 0, none⟩)] (fun x : PrtF (2 ^ k) => #[Value.int .i64 (x.1 : Int)]) (CellK Bs (.int .i64 c)) (fun ys => valsF ys = List.range (2 ^ k))
      (fun pre => ∃ j, j ≤ 2 ^ k ∧ valsF pre = List.range j) (2 ^ k) w := fun l J Jx W hW _ _ hY h0 =>
  partsF1_in n hn l Bs k (2 ^ k) rfl hk8 c hc J Jx (fun pre x W h1 h2 _ => hY pre x W h1 h2) W ((hW.cell (p := ⟨Bs, 0, none⟩) hBs).trans hcl) h0

theorem partsW_any (c : Int) (w : World) : Calls Tryd.prog 120 #[.int .i64 c] w fun e w' => e = .returned (.func (.func 140) #[] #[.pointer (some ⟨w.heap.size, 0, none⟩)]) ∧ w' = w.alloc (.cells #[.int .i64 c] 50) := by
  go_enter Tryd.func120, Tryd.ntmps120
  go_wp2
  go_ret
  exact ⟨rfl, rfl⟩

set_option maxRecDepth 100000 in
theorem sizeW_any (z : Nat) (w : World) (h : z < 256) : Calls Tryd.prog 53 #[.int .i64 (z : Int)] w fun e w' => e = .returned (.int .i64 ((memK 8 z).length : Int)) ∧ w = w' := by
  go_enter Tryd.func53, Tryd.ntmps53
  go_wp2
  go_ret
  refine ⟨ret_int ?_, rfl⟩
  obtain ⟨i, rfl⟩ : ∃ i : Fin 256, z = i.val := ⟨⟨z, h⟩, rfl⟩
  clear h
  revert i
  decide +kernel

end Go.Proofs.YtacglafoahmcnaaDoor

/- It is proved what triedCovers returns; conditions: those of each statement. -/
namespace Go.Proofs.YtacglafoahmcnaaDoor
open Go.RowKit Go.Shelf

attribute [local go_sem] Oper.semAt_some

theorem FamBox.ownF {β : Type} {B D lo : Nat} (hD : D < B) (m : Int) (f : β → List Int) : OwnF B (fun s W => FamBox D lo m (f s) W) := by
  rintro s X Y row ⟨v, hv, hr⟩ hg hrow
  refine ⟨v, hv.kept hg (fun e' => ?_), hr.kept hg ?_⟩
  · have := (hrow D e').1; omega
  · rcases hr.2 with ⟨rfl, _⟩ | ⟨g, cap, cur, rfl, _, hgb, _⟩
    · exact .inl rfl
    · exact .inr fun e' => (hrow g (by simpa [Value.ownBlock] using e'.symm)).2 _ _ hgb

theorem HasBlk.ownF {β : Type} {B b : Nat} (hb : b < B) (cs : Array Value) (t : TypeId) : OwnF B (fun (_ : β) W => HasBlk W b cs t) := fun s X Y row hs hg hrow =>
  hs.kept hg (fun e' => by have := (hrow b e').1; omega)

end Go.Proofs.YtacglafoahmcnaaDoor

/- It is proved what CoverIn of the program and of the reference model returns; conditions: those of each statement. -/
namespace Go.Proofs.YtacglafoahmcnaaDoor
open Go.RowKit

/-- A set is a cover, or something is not as told. -/
def inCov (m : Int) (zs : List Int) (x : Int) : Bool := famIn m zs && (inB x 0 (fullI m) && covB zs x.toNat)

theorem set_nat {k : Nat} {x : Int} (h : inB x 0 (fullI (k : Int)) = true) : ∃ s : Nat, x = (s : Int) ∧ s < 2 ^ k := by
  obtain ⟨h1, h2⟩ := inB_out h
  unfold fullI at h2
  rw [Int.toNat_natCast] at h2
  have e : (2 : Int) ^ k = ((2 ^ k : Nat) : Int) := by norm_cast
  exact ⟨x.toNat, by omega, by omega⟩

theorem fam_nat2 {m : Int} {zs : List Int} (h : famIn m zs = true) : ∃ k : Nat, m = (k : Int) ∧ 1 ≤ k ∧ k ≤ 6 ∧ Sets k zs ∧ zs.length ≤ 8 := by
  obtain ⟨h1, h2, h3, -⟩ := famIn_out h
  obtain ⟨k, rfl⟩ : ∃ k : Nat, m = (k : Int) := ⟨m.toNat, by omega⟩
  exact ⟨k, rfl, by omega, by omega, sets_of_fam h, h3⟩

end Go.Proofs.YtacglafoahmcnaaDoor
