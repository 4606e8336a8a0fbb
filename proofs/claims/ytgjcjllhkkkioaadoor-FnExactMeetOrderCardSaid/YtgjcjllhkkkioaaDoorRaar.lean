/- It is proved that the greatest pack told club by club is the greatest one of all sets of places; conditions: those of each statement. -/
import Derived.Test.YtgjcjllhkkkioaaDoorRows
import Derived.WalkKit
import Derived.WalkSpells
import Derived.ProofKit
import Derived.OpenShut
import Derived.ShutString
import Derived.ChangeOld
import Derived.Below
import Derived.Deep.RegionHeld3
import Derived.Deep.QuietTactic
import Derived.BigQuiet
import Derived.Lib.Hide
import Derived.Lib.SmallJoins
import Derived.Outline
import Derived.Laws.MakeOwn
import Derived.Laws.OwnMore
import Derived.IntWalk
import Derived.Lib.AppendZeros
import Derived.Maps.AppendAt
import Derived.Deep.AppendLies
import Derived.OwnWalk
import Derived.Lib.SlicesCompact
import Derived.Lib.OwnBridge
import Derived.Shelf.Sort.Plain
import Derived.Shelf.Slices.In.SortNone
import Derived.Shelf.Slices.CompactI
import Derived.Ground.Names2Prog
import Derived.Lib.SliceRun
import Derived.RangeFuncNested
import Derived.RangeFuncBound
import Derived.RangeFuncCalls
import Derived.RangeFuncLeaves
import Derived.RangeFuncBox
import Derived.Shelf.Abstract
import Derived.Shelf.RegionOpen
import Derived.OwnWalkIn
import Derived.TacticsInMore
import Derived.LoopNIn
import Derived.LoopIn
import Derived.StillTail
import Derived.StillTactics
import Derived.OrdersIn
import Derived.TacticsIn
import Derived.Shelf.Spec.TrailingZeros
import Derived.StillTailTactics
import Derived.RowKit
import Derived.Laws.CopyRow
import Derived.Lib.SlBuf
import Derived.RangeFuncWrites
import Derived.Maps.OwnIn
import Derived.Maps.Ext
import Derived.DeepKeys4
import Derived.MapKept
import Derived.Test.YtgjcjllhkkkioaaDoorRaad
import Derived.Test.YtgjcjllhkkkioaaDoorRaah
import Derived.Laws.BitsAllLaws
import Derived.Test.YtgjcjllhkkkioaaDoorRaaf
import Derived.Test.YtgjcjllhkkkioaaDoorRaaq
import Derived.Test.YtgjcjllhkkkioaaDoorRaai
namespace Go.Proofs.YtgjcjllhkkkioaaDoor
open Go.RowKit

/-- The places of a set, of the first k. -/
def memK (k p : Nat) : List Nat := (List.range k).filter fun i => p.testBit i

theorem memK_two (k b q : Nat) (hb : b < 2) : memK (k + 1) (2 * q + b) = (if b = 1 then [0] else []) ++ (memK k q).map (· + 1) := by
  unfold memK
  rw [List.range_succ_eq_map, List.filter_cons, List.filter_map]
  have h0 : (2 * q + b).testBit 0 = decide (b = 1) := by
    rw [Nat.testBit_zero]
    congr 1
    rw [eq_iff_iff]
    omega
  have h1 : ((fun i => (2 * q + b).testBit i) ∘ Nat.succ) = fun i => q.testBit i := by
    funext i
    simp only [Function.comp, Nat.succ_eq_add_one, Nat.testBit_succ]
    rw [show (2 * q + b) / 2 = q by omega]
  rw [h0, h1]
  by_cases h : b = 1
  · simp [h]
  · simp [h]

/-- No two clubs at some places have a common member, nor one with a set. -/
def packB (zs : List Int) : List Nat → Nat → Bool
  | [], _ => true
  | p :: ps, met => decide ((zs[p]?.getD 0).toNat &&& met = 0) && packB zs ps (met ||| (zs[p]?.getD 0).toNat)

theorem packB_shift (z : Int) (zs : List Int) : ∀ (ps : List Nat) (met : Nat), packB (z :: zs) (ps.map (· + 1)) met = packB zs ps met
  | [], _ => rfl
  | p :: ps, met => by
    rw [List.map_cons, packB, packB, packB_shift z zs ps]
    rfl

/-- .. told club by club. -/
def packM : List Int → Nat → Nat
  | [], _ => 0
  | z :: zs, used => if z.toNat &&& used = 0 then max (packM zs used) (1 + packM zs (used ||| z.toNat)) else packM zs used

theorem packM_le : ∀ (zs : List Int) (used : Nat), packM zs used ≤ zs.length
  | [], _ => Nat.le_refl _
  | z :: zs, used => by
    have h1 := packM_le zs used
    have h2 := packM_le zs (used ||| z.toNat)
    rw [packM, List.length_cons]
    split <;> omega

def IsMost (zs : List Int) (met n : Nat) : Prop := (∀ q, q < 2 ^ zs.length → packB zs (memK zs.length q) met = true → (memK zs.length q).length ≤ n) ∧ ∃ q, q < 2 ^ zs.length ∧ packB zs (memK zs.length q) met = true ∧ (memK zs.length q).length = n
theorem packM_most : ∀ (zs : List Int) (met : Nat), IsMost zs met (packM zs met)
  | [], met => ⟨fun q _ _ => by simp [memK], 0, by simp, rfl, rfl⟩
  | z :: zs, met => by
    obtain ⟨a1, q1, a2, a3, a4⟩ := packM_most zs met
    obtain ⟨b1, q2, b2, b3, b4⟩ := packM_most zs (met ||| z.toNat)
    have h00 : ∀ q, packB (z :: zs) (memK (zs.length + 1) (2 * q + 0)) met = packB zs (memK zs.length q) met := fun q => by
      rw [memK_two _ 0 q (by decide), if_neg (by decide), List.nil_append, packB_shift]
    have h01 : ∀ q, (memK (zs.length + 1) (2 * q + 0)).length = (memK zs.length q).length := fun q => by
      rw [memK_two _ 0 q (by decide), if_neg (by decide), List.nil_append, List.length_map]
    have h10 : ∀ q, packB (z :: zs) (memK (zs.length + 1) (2 * q + 1)) met = (decide (z.toNat &&& met = 0) && packB zs (memK zs.length q) (met ||| z.toNat)) := fun q => by
      rw [memK_two _ 1 q (by decide), if_pos rfl, List.singleton_append, packB, packB_shift]
      rfl
    have h11 : ∀ q, (memK (zs.length + 1) (2 * q + 1)).length = 1 + (memK zs.length q).length := fun q => by
      rw [memK_two _ 1 q (by decide), if_pos rfl, List.singleton_append, List.length_cons, List.length_map]; omega
    have hp : 2 ^ (z :: zs).length = 2 * 2 ^ zs.length := by rw [List.length_cons, Nat.pow_succ]; omega
    constructor
    · intro q hq hb
      rw [List.length_cons] at hb ⊢
      rcases Nat.mod_two_eq_zero_or_one q with h | h
      · obtain ⟨r, rfl⟩ : ∃ r, q = 2 * r + 0 := ⟨q / 2, by omega⟩
        rw [h00] at hb
        rw [h01]
        have := a1 r (by omega) hb
        rw [packM]; split <;> omega
      · obtain ⟨r, rfl⟩ : ∃ r, q = 2 * r + 1 := ⟨q / 2, by omega⟩
        rw [h10, Bool.and_eq_true, decide_eq_true_eq] at hb
        rw [h11, packM, if_pos hb.1]
        have := b1 r (by omega) hb.2
        omega
    · rw [packM]
      by_cases hz : z.toNat &&& met = 0
      · rw [if_pos hz]
        by_cases hm : packM zs met ≤ 1 + packM zs (met ||| z.toNat)
        · refine ⟨2 * q2 + 1, by omega, ?_, ?_⟩
          · rw [List.length_cons, h10, b3, hz]; rfl
          · rw [List.length_cons, h11, b4]; omega
        · refine ⟨2 * q1 + 0, by omega, ?_, ?_⟩
          · rw [List.length_cons, h00, a3]
          · rw [List.length_cons, h01, a4]; omega
      · rw [if_neg hz]
        refine ⟨2 * q1 + 0, by omega, ?_, ?_⟩
        · rw [List.length_cons, h00, a3]
        · rw [List.length_cons, h01, a4]

/-- .. and set by set. -/
def mostTo (zs : List Int) (n : Nat) : Nat := (List.range n).foldl (fun b q => if packB zs (memK zs.length q) 0 then max b (memK zs.length q).length else b) 0

theorem mostTo_succ (zs : List Int) (n : Nat) : mostTo zs (n + 1) = if packB zs (memK zs.length n) 0 then max (mostTo zs n) (memK zs.length n).length else mostTo zs n := by
  simp [mostTo, List.range_succ]

theorem mostTo_ge (zs : List Int) : ∀ n q, q < n → packB zs (memK zs.length q) 0 = true → (memK zs.length q).length ≤ mostTo zs n
  | 0, q, h, _ => by omega
  | n + 1, q, h, hb => by
    rw [mostTo_succ]
    by_cases e : q = n
    · subst e; rw [if_pos hb]; omega
    · have := mostTo_ge zs n q (by omega) hb
      split <;> omega

theorem mostTo_le (zs : List Int) (N : Nat) (h : ∀ q, q < 2 ^ zs.length → packB zs (memK zs.length q) 0 = true → (memK zs.length q).length ≤ N) : ∀ n, n ≤ 2 ^ zs.length → mostTo zs n ≤ N
  | 0, _ => by simp [mostTo]
  | n + 1, hn => by
    have h1 := mostTo_le zs N h n (by omega)
    rw [mostTo_succ]
    split
    · rename_i hb
      have := h n (by omega) hb
      omega
    · exact h1

theorem most_all (zs : List Int) : mostTo zs (2 ^ zs.length) = packM zs 0 := by
  obtain ⟨h1, q, h2, h3, h4⟩ := packM_most zs 0
  have := mostTo_ge zs _ q h2 h3
  have := mostTo_le zs _ h1 _ (Nat.le_refl _)
  omega

theorem mostTo_small (zs : List Int) (n : Nat) (hn : n ≤ 2 ^ zs.length) : mostTo zs n ≤ zs.length :=
  mostTo_le zs _ (fun q _ _ => by unfold memK; exact Nat.le_trans (List.length_filter_le _ _) (by simp)) n hn

end Go.Proofs.YtgjcjllhkkkioaaDoor

/- It is proved what CoverPack of the program returns; conditions: those of each statement. -/
namespace Go.Proofs.YtgjcjllhkkkioaaDoor
open Go.RowKit Go.Shelf

attribute [local go_sem] Oper.semAt_some

theorem n08 {n : Nat} (h : n ≤ 8) : n = 0 ∨ n = 1 ∨ n = 2 ∨ n = 3 ∨ n = 4 ∨ n = 5 ∨ n = 6 ∨ n = 7 ∨ n = 8 := by omega
set_option maxRecDepth 100000 in
theorem places_any (m : Int) (a : Option Addr) (n c : Nat) (w : World) (hn : n ≤ 8) :
    Calls Tryd.prog 54 #[.agg #[.int .i64 m, .slice a n c]] w fun e w' => e = .returned (.int .i64 ((2 ^ n - 1 : Nat) : Int)) ∧ w' = w.alloc (.cells #[.int .i64 m, .slice a n c] 26) := by
  rcases n08 hn with rfl | rfl | rfl | rfl | rfl | rfl | rfl | rfl | rfl
  all_goals
    go_enter Tryd.func54, Tryd.ntmps54
    go_wp2
    go_ret
    exact ⟨rfl, rfl⟩

/-- The greatest pack of some sets of places. -/
def mostOf (zs : List Int) (qs : List Nat) : Nat := qs.foldl (fun b q => if packB zs (memK zs.length q) 0 then max b (memK zs.length q).length else b) 0

theorem mostOf_snoc (zs : List Int) (qs : List Nat) (q : Nat) : mostOf zs (qs ++ [q]) = if packB zs (memK zs.length q) 0 then max (mostOf zs qs) (memK zs.length q).length else mostOf zs qs := by
  simp [mostOf]

theorem mostOf_all (zs : List Int) : mostOf zs (List.range (2 ^ zs.length)) = packM zs 0 := most_all zs
def packZ (m : Int) (zs : List Int) : Int := if famIn m zs then ((packM zs 0 : Nat) : Int) else 0
end Go.Proofs.YtgjcjllhkkkioaaDoor

/- It is proved what the operations on sets of at most eight members are in terms of their bits; conditions: those of each statement. -/
namespace Go.Proofs.YtgjcjllhkkkioaaDoor
open Go.RowKit Go.Shelf

theorem and_at8 {x y : Nat} (hx : x < 256) (hy : y < 256) : bits .and .i64 (x : Int) (y : Int) = ((x &&& y : Nat) : Int) := (bits_nat .i64 8 (by decide) (fun n h0 h1 => by rw [IntKind.wrap_i64]; omega) x y hx hy).1
theorem or_at8 {x y : Nat} (hx : x < 256) (hy : y < 256) : bits .or .i64 (x : Int) (y : Int) = ((x ||| y : Nat) : Int) := (bits_nat .i64 8 (by decide) (fun n h0 h1 => by rw [IntKind.wrap_i64]; omega) x y hx hy).2
/-- A set without another one. -/
def anN (a b : Nat) : Nat := a &&& (2 ^ 64 - (b + 1))

theorem anN_bit (a b i : Nat) (ha : a < 256) (hb : b < 256) : (anN a b).testBit i = (a.testBit i && !b.testBit i) := by
  unfold anN
  rw [Nat.testBit_and, Nat.testBit_two_pow_sub_succ (by omega)]
  by_cases hi : i < 64
  · simp [hi]
  · have : a.testBit i = false := Nat.testBit_lt_two_pow (Nat.lt_of_lt_of_le ha (Nat.le_trans (by decide : 256 ≤ 2 ^ 8) (Nat.pow_le_pow_right (by decide) (by omega))))
    simp [this]

theorem anN_le (a b : Nat) : anN a b ≤ a := Nat.and_le_left
theorem an_at8 {a b : Nat} (ha : a < 256) (hb : b < 256) : bits .andNot .i64 (a : Int) (b : Int) = ((anN a b : Nat) : Int) := by
  have h2 := anN_le a b
  show IntKind.i64.wrap ((BitVec.ofInt 64 (a : Int) &&& ~~~BitVec.ofInt 64 (b : Int)).toNat : Int) = _
  rw [BitVec.toNat_and, BitVec.toNat_not, ofInt_u64 a (by omega), ofInt_u64 b (by omega), IntKind.wrap_i64]
  have e : 2 ^ 64 - 1 - b = 2 ^ 64 - (b + 1) := by omega
  rw [e]
  unfold anN at h2 ⊢
  omega

theorem bits_sub (a b : Nat) : a &&& b = a ↔ ∀ i, a.testBit i = true → b.testBit i = true := by
  constructor
  · intro h i hi
    have := congrArg (fun n => n.testBit i) h
    simp only [Nat.testBit_and, hi, Bool.true_and] at this
    exact this
  · intro h
    apply Nat.eq_of_testBit_eq
    intro i
    rw [Nat.testBit_and]
    cases h1 : a.testBit i
    · simp
    · simp [h i h1]

theorem an_zero {a b : Nat} (ha : a < 256) (hb : b < 256) : anN a b = 0 ↔ a &&& b = a := by
  rw [bits_sub]
  constructor
  · intro h i hi
    have := anN_bit a b i ha hb
    rw [h, Nat.zero_testBit, hi, Bool.true_and] at this
    cases h2 : b.testBit i <;> simp_all
  · intro h
    apply Nat.eq_of_testBit_eq
    intro i
    rw [anN_bit a b i ha hb, Nat.zero_testBit]
    cases h1 : a.testBit i
    · rfl
    · rw [h i h1]; rfl

/-- A set is a part of another one. -/
def subN (a b : Nat) : Bool := decide (a &&& b = a)

theorem subN_iff (a b : Nat) : subN a b = true ↔ ∀ i, a.testBit i = true → b.testBit i = true := by unfold subN; rw [decide_eq_true_eq, bits_sub]
theorem leG8 {o z : Nat} (ho : o < 256) (hz : z < 256) : leG (o : Int) (z : Int) = subN o z := by
  unfold leG subN
  rw [an_at8 ho hz, Bool.eq_iff_iff, beq_iff_eq, decide_eq_true_eq, ← an_zero ho hz]
  omega

theorem an_ne {a b : Nat} (ha : a < 256) (hb : b < 256) : (((anN a b : Nat) : Int) != 0) = !subN a b := by
  unfold subN
  rw [Bool.eq_iff_iff, bne_iff_ne, Bool.not_eq_true', decide_eq_false_iff_not, ← an_zero ha hb]
  omega

theorem p256 {m s : Nat} (hm : m ≤ 8) (hs : s < 2 ^ m) : s < 256 := Nat.lt_of_lt_of_le hs (Nat.pow_le_pow_right (n := 2) (by decide) hm)
set_option maxRecDepth 100000 in
theorem has8_fin : ∀ x : Fin 256, ∀ p : Fin 8, (bits BinOp.and IntKind.i64 ((x.val : Int) / 2 ^ p.val) 1 == 1) = x.val.testBit p.val := by decide +kernel

theorem has8_any (x p : Nat) (hx : x < 256) (hp : p < 8) (w : World) :
    Calls Tryd.prog 81 #[.int .i64 (x : Int), .int .i64 (p : Int)] w fun e w' => e = .returned (.bool (x.testBit p)) ∧ w = w' := by
  have HH := Lib.hid (has8_fin ⟨x, hx⟩ ⟨p, hp⟩)
  simp only at HH
  go_enter Tryd.func81, Tryd.ntmps81
  go_wp2
  go_ret
  exact ⟨by rw [← HH.out]; rfl, rfl⟩

theorem wo8_at {x p : Nat} (hx : x < 256) (hp : p < 8) : bits .andNot .i64 (x : Int) (2 ^ p) = ((anN x (2 ^ p) : Nat) : Int) := by
  have h2 : (2 : Nat) ^ p < 256 := Nat.pow_lt_pow_right (a := 2) (n := 8) (by decide) hp
  have := an_at8 hx h2
  rw [← this]
  norm_cast

theorem without8_any (x p : Nat) (hx : x < 256) (hp : p < 8) (w : World) :
    Calls Tryd.prog 66 #[.int .i64 (x : Int), .int .i64 (p : Int)] w fun e w' => e = .returned (.int .i64 ((anN x (2 ^ p) : Nat) : Int)) ∧ w = w' := by
  have hp8 : (p : Int) < 8 := by omega
  obtain ⟨h1, h2⟩ := p2_small p (by omega)
  have HO := Lib.hid (wo8_at hx hp)
  go_enter Tryd.func66, Tryd.ntmps66
  go_wp2
  go_ret
  exact ⟨by rw [HO.out]; rfl, rfl⟩

theorem partOf8_any (x y : Nat) (hx : x < 256) (hy : y < 256) (w : World) : Calls Tryd.prog 76 #[.int .i64 (x : Int), .int .i64 (y : Int)] w fun e w' => e = .returned (.bool (subN x y)) ∧ w = w' := by
  have := partOf_any (x : Int) (y : Int) w
  rwa [leG8 hx hy] at this

set_option maxRecDepth 100000 in
theorem full8_any (k : Nat) (a : Option Addr) (n c : Nat) (w : World) (hk : k ≤ 8) :
    Calls Tryd.prog 67 #[.agg #[.int .i64 (k : Int), .slice a n c]] w fun e w' => e = .returned (.int .i64 ((2 ^ k - 1 : Nat) : Int)) ∧ w' = w.alloc (.cells #[.int .i64 (k : Int), .slice a n c] 26) := by
  rcases n08 hk with rfl | rfl | rfl | rfl | rfl | rfl | rfl | rfl | rfl
  all_goals
    go_enter Tryd.func67, Tryd.ntmps67
    go_wp2
    go_ret
    exact ⟨rfl, rfl⟩

theorem mem8_iff {s v : Nat} (hs : s < 256) : v ∈ memK 8 s ↔ s.testBit v = true := by
  unfold memK
  rw [List.mem_filter, List.mem_range]
  constructor
  · exact fun h => h.2
  · intro h
    refine ⟨?_, h⟩
    apply Decidable.byContradiction
    intro hv
    rw [Nat.testBit_lt_two_pow (Nat.lt_of_lt_of_le hs (Nat.le_trans (by decide : 256 ≤ 2 ^ 8) (Nat.pow_le_pow_right (by decide) (by omega))))] at h
    cases h

end Go.Proofs.YtgjcjllhkkkioaaDoor
