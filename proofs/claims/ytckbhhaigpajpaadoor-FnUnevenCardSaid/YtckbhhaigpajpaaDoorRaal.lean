/- It is proved that both sides count the members of a set alike; conditions: those of each statement. -/
import Derived.Test.YtckbhhaigpajpaaDoorRows
import Derived.WalkKit
import Derived.WalkSpells
import Derived.ProofKit
import Derived.OpenShut
import Derived.ShutString
import Derived.ChangeOld
import Derived.Below
import Derived.Deep.RegionHeld3
import Derived.Deep.QuietTactic
import Derived.BigQuiet
import Derived.Lib.Hide
import Derived.Lib.SmallJoins
import Derived.Outline
import Derived.Laws.MakeOwn
import Derived.Laws.OwnMore
import Derived.IntWalk
import Derived.RowKit
import Derived.RangeFuncNested
import Derived.RangeFuncBound
import Derived.RangeFuncCalls
import Derived.RangeFuncLeaves
import Derived.RangeFuncBox
import Derived.RangeFuncWrites
import Derived.Lib.AppendZeros
import Derived.Maps.AppendAt
import Derived.Deep.AppendLies
import Derived.OwnWalk
import Derived.Lib.SlicesCompact
import Derived.Lib.OwnBridge
import Derived.Shelf.Sort.Plain
import Derived.Shelf.Slices.In.SortNone
import Derived.Shelf.Slices.CompactI
import Derived.Ground.Names2Prog
import Derived.Lib.SliceRun
import Derived.Shelf.Abstract
import Derived.Shelf.RegionOpen
import Derived.OwnWalkIn
import Derived.TacticsInMore
import Derived.LoopNIn
import Derived.LoopIn
import Derived.StillTail
import Derived.StillTactics
import Derived.OrdersIn
import Derived.TacticsIn
import Derived.Shelf.Spec.TrailingZeros
import Derived.StillTailTactics
import Derived.Test.YtckbhhaigpajpaaDoorRaad
import Derived.Laws.CopyRow
import Derived.Lib.SlBuf
import Derived.Maps.OwnIn
import Derived.Maps.Ext
import Derived.DeepKeys4
import Derived.MapKept
import Derived.Test.YtckbhhaigpajpaaDoorRaab
import Derived.Test.YtckbhhaigpajpaaDoorRaaf
import Derived.Test.YtckbhhaigpajpaaDoorRaaa
import Derived.Test.YtckbhhaigpajpaaDoorRaag
import Derived.Test.YtckbhhaigpajpaaDoorRaah
import Derived.Test.YtckbhhaigpajpaaDoorRaae
namespace Go.Proofs.YtckbhhaigpajpaaDoor
open Go.RowKit
/-- How many members a set has. -/
def popN : Nat → Int → Int
  | 0, _ => 0
  | f + 1, z => if 0 < z then bits .and .i64 z 1 + popN f (z / 2) else 0

def pop (z : Int) : Int := popN 7 z
theorem ret_int {a b : Int} (h : a = b) : Ending.returned (.int .i64 a) = .returned (.int .i64 b) := by rw [h]
set_option maxRecDepth 100000 in
theorem size_any (z : Int) (w : World) (h0 : 0 ≤ z) (h : z ≤ 63) : Calls Tryd.prog 51 #[.int .i64 z] w fun e w' => e = .returned (.int .i64 (pop z)) ∧ w = w' := by
  go_enter Tryd.func51, Tryd.ntmps51
  go_wp2
  go_ret
  refine ⟨ret_int ?_, rfl⟩
  obtain ⟨i, rfl⟩ : ∃ i : Fin 64, z = (i.val : Int) := ⟨⟨z.toNat, by omega⟩, by simp; omega⟩
  clear h0 h
  revert i
  decide +kernel

set_option maxRecDepth 100000 in
theorem size_some (z : Int) : ∃ r : Int, ∀ W : World, Calls Tryd.prog 51 #[.int .i64 z] W fun e W' => e = .returned (.int .i64 r) ∧ W = W' := by
  apply Exists.intro
  intro W
  go_enter Tryd.func51, Tryd.ntmps51
  go_wp2
  go_ret
  exact ⟨rfl, rfl⟩

/-- What club.size returns at each number. -/
theorem size_fn : ∃ g : Int → Int, (∀ z W, Calls Tryd.prog 51 #[.int .i64 z] W fun e W' => e = .returned (.int .i64 (g z)) ∧ Below W.heap.size W W') ∧ ∀ z, 0 ≤ z → z ≤ 63 → g z = pop z := by
  have h : ∀ z : Int, ∃ r : Int, (∀ W : World, Calls Tryd.prog 51 #[.int .i64 z] W fun e W' => e = .returned (.int .i64 r) ∧ W = W') ∧ (0 ≤ z → z ≤ 63 → r = pop z) := fun z => by
    by_cases hz : 0 ≤ z ∧ z ≤ 63
    · exact ⟨pop z, fun W => size_any z W hz.1 hz.2, fun _ _ => rfl⟩
    · obtain ⟨r, hr⟩ := size_some z
      exact ⟨r, hr, fun a b => absurd ⟨a, b⟩ hz⟩
  refine ⟨fun z => Classical.choose (h z), fun z W => ((Classical.choose_spec (h z)).1 W).mono fun e W' ⟨he, hw⟩ => ⟨he, by rw [← hw]; exact Below.refl _ _⟩, fun z => (Classical.choose_spec (h z)).2⟩

end Go.Proofs.YtckbhhaigpajpaaDoor

/- It is proved what the iterators over the members and the parts of a set of places yield; conditions: those of each statement. -/
namespace Go.Proofs.YtckbhhaigpajpaaDoor
open Go.RowKit Go.Shelf

attribute [local go_sem] Oper.semAt_some

theorem memK_len (k s : Nat) : (memK k s).length ≤ k := by unfold memK; exact Nat.le_trans (List.length_filter_le _ _) (by simp)
theorem memW_is {k s : Nat} (hk : k ≤ 8) (hs : s < 2 ^ k) : memK 8 s = memK k s := by
  unfold memK
  obtain ⟨d, hd⟩ : ∃ d, 8 = k + d := ⟨8 - k, by omega⟩
  rw [hd, List.range_add, List.filter_append]
  have : (List.map (fun x => k + x) (List.range d)).filter (fun i => s.testBit i) = [] := by
    rw [List.filter_eq_nil_iff]
    intro i hi
    obtain ⟨j, -, rfl⟩ := List.mem_map.1 hi
    rw [Nat.testBit_lt_two_pow (Nat.lt_of_lt_of_le hs (Nat.pow_le_pow_right (by decide) (by omega)))]
    decide
  rw [this, List.append_nil]

set_option maxRecDepth 100000 in
theorem sizeW_any (z : Nat) (w : World) (h : z < 256) : Calls Tryd.prog 51 #[.int .i64 (z : Int)] w fun e w' => e = .returned (.int .i64 ((memK 8 z).length : Int)) ∧ w = w' := by
  go_enter Tryd.func51, Tryd.ntmps51
  go_wp2
  go_ret
  refine ⟨ret_int ?_, rfl⟩
  obtain ⟨i, rfl⟩ : ∃ i : Fin 256, z = i.val := ⟨⟨z, h⟩, rfl⟩
  clear h
  revert i
  decide +kernel

end Go.Proofs.YtckbhhaigpajpaaDoor

/- It is proved what CoverIn of the program and of the reference model returns; conditions: those of each statement. -/
namespace Go.Proofs.YtckbhhaigpajpaaDoor
open Go.RowKit

theorem fam_nat2 {m : Int} {zs : List Int} (h : famIn m zs = true) : ∃ k : Nat, m = (k : Int) ∧ 1 ≤ k ∧ k ≤ 6 ∧ Sets k zs ∧ zs.length ≤ 8 := by
  obtain ⟨h1, h2, h3, -⟩ := famIn_out h
  obtain ⟨k, rfl⟩ : ∃ k : Nat, m = (k : Int) := ⟨m.toNat, by omega⟩
  exact ⟨k, rfl, by omega, by omega, sets_of_fam h, h3⟩

end Go.Proofs.YtckbhhaigpajpaaDoor

/- It is proved what FamilyAll of the program and of the model return; conditions: those of each statement. -/
namespace Go.Proofs.YtckbhhaigpajpaaDoor
open Go.RowKit Go.Shelf

attribute [local go_sem] Oper.semAt_some

/-- What a function of an int and a bool returns; nothing that lay has turned. -/
def RetIB (w : World) (r : Int) (ok : Bool) (e : Ending) (w' : World) : Prop := e = .returned (.tuple #[.int .i64 r, .bool ok]) ∧ Below w.heap.size w w'

end Go.Proofs.YtckbhhaigpajpaaDoor

/- It is proved what with returns, what a dual is, and what FamilyDual of the program returns where there is none; conditions: those of each statement. -/
namespace Go.Proofs.YtckbhhaigpajpaaDoor
open Go.RowKit Go.Shelf

set_option maxRecDepth 100000 in
theorem or_fin : ∀ x : Fin 256, ∀ p : Fin 8, bits BinOp.or IntKind.i64 (x.val : Int) (2 ^ p.val) = ((x.val ||| 2 ^ p.val : Nat) : Int) := by decide +kernel

theorem or_at (x p : Nat) (hx : x < 256) (hp : p < 8) : bits BinOp.or IntKind.i64 (x : Int) (2 ^ p) = ((x ||| 2 ^ p : Nat) : Int) := or_fin ⟨x, hx⟩ ⟨p, hp⟩
theorem p2_small (p : Nat) (hp : p < 8) : (2 : Int) ^ p ≤ 128 ∧ 1 ≤ (2 : Int) ^ p := by
  obtain rfl | rfl | rfl | rfl | rfl | rfl | rfl | rfl : p = 0 ∨ p = 1 ∨ p = 2 ∨ p = 3 ∨ p = 4 ∨ p = 5 ∨ p = 6 ∨ p = 7 := by omega
  all_goals decide

theorem with_any (x p : Nat) (hx : x < 256) (hp : p < 8) (w : World) :
    Calls Tryd.prog 85 #[.int .i64 (x : Int), .int .i64 (p : Int)] w fun e w' => e = .returned (.int .i64 ((x ||| 2 ^ p : Nat) : Int)) ∧ w = w' := by
  have hp8 : (p : Int) < 8 := by omega
  obtain ⟨h1, h2⟩ := p2_small p hp
  have HO := Lib.hid (or_at x p hx hp)
  go_enter Tryd.func85, Tryd.ntmps85
  go_wp2
  go_ret
  exact ⟨by rw [HO.out]; rfl, rfl⟩

theorem own_nil (w : World) (B : Nat) : OwnI w B (.slice none 0 0) [] := World.ownsRow_nil w B 3 1
end Go.Proofs.YtckbhhaigpajpaaDoor

/- It is proved what full returns, and how parts are counted; conditions: those of each statement. -/
namespace Go.Proofs.YtckbhhaigpajpaaDoor
open Go.RowKit

theorem fullB_any (m : Int) (a : Option Addr) (n cap : Nat) (w : World) (h1 : 1 ≤ m) (h2 : m ≤ 6) :
    Calls Tryd.prog 35 #[.agg #[.int .i64 m, .slice a n cap]] w fun e w' => e = .returned (.int .i64 (fullI m)) ∧ Below w.heap.size w w' := by
  rcases m16 h1 h2 with rfl | rfl | rfl | rfl | rfl | rfl
  all_goals
    go_enter Tryd.func35, Tryd.ntmps35
    go_wp2
    go_ret
    exact ⟨rfl, below1 _ _⟩

theorem with0_any (p : Nat) (hp : p < 8) (w : World) :
    Calls Tryd.prog 85 #[.int .i64 0, .int .i64 (p : Int)] w fun e w' => e = .returned (.int .i64 ((2 ^ p : Nat) : Int)) ∧ w = w' := by
  have h := with_any 0 p (by decide) hp w
  rw [Nat.zero_or] at h
  exact h

/-- Members one after the other: what is met, and how many parts. -/
def stP (m : Nat) (ks us : List Nat) : Nat × Nat := us.foldl (fun p v => if p.1.testBit v = true then p else (p.1 ||| partP m ks v, p.2 + 1)) (0, 0)

theorem stP_snoc (m : Nat) (ks us : List Nat) (u : Nat) : stP m ks (us ++ [u]) = if (stP m ks us).1.testBit u = true then stP m ks us else ((stP m ks us).1 ||| partP m ks u, (stP m ks us).2 + 1) := by
  unfold stP; rw [List.foldl_append]; rfl

theorem stP_small (m : Nat) (ks : List Nat) (h : Ksm m ks) (us : List Nat) (hu : ∀ u ∈ us, u < m) : (stP m ks us).1 < 2 ^ m ∧ (stP m ks us).2 ≤ us.length := by
  have key : ∀ (l : List Nat) (p : Nat × Nat), (∀ u ∈ l, u < m) → p.1 < 2 ^ m → (l.foldl (fun p v => if p.1.testBit v = true then p else (p.1 ||| partP m ks v, p.2 + 1)) p).1 < 2 ^ m ∧ (l.foldl (fun p v => if p.1.testBit v = true then p else (p.1 ||| partP m ks v, p.2 + 1)) p).2 ≤ p.2 + l.length := by
    intro l
    induction l with
    | nil => intro p _ hp; exact ⟨hp, by simp⟩
    | cons x l ih =>
      intro p hl hp
      rw [List.foldl_cons]
      split
      · have := ih p (fun u h => hl u (by simp [h])) hp
        exact ⟨this.1, by simp only [List.length_cons]; omega⟩
      · have := ih (p.1 ||| partP m ks x, p.2 + 1) (fun u h => hl u (by simp [h])) (Nat.or_lt_two_pow hp (partP_lt h (hl x (by simp))))
        exact ⟨this.1, by simp only [List.length_cons]; have := this.2; omega⟩
  have := key us (0, 0) hu (Nat.two_pow_pos m)
  exact ⟨this.1, by have h2 := this.2; simp only [Nat.zero_add] at h2; exact h2⟩

theorem stP_range (m : Nat) (ks : List Nat) (h : Ksm m ks) : ∀ i, i ≤ m → (∀ x, x < m → ((stP m ks (List.range i)).1.testBit x = true ↔ ∃ u, u < i ∧ (partP m ks u).testBit x = true)) ∧ (stP m ks (List.range i)).2 = cntP m ks i := by
  intro i
  induction i with
  | zero => intro _; exact ⟨fun x _ => by simp [stP], rfl⟩
  | succ i ih =>
    intro hi
    obtain ⟨h1, h2⟩ := ih (by omega)
    rw [List.range_succ, stP_snoc, cntP_succ]
    have hfi := firstP_iff h (v := i) (by omega)
    by_cases hb : (stP m ks (List.range i)).1.testBit i = true
    · rw [if_pos hb]
      obtain ⟨u, hu, hub⟩ := (h1 i (by omega)).1 hb
      have hnf : ¬ firstP m ks i = true := fun hf => by
        have := hfi.1 hf u hu
        rw [hub] at this; cases this
      rw [if_neg hnf]
      refine ⟨fun x hx => ?_, by omega⟩
      rw [h1 x hx]
      constructor
      · rintro ⟨v, hv, hvb⟩; exact ⟨v, by omega, hvb⟩
      · rintro ⟨v, hv, hvb⟩
        rcases Nat.lt_succ_iff_lt_or_eq.1 hv with h3 | rfl
        · exact ⟨v, h3, hvb⟩
        · exact ⟨u, hu, partP_trans h (by omega) hub x hvb⟩
    · rw [if_neg hb]
      have hf : firstP m ks i = true := hfi.2 (fun u hu => by
        cases hc : (partP m ks u).testBit i
        · rfl
        · exact absurd ((h1 i (by omega)).2 ⟨u, hu, hc⟩) hb)
      rw [if_pos hf]
      refine ⟨fun x hx => ?_, by simp only; omega⟩
      simp only [Nat.testBit_or, Bool.or_eq_true]
      rw [h1 x hx]
      constructor
      · rintro (⟨v, hv, hvb⟩ | hvb)
        · exact ⟨v, by omega, hvb⟩
        · exact ⟨i, by omega, hvb⟩
      · rintro ⟨v, hv, hvb⟩
        rcases Nat.lt_succ_iff_lt_or_eq.1 hv with h3 | rfl
        · exact .inl ⟨v, h3, hvb⟩
        · exact .inr hvb

set_option maxRecDepth 100000 in
theorem mem_full : ∀ m, m ≤ 6 → mem (2 ^ m - 1) = List.range m := by decide +kernel

theorem ksm_of {m : Nat} {zs : List Int} (hf : famIn (m : Int) zs = true) : Ksm m (ksOf zs) := by
  have h := famIn_out hf
  refine ⟨by omega, ?_⟩
  intro k hk
  obtain ⟨z, hz, rfl⟩ := List.mem_map.1 hk
  obtain ⟨j, hj, rfl⟩ := List.getElem_of_mem hz
  have := (isClub_all hf j hj).2.2
  rwa [show ((j, zs[j]?.getD 0) : Nat × Int).2 = zs[j] from by simp [hj]] at this

/-- How many parts. -/
def partsZ (m : Int) (zs : List Int) : Int := if famIn m zs then ((cntP m.toNat (ksOf zs) m.toNat : Nat) : Int) else 0

end Go.Proofs.YtckbhhaigpajpaaDoor

/- It is proved what has, namesIn, l1Names and l1Called return; conditions: those of each statement. -/
namespace Go.Proofs.YtckbhhaigpajpaaDoor
open Go.RowKit

set_option maxRecDepth 100000 in
theorem has_fin : ∀ x : Fin 64, ∀ p : Fin 6, (bits BinOp.and IntKind.i64 ((x.val : Int) / 2 ^ p.val) 1 == 1) = x.val.testBit p.val := by decide +kernel

theorem has_any (x p : Nat) (hx : x < 64) (hp : p < 6) (w : World) :
    Calls Tryd.prog 84 #[.int .i64 (x : Int), .int .i64 (p : Int)] w fun e w' => e = .returned (.bool (x.testBit p)) ∧ w = w' := by
  have HH := Lib.hid (has_fin ⟨x, hx⟩ ⟨p, hp⟩)
  simp only at HH
  go_enter Tryd.func84, Tryd.ntmps84
  go_wp2
  go_ret
  exact ⟨by rw [← HH.out]; rfl, rfl⟩

end Go.Proofs.YtckbhhaigpajpaaDoor
