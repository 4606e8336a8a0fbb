/- It is proved what the reference model's AlikeOrbits returns; conditions: those of each statement. -/
import Derived.Maps.AppendAt
import Derived.RowKit
import Derived.Laws.CopyRow
import Derived.Lib.SlBuf
import Derived.Deep.QuietTactic
import Derived.RangeFuncNested
import Derived.RangeFuncBound
import Derived.RangeFuncCalls
import Derived.RangeFuncLeaves
import Derived.RangeFuncBox
import Derived.RangeFuncWrites
import Derived.StillTailTactics
import Derived.Maps.OwnIn
import Derived.Maps.Ext
import Derived.DeepKeys4
import Derived.MapKept
import Derived.Test.YtjclfpcnfmpjdaaDoorRows
import Derived.WalkKit
import Derived.WalkSpells
import Derived.ProofKit
import Derived.OpenShut
import Derived.ShutString
import Derived.ChangeOld
import Derived.Below
import Derived.Deep.RegionHeld3
import Derived.BigQuiet
import Derived.Lib.Hide
import Derived.Lib.SmallJoins
import Derived.Outline
import Derived.Laws.MakeOwn
import Derived.Laws.OwnMore
import Derived.IntWalk
import Derived.Lib.AppendZeros
import Derived.Deep.AppendLies
import Derived.OwnWalk
import Derived.Lib.SlicesCompact
import Derived.Lib.OwnBridge
import Derived.OrdersIn
import Derived.TacticsIn
import Derived.Shelf.Sort.Plain
import Derived.Shelf.Slices.In.SortNone
import Derived.Shelf.Slices.CompactI
import Derived.Ground.Names2Prog
import Derived.Shelf.Abstract
import Derived.Shelf.RegionOpen
import Derived.OwnWalkIn
import Derived.TacticsInMore
import Derived.LoopNIn
import Derived.LoopIn
import Derived.StillTail
import Derived.StillTactics
import Derived.Shelf.Spec.TrailingZeros
import Derived.Test.YtjclfpcnfmpjdaaDoorMsa
import Derived.Test.YtjclfpcnfmpjdaaDoorMsb
namespace Go.Proofs.YtjclfpcnfmpjdaaDoor
open Go.RowKit Go.Shelf

/-- As which the names that keep a family's clubs call the member v. -/
def calC (k : Nat) (zs : List Int) (v : Nat) : Nat := (ownL k zs).foldl (fun s p => s ||| 2 ^ (p[v]?.getD 0)) 0

/-- The sets, each once, and all of their members. -/
def orbG (C : Nat → Nat) : Nat → List Nat × Nat
  | 0 => ([], 0)
  | v + 1 => if (orbG C v).2.testBit v then orbG C v else ((orbG C v).1 ++ [C v], (orbG C v).2 ||| C v)

def orbZ (m : Int) (zs : List Int) : List Int := if famIn m zs then nI (orbG (calC m.toNat zs) m.toNat).1 else []
theorem orbG_len (C : Nat → Nat) : ∀ v, (orbG C v).1.length ≤ v
  | 0 => by simp [orbG]
  | v + 1 => by
    have := orbG_len C v
    rw [orbG]
    split
    · omega
    · simp; omega

theorem or_lt64 {x y : Nat} (hx : x < 64) (hy : y < 64) : x ||| y < 64 := Nat.or_lt_two_pow (n := 6) hx hy
theorem orbG_lt {C : Nat → Nat} (hC : ∀ v, C v < 64) : ∀ v, (orbG C v).2 < 64
  | 0 => by simp [orbG]
  | v + 1 => by
    have := orbG_lt hC v
    rw [orbG]
    split
    · exact this
    · exact or_lt64 this (hC v)

theorem orbG_yes {C : Nat → Nat} {v : Nat} (h : (orbG C v).2.testBit v = true) : orbG C (v + 1) = orbG C v := by rw [orbG, if_pos h]
theorem orbG_no {C : Nat → Nat} {v : Nat} (h : (orbG C v).2.testBit v = false) : orbG C (v + 1) = ((orbG C v).1 ++ [C v], (orbG C v).2 ||| C v) := by rw [orbG, if_neg (by simp [h])]
theorem foldl_lt64 (v : Nat) : ∀ (L : List (List Nat)) (s : Nat), s < 64 → (∀ p ∈ L, p[v]?.getD 0 < 6) → L.foldl (fun s p => s ||| 2 ^ (p[v]?.getD 0)) s < 64
  | [], s, hs, _ => hs
  | p :: L, s, hs, h => by
    rw [List.foldl_cons]
    exact foldl_lt64 v L _ (or_lt64 hs (Nat.pow_lt_pow_right (by decide) (h p (by simp)))) (fun q hq => h q (by simp [hq]))

theorem ownL_lt {k : Nat} {zs : List Int} (hk : k ≤ 6) {p : List Nat} (h : p ∈ ownL k zs) : p.length = k ∧ ∀ v : Nat, p[v]?.getD 0 < 6 := by
  have h1 := (List.mem_filter.1 h).1
  rw [← lvlL_perms] at h1
  refine ⟨lvlL_in h1, fun v => ?_⟩
  by_cases hv : v < p.length
  · rw [List.getElem?_eq_getElem hv, Option.getD_some]
    have := lvlL_lt h1 _ (List.getElem_mem hv)
    omega
  · rw [List.getElem?_eq_none (by omega)]; decide

theorem calC_lt {k : Nat} {zs : List Int} (hk : k ≤ 6) (v : Nat) : calC k zs v < 64 := foldl_lt64 v _ 0 (by decide) (fun _ hp => (ownL_lt hk hp).2 v)
/-- An int is put behind a row of the call's own. -/
theorem app_int {W : World} {B : Nat} {a : Option Addr} {n c : Nat} {xs : List Int} (h : OwnN W B a n c xs) (hBW : B ≤ W.heap.size) (hn : n ≤ 100000) (x : Int) :
    ∃ a5 c5 w5, (Builtin.append_ #[23, 23] 23 #[.slice a n c, .slice (some ⟨W.heap.size, 0, none⟩) 1 1]).run Tryd.prog (W.alloc (.cells #[.int .i64 x] 3)) = .ok (.slice a5 (n + 1) c5) w5 ∧ OwnN w5 B a5 (n + 1) c5 (xs ++ [x]) ∧
      ∀ X : Nat → Prop, (∀ g, (Value.slice a n c).ownBlock = some g → X g) → (∀ g, W.heap.size ≤ g → X g) → But X W w5 ∧ ∀ g, (Value.slice a5 (n + 1) c5).ownBlock = some g → X g := by
  obtain ⟨i0, hi0, hz0, hz1, hz2⟩ := info_parts Tryd.info3
  have hv1 := World.ownsRow.alloc h (.cells #[.int .i64 x] 3)
  have hnb := alloc_new W (.cells #[.int .i64 x] 3)
  have hsz : (W.alloc (.cells #[.int .i64 x] 3)).heap.size = W.heap.size + 1 := by simp
  obtain ⟨v', w5, hr5, h2, h3, _, h4⟩ := run_append_own_at (P := Tryd.prog) (w := W.alloc (.cells #[.int .i64 x] 3)) B 23 23 3 i0 (.int .i64 0) 1 8 Tryd.underlying23 hi0 hz0 hz1 hz2 rfl (by decide) (.slice a n c) n _ hv1 ⟨W.heap.size, 0, none⟩ 1 1 [.int .i64 x] (by simp)
    (fun j u hu => by
      have hj : j = 0 := by have := (List.getElem?_eq_some_iff.1 hu).1; simpa using this
      subst hj
      simp at hu
      subst hu
      exact blk_cell hnb 0) (by simp [Value.oneCell']) (by simp only [maxLen]; omega) (by omega) (by omega)
  obtain ⟨a5, c5, rfl⟩ : ∃ a5 c5, v' = .slice a5 (n + 1) c5 := by
    rcases h2.2 with ⟨rfl, e⟩ | ⟨g, cap, cur, rfl, _⟩
    · omega
    · exact ⟨_, _, rfl⟩
  refine ⟨a5, c5, w5, hr5, own_more h2, fun X hX1 hX2 => ⟨(But.alloc W _).trans (But.of_grownBy h3 (fun r hr _ => hX1 r hr)), fun g hg => ?_⟩⟩
  rcases h4 with h | h
  · exact hX1 g (h ▸ hg)
  · rw [h, hsz] at hg; injection hg with e; exact hX2 g (by omega)

theorem but_cell {X : Nat → Prop} {W W' : World} (h : But X W W') {p : Addr} (hl : p.block < W.heap.size) (hX : ¬ X p.block) : W'.cell? p = W.cell? p := World.cell?_of_block (w := W) (h.same p.block hl hX)
/-- What lies in rows is there still where only other blocks were written. -/
theorem Rws.cellBut {W W' : World} {B : Nat} {oa : Option Addr} {n oc : Nat} {L : List (List Int)} {X : Nat → Prop} (h : Rws W B (.slice oa n oc) L) (hb : But X W W') (hX : ∀ g, B ≤ g → g < W.heap.size → ¬ X g) {i : Nat} (hi : i < L.length) {v : Nat} (hv : v < (L[i]?.getD []).length) :
    ∃ g g' c', oa = some ⟨g, 0, none⟩ ∧ W'.cell? ⟨g, i, none⟩ = some (.slice (some ⟨g', 0, none⟩) (L[i]?.getD []).length c') ∧ W'.cell? ⟨g', v, none⟩ = some (.int .i64 ((L[i]?.getD [])[v]?.getD 0)) := by
  obtain ⟨g, a', c', e, hc, ho⟩ := h.at_ hi
  obtain ⟨vals, h1, -⟩ := h
  subst e
  obtain ⟨l1, l2⟩ := World.ownsRow.lt h1 g rfl
  obtain ⟨g', rfl, l3, l4⟩ := ho.addr (by omega)
  have hcv : W.cell? ⟨g', v, none⟩ = some (.int .i64 ((L[i]?.getD [])[v]?.getD 0)) := by
    rw [World.ownsRow.cellAt ho v (by simpa using hv), List.getElem?_map, List.getElem?_eq_getElem hv]; rfl
  refine ⟨g, g', c', rfl, ?_, ?_⟩
  · rw [but_cell hb (p := ⟨g, i, none⟩) l2 (hX g l1 l2)]; exact hc
  · rw [but_cell hb (p := ⟨g', v, none⟩) l4 (hX g' l3 l4)]; exact hcv

end Go.Proofs.YtjclfpcnfmpjdaaDoor
