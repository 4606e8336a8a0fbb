/- It is proved what allNames yields; conditions: those of each statement. -/
import Derived.RowKit
import Derived.Laws.CopyRow
import Derived.Lib.SlBuf
import Derived.RangeFuncNested
import Derived.RangeFuncBound
import Derived.RangeFuncCalls
import Derived.RangeFuncLeaves
import Derived.RangeFuncBox
import Derived.RangeFuncWrites
import Derived.StillTailTactics
import Derived.Test.YtgjcjllhkkkioaaDoorRows
import Derived.WalkKit
import Derived.WalkSpells
import Derived.ProofKit
import Derived.OpenShut
import Derived.ShutString
import Derived.ChangeOld
import Derived.Below
import Derived.Deep.RegionHeld3
import Derived.Deep.QuietTactic
import Derived.BigQuiet
import Derived.Lib.Hide
import Derived.Lib.SmallJoins
import Derived.Outline
import Derived.Laws.MakeOwn
import Derived.Laws.OwnMore
import Derived.IntWalk
import Derived.Shelf.Abstract
import Derived.Shelf.RegionOpen
import Derived.OwnWalkIn
import Derived.TacticsInMore
import Derived.LoopNIn
import Derived.LoopIn
import Derived.Maps.AppendAt
import Derived.Deep.AppendLies
import Derived.OwnWalk
import Derived.StillTail
import Derived.StillTactics
import Derived.OrdersIn
import Derived.TacticsIn
import Derived.Shelf.Spec.TrailingZeros
import Derived.Test.YtgjcjllhkkkioaaDoorRaab
import Derived.Test.YtgjcjllhkkkioaaDoorRaac
import Derived.Test.YtgjcjllhkkkioaaDoorRaad
import Derived.Test.YtgjcjllhkkkioaaDoorRaag
import Derived.Test.YtgjcjllhkkkioaaDoorRaap
import Derived.Test.YtgjcjllhkkkioaaDoorRaaa
import Derived.Deep.RegionLaw
import Derived.Lib.AppendZeros
import Derived.Lib.SlicesCompact
import Derived.Lib.OwnBridge
import Derived.Shelf.Sort.Plain
import Derived.Shelf.Slices.In.SortNone
import Derived.Shelf.Slices.CompactI
import Derived.Ground.Names2Prog
namespace Go.Proofs.YtgjcjllhkkkioaaDoor
open Go.RowKit Go.Shelf

set_option maxRecDepth 100000 in
theorem mem_full_fin : ∀ m : Fin 7, mem (2 ^ m.val - 1) = List.range m.val := by decide +kernel

theorem mem_fullR (m : Nat) (hm : m ≤ 6) : mem (2 ^ m - 1) = List.range m := mem_full_fin ⟨m, by omega⟩
theorem full_nat (m : Nat) : fullI (m : Int) = ((2 ^ m - 1 : Nat) : Int) := by
  have h1 : 1 ≤ 2 ^ m := Nat.one_le_two_pow
  have : ((2 ^ m - 1 : Nat) : Int) = ((2 ^ m : Nat) : Int) - 1 := by omega
  rw [this]; simp [fullI]

theorem run_make0 (m : Nat) (hm : m ≤ 6) (w : World) : (Instr.makeSlice 22 (.int .i64 0) (.int .i64 (m : Int))).run Tryd.prog w = .ok (.slice (some ⟨w.heap.size, 0, none⟩) 0 m) (w.alloc (.cells (iv (List.replicate m 0)) 3)) := by
  obtain ⟨i0, hi0, hz0, hz1, hz2⟩ := info_parts Tryd.info3
  have := run_make (P := Tryd.prog) w 22 3 i0 (.int .i64 0) Tryd.underlying22 hi0 hz0 .i64 .i64 0 (m : Int) (Int.le_refl _) (by omega) (by rw [hz2]; omega) (by omega)
  rw [this, hz1]
  have e : madeCells (Value.int .i64 0).cells ((m : Int).toNat * 1) = iv (List.replicate m 0) := by
    apply Array.toList_inj.1
    rw [show (Value.int .i64 0).cells = #[Value.int .i64 0] from rfl, toList_madeCells_one]; simp [iv]
  rw [e]; rfl

theorem store_new (w : World) (n : Nat) (hn : n = w.heap.size) (u v : Value) (t : TypeId) (hv : v.oneCell' = true) : (store ⟨n, 0, none⟩ v).run Tryd.prog (w.alloc (.cells #[u] t)) = .ok () (w.alloc (.cells #[v] t)) := by
  subst hn
  have q : Boxed (w.alloc (.cells #[u] t)) w.heap.size t u := Boxed.new w t u
  rw [run_store _ _ _ _ _ hv, q.cell]
  simp only [q.frozen]
  rw [World.setCell_alloc_new]
  rfl

set_option maxRecDepth 100000 in
set_option maxHeartbeats 4000000 in
theorem allNames1_in (m b n : Nat) (hm0 : 1 ≤ m) (hm : m ≤ 6) (hb1 : 1 < b) (Bm : Nat) (w : World) (hBm : Bm < w.heap.size) (hc : w.cell? ⟨Bm, 0, none⟩ = some (.int .i64 (m : Int))) (hT : Tab w) :
    SeqCells n Tryd.prog 69 #[.pointer (some ⟨Bm, 0, none⟩)] (fun x : Value × List Nat => #[x.1]) b (OkN m) (fun xs => xs.map (·.2) = permsL m (List.range m)) (6 ^ m) w := by
  intro l J W hW hl1 hl2 hb2 hJ hY h0
  refine callsIn_wide.2 ?_
  have hT1 := hT.lt
  have hTW : Tab W := hT.below hW (by omega)
  have hcW := (hW.cell (p := ⟨Bm, 0, none⟩) hBm).trans hc
  have hBW : Bm < W.heap.size := Nat.lt_of_lt_of_le hBm hW.size
  have hmk := run_make0 m hm
  have hlen : (mem (2 ^ m - 1)).length = m := by rw [mem_fullR m hm, List.length_range]
  have h63 : 2 ^ m - 1 < 64 := by have := Nat.pow_le_pow_right (n := 2) (by decide) hm; omega
  obtain ⟨W4, hW4, q0, q1, q2, q3, hs4, hb4⟩ : ∃ W4, (((W.alloc (.cells #[.func (.yield l) #[] #[]] 55)).alloc (.cells (iv (List.replicate m 0)) 3)).alloc (.cells #[.slice (some ⟨W.heap.size + 1, 0, none⟩) 0 m] 22)).alloc (.cells #[.func (.func 70) #[] #[.pointer (some ⟨W.heap.size, 0, none⟩), .pointer (some ⟨W.heap.size + 1 + 1, 0, none⟩), .pointer (some ⟨W.heap.size + 1 + 1 + 1, 0, none⟩)]] 62) = W4 ∧
      HasBlk W4 W.heap.size #[.func (.yield l) #[] #[]] 55 ∧ Nums W4 (W.heap.size + 1) 3 (List.replicate m 0) ∧ HasBlk W4 (W.heap.size + 1 + 1) #[.slice (some ⟨W.heap.size + 1, 0, none⟩) 0 m] 22 ∧
      HasBlk W4 (W.heap.size + 1 + 1 + 1) #[.func (.func 70) #[] #[.pointer (some ⟨W.heap.size, 0, none⟩), .pointer (some ⟨W.heap.size + 1 + 1, 0, none⟩), .pointer (some ⟨W.heap.size + 1 + 1 + 1, 0, none⟩)]] 62 ∧ W4.heap.size = W.heap.size + 1 + 1 + 1 + 1 ∧ Below W.heap.size W W4 := by
    refine ⟨_, rfl, ?_, ?_, ?_, ?_, by simp, (below3 W _ _ _).alloc (by simp; omega) _⟩
    · exact (alloc_old _ _ _ (by simp <;> omega)).trans (alloc3_0 W _ _ _)
    · exact (alloc_old _ _ _ (by simp <;> omega)).trans (alloc3_1 W _ _ _)
    · exact (alloc_old _ _ _ (by simp <;> omega)).trans (alloc3_2 W _ _ _)
    · unfold HasBlk
      rw [show W.heap.size + 1 + 1 + 1 = (((W.alloc (.cells #[.func (.yield l) #[] #[]] 55)).alloc (.cells (iv (List.replicate m 0)) 3)).alloc (.cells #[.slice (some ⟨W.heap.size + 1, 0, none⟩) 0 m] 22)).heap.size from by simp]
      exact alloc_new _ _
  have hJ4 : J [] W4 := by
    rw [← hW4]
    exact hJ _ _ _ none (hJ _ _ _ none (hJ _ _ _ none (hJ _ _ _ none h0 (World.grownBy_alloc _ _ _) (by simp)) (World.grownBy_alloc _ _ _) (by simp)) (World.grownBy_alloc _ _ _) (by simp)) (World.grownBy_alloc _ _ _) (by simp)
  have hO4 : OS W.heap.size (W.heap.size + 1 + 1) (W.heap.size + 1 + 1 + 1) (W.heap.size + 1) l m W4 [] := ⟨q0, q3, q2, ⟨List.replicate m 0, by simp, by simp [nI], q1⟩, hTW.below hb4 hTW.lt⟩
  have LL : Lies W.heap.size (W.heap.size + 1 + 1) (W.heap.size + 1 + 1 + 1) (W.heap.size + 1) l b W.heap.size :=
    ⟨by omega, hl2, hb1, hb2, by omega, by omega, by omega, by omega, by omega, by omega, by omega, by omega, by omega⟩
  have IH := goOn_any W.heap.size (W.heap.size + 1 + 1) (W.heap.size + 1 + 1 + 1) (W.heap.size + 1) l m b W.heap.size (6 ^ m) hm LL J hJ (fun k pre x W1 h1 h2 h3 => yield_any k (hY pre x W1 h1 h2 h3)) m (2 ^ m - 1) h63 hlen (fun v hv => by rw [mem_fullR m hm] at hv; simpa using hv) [] []
  have cg := q3
  have cgc := (blk_cell q3 0).trans (cell1_0 _)
  have cm : W4.cell? ⟨Bm, 0, none⟩ = some (.int .i64 (m : Int)) := (hb4.cell (p := ⟨Bm, 0, none⟩) hBW).trans hcW
  rw [mem_fullR m hm] at IH
  have HIH := Lib.hid IH
  have HJ4 := Lib.hid hJ4
  have HO4 := Lib.hid hO4
  have HJ5 : Hid (J [] (W4.drew.alloc (.cells #[.int .i64 (m : Int), .slice none 0 0] 26))) := Lib.hid (hJ _ _ _ none (show J [] W4.drew from hJ _ _ _ none hJ4 (show W4.grownBy W4.drew none from ⟨rfl, rfl, rfl, Nat.le_refl _, fun _ _ _ => rfl⟩) (by simp)) (World.grownBy_alloc _ _ _) (by simp))
  have HO5 := Lib.hid (hO4.drew.alloc (.cells #[.int .i64 (m : Int), .slice none 0 0] 26))
  have HF := Lib.hid (full_nat m)
  have hm1I : 1 ≤ (m : Int) := by omega
  have hm6I : (m : Int) ≤ 6 := by omega
  have HS4 := Lib.hid hs4
  have hB4 : Bm < W4.heap.size := by omega
  clear IH hJ4 hO4 hY h0 hJ q0 q1 q2 q3 hb4 LL hlen hs4 cg hTW hW
  go_enter Tryd.func69, Tryd.ntmps69
  have hst := store_new (((W.alloc (.cells #[.func (.yield l) #[] #[]] 55)).alloc (.cells (iv (List.replicate m 0)) 3)).alloc (.cells #[.slice (some ⟨W.heap.size + 1, 0, none⟩) 0 m] 22)) (W.heap.size + 1 + 1 + 1) (by simp) .nilFunc (.func (.func 70) #[] #[.pointer (some ⟨W.heap.size, 0, none⟩), .pointer (some ⟨W.heap.size + 1 + 1, 0, none⟩), .pointer (some ⟨W.heap.size + 1 + 1 + 1, 0, none⟩)]) 62 rfl
  rw [hW4] at hst
  go_wp2
  have hg4 : W.heap.size + 1 + 1 + 1 < W4.heap.size := by have := HS4.out; omega
  clear hst hW4 hmk
  go_region_with (first
    | (go_at_call 67; refine (full_any _ _ _ _ _ hm1I hm6I).mono ?_; rintro e w' ⟨rfl, rfl⟩; rw [HF.out])
    | (go_at_call 70; refine (HIH.out _ (by simp) (by simp) (by simp) (show W.heap.size ≤ (W4.drew.alloc (.cells #[.int .i64 (m : Int), .slice none 0 0] 26)).heap.size by simp; omega) HJ5.out HO5.out).mono ?_; rintro e w' ⟨rfl, ⟨xs, hxs, hj⟩, -, -⟩))
  all_goals
    go_wp2
    go_end0
    exact ⟨⟨_, rfl⟩, xs, by rw [hxs]; simp, hj⟩

end Go.Proofs.YtgjcjllhkkkioaaDoor

/- It is proved how boxed families and lists are kept while the laws go on; conditions: those of each statement. -/
namespace Go.Proofs.YtgjcjllhkkkioaaDoor
open Go.RowKit

/-- A family in a box. -/
structure FB (X : Nat) (m : Int) (a : Option Addr) (zs : List Int) (c : Nat) (W : World) : Prop where
  blk : HasBlk W X #[.int .i64 m, .slice a zs.length c] 26
  ints : Ints W W.heap.size a zs

theorem FB.step {X : Nat} {m : Int} {a : Option Addr} {zs : List Int} {c : Nat} {W W' : World} (h : FB X m a zs c W) (hb : Below W.heap.size W W') : FB X m a zs c W' :=
  ⟨(hb.block X (lt_of_some h.blk)).trans h.blk, (h.ints.below hb).mono hb.size⟩

theorem FB.start {w : World} {m : Int} {a : Option Addr} {zs : List Int} {c : Nat} (h : Ints w w.heap.size a zs) : FB w.heap.size m a zs c (w.alloc (.cells #[.int .i64 m, .slice a zs.length c] 26)) :=
  ⟨alloc_new w _, (h.below (below1 w _)).mono (by simp)⟩

theorem FB.x0 {X : Nat} {m : Int} {a : Option Addr} {zs : List Int} {c : Nat} {W : World} (h : FB X m a zs c W) : W.cell? ⟨X, 0, none⟩ = some (.int .i64 m) := (blk_cell h.blk 0).trans (cell2_0 _ _)
theorem FB.x1 {X : Nat} {m : Int} {a : Option Addr} {zs : List Int} {c : Nat} {W : World} (h : FB X m a zs c W) : W.cell? ⟨X, 1, none⟩ = some (.slice a zs.length c) := (blk_cell h.blk 1).trans (cell2_1 _ _)
theorem Ints.step {W W' : World} {a : Option Addr} {zs : List Int} (h : Ints W W.heap.size a zs) (hb : Below W.heap.size W W') : Ints W' W'.heap.size a zs := (h.below hb).mono hb.size
end Go.Proofs.YtgjcjllhkkkioaaDoor

/- It is proved what the closures of FamilyLeast, FamilyGreatest and without return; conditions: those of each statement. -/
namespace Go.Proofs.YtgjcjllhkkkioaaDoor
open Go.RowKit Go.Shelf

attribute [local go_sem] Oper.semAt_some

def leG (o z : Int) : Bool := bits .andNot .i64 o z == 0
theorem partOf_any (c d : Int) (w : World) : Calls Tryd.prog 76 #[.int .i64 c, .int .i64 d] w fun e w' => e = .returned (.bool (leG c d)) ∧ w = w' := by
  go_enter Tryd.func76, Tryd.ntmps76
  go_wp2
  go_ret
  exact ⟨rfl, rfl⟩

/-- A set that another one of the clubs beats. -/
def beatBy (g : Int → Int → Bool) (z o : Int) : Bool := (o != z) && g o z

def beaten (g : Int → Int → Bool) (zs : List Int) (z : Int) : Bool := zs.any (beatBy g z)
end Go.Proofs.YtgjcjllhkkkioaaDoor
