/- It is proved what CoverIn of the program and of the reference model returns; conditions: those of each statement. -/
import Derived.RowKit
import Derived.Laws.CopyRow
import Derived.Lib.SlBuf
import Derived.Deep.QuietTactic
import Derived.RangeFuncNested
import Derived.RangeFuncBound
import Derived.RangeFuncCalls
import Derived.RangeFuncLeaves
import Derived.RangeFuncBox
import Derived.RangeFuncWrites
import Derived.StillTailTactics
import Derived.Maps.OwnIn
import Derived.Maps.Ext
import Derived.DeepKeys4
import Derived.MapKept
import Derived.Test.YtgpgocijacgkhaaDoorRows
import Derived.WalkKit
import Derived.WalkSpells
import Derived.ProofKit
import Derived.OpenShut
import Derived.ShutString
import Derived.ChangeOld
import Derived.Below
import Derived.Deep.RegionHeld3
import Derived.BigQuiet
import Derived.Lib.Hide
import Derived.Lib.SmallJoins
import Derived.Outline
import Derived.Laws.MakeOwn
import Derived.Laws.OwnMore
import Derived.IntWalk
import Derived.Lib.AppendZeros
import Derived.Maps.AppendAt
import Derived.Deep.AppendLies
import Derived.OwnWalk
import Derived.Lib.SlicesCompact
import Derived.Lib.OwnBridge
import Derived.OrdersIn
import Derived.TacticsIn
import Derived.Shelf.Sort.Plain
import Derived.Shelf.Slices.In.SortNone
import Derived.Shelf.Slices.CompactI
import Derived.Ground.Names2Prog
import Derived.Lib.SliceRun
import Derived.Shelf.Abstract
import Derived.Shelf.RegionOpen
import Derived.OwnWalkIn
import Derived.TacticsInMore
import Derived.LoopNIn
import Derived.LoopIn
import Derived.StillTail
import Derived.StillTactics
import Derived.Shelf.Spec.TrailingZeros
import Derived.Test.YtgpgocijacgkhaaDoorRaab
import Derived.Test.YtgpgocijacgkhaaDoorRaap
import Derived.Test.YtgpgocijacgkhaaDoorRaaa
namespace Go.Proofs.YtgpgocijacgkhaaDoor
open Go.RowKit

theorem fam_nat2 {m : Int} {zs : List Int} (h : famIn m zs = true) : ∃ k : Nat, m = (k : Int) ∧ 1 ≤ k ∧ k ≤ 6 ∧ Sets k zs ∧ zs.length ≤ 8 := by
  obtain ⟨h1, h2, h3, -⟩ := famIn_out h
  obtain ⟨k, rfl⟩ : ∃ k : Nat, m = (k : Int) := ⟨m.toNat, by omega⟩
  exact ⟨k, rfl, by omega, by omega, sets_of_fam h, h3⟩

end Go.Proofs.YtgpgocijacgkhaaDoor

/- It is proved what least covers are, and that a list between the least covers and the covers has just them as its least sets; conditions: those of each statement. -/
namespace Go.Proofs.YtgpgocijacgkhaaDoor
open Go.RowKit

theorem p64 {m s : Nat} (hm : m ≤ 6) (hs : s < 2 ^ m) : s < 64 := Nat.lt_of_lt_of_le hs (Nat.pow_le_pow_right (n := 2) (by decide) hm)
end Go.Proofs.YtgpgocijacgkhaaDoor

/- It is proved what CoverSmall of the program and of the reference model returns; conditions: those of each statement. -/
namespace Go.Proofs.YtgpgocijacgkhaaDoor
open Go.RowKit

theorem at_in {xs : List Int} {k : Nat} (h : k < xs.length) : xs[k]?.getD 0 ∈ xs := by
  rw [List.getElem?_eq_getElem h]; exact List.getElem_mem _

end Go.Proofs.YtgpgocijacgkhaaDoor

/- It is proved what meets and reached return; conditions: those of each statement. -/
namespace Go.Proofs.YtgpgocijacgkhaaDoor
open Go.RowKit Go.Shelf

attribute [local go_sem] Oper.semAt_some

set_option maxRecDepth 100000 in
theorem and_fin : ∀ x : Fin 64, ∀ y : Fin 64, bits BinOp.and IntKind.i64 (x.val : Int) (y.val : Int) = ((x.val &&& y.val : Nat) : Int) := by decide +kernel

set_option maxRecDepth 100000 in
theorem or6_fin : ∀ x : Fin 64, ∀ y : Fin 64, bits BinOp.or IntKind.i64 (x.val : Int) (y.val : Int) = ((x.val ||| y.val : Nat) : Int) := by decide +kernel

theorem and6_at (x y : Nat) (hx : x < 64) (hy : y < 64) : bits BinOp.and IntKind.i64 (x : Int) (y : Int) = ((x &&& y : Nat) : Int) := and_fin ⟨x, hx⟩ ⟨y, hy⟩
theorem or6_at (x y : Nat) (hx : x < 64) (hy : y < 64) : bits BinOp.or IntKind.i64 (x : Int) (y : Int) = ((x ||| y : Nat) : Int) := or6_fin ⟨x, hx⟩ ⟨y, hy⟩
theorem meets_any (x y : Nat) (hx : x < 64) (hy : y < 64) (w : World) :
    Calls Tryd.prog 82 #[.int .i64 (x : Int), .int .i64 (y : Int)] w fun e w' => e = .returned (.bool (!decide (x &&& y = 0))) ∧ w = w' := by
  have HA := Lib.hid (and6_at x y hx hy)
  have HE : Hid ((((x &&& y : Nat) : Int) != 0) = !decide (x &&& y = 0)) := Lib.hid (by
    by_cases h : x &&& y = 0
    · rw [h]; rfl
    · rw [decide_eq_false h, bne_iff_ne.2 (by omega)]; rfl)
  go_enter Tryd.func82, Tryd.ntmps82
  go_wp2
  go_ret
  exact ⟨by rw [← HE.out, ← HA.out]; rfl, rfl⟩

/-- The mark of a loop over a function. -/
def mkD (D : Nat) : Deferred := { target := .collected D, args := #[] }

/-- Marks that hold nothing, each once. -/
structure Marks (lo hi : Nat) (Ds : List Nat) (W : World) : Prop where
  once : Ds.Nodup
  at_ : ∀ D ∈ Ds, lo ≤ D ∧ D < hi ∧ W.heap[D]? = some (.deferred (some []))

theorem Marks.own {β : Type} (lo hi : Nat) (Ds : List Nat) {B : Nat} (hB : hi ≤ B) : OwnFrom B (fun (_ : β) W => Marks lo hi Ds W) :=
  fun _ X Y row hs hg hr => ⟨hs.once, fun D hD => by
    obtain ⟨h1, h2, h3⟩ := hs.at_ D hD
    exact ⟨h1, h2, (hg.block D (lt_of_some h3) (fun e => by have := (hr D e.symm).1; omega)).trans h3⟩⟩

theorem Marks.setCell {lo hi : Nat} {Ds : List Nat} {W : World} (h : Marks lo hi Ds W) {p : Addr} (hp : p.block < lo) (u : Value) : Marks lo hi Ds (W.setCell p u) :=
  ⟨h.once, fun D hD => by
    obtain ⟨h1, h2, h3⟩ := h.at_ D hD
    exact ⟨h1, h2, (Below.heap_setCell W p u D (by omega)).trans h3⟩⟩

theorem Marks.alloc {lo hi : Nat} {Ds : List Nat} {W : World} (h : Marks lo hi Ds W) (o : Obj) : Marks lo hi Ds (W.alloc o) :=
  ⟨h.once, fun D hD => by
    obtain ⟨h1, h2, h3⟩ := h.at_ D hD
    exact ⟨h1, h2, (alloc_old W o D (lt_of_some h3)).trans h3⟩⟩

theorem Marks.cons {lo hi : Nat} {Ds : List Nat} {W : World} (h : Marks lo hi Ds W) {D : Nat} (hD : hi ≤ D) (hlo : lo ≤ D) (hk : W.heap[D]? = some (.deferred (some []))) : Marks lo (D + 1) (D :: Ds) W :=
  ⟨List.nodup_cons.2 ⟨fun hm => by have := (h.at_ D hm).2.1; omega, h.once⟩, fun E hE => by
    rcases List.mem_cons.1 hE with rfl | hE
    · exact ⟨hlo, by omega, hk⟩
    · obtain ⟨h1, h2, h3⟩ := h.at_ E hE
      exact ⟨h1, by omega, h3⟩⟩

theorem Marks.mono {lo hi hi' : Nat} {Ds : List Nat} {W : World} (h : Marks lo hi Ds W) (hh : hi ≤ hi') : Marks lo hi' Ds W :=
  ⟨h.once, fun D hD => by obtain ⟨h1, h2, h3⟩ := h.at_ D hD; exact ⟨h1, by omega, h3⟩⟩

theorem leaves_marks {F : Fence} {n : Nat} {P : Program} {fn : Func} {tmps : Array Value} {R : Ending → World → Prop} {v : Value} {lo hi : Nat} (hres : ∀ W, (results fn tmps).run P W = .ok v W) :
    ∀ (Ds : List Nat) (W : World), Marks lo hi Ds W → (∀ W', Below lo W W' → R (.returned v) W') → LeavesInM F n P fn tmps R (Ds.map mkD) .returning W
  | [], W, _, hR => ⟨v, hres W, hR W (Below.refl _ _)⟩
  | D :: Ds, W, h, hR => by
    obtain ⟨h1, h2, h3⟩ := h.at_ D (by simp)
    have hn := List.nodup_cons.1 h.once
    refine ⟨by simp, .inl ⟨D, _, rfl, run_takeDeferred h3, ?_⟩⟩
    have hb : Below lo W (W.putObj D (.deferred none)) := (Below.refl lo W).grown (grownBy_putObj' W D _) (Nat.le_trans h1 (Nat.le_of_lt (lt_of_some h3))) (fun k e => by cases e; exact h1)
    refine leaves_marks (hi := hi) hres Ds _ ⟨hn.2, fun E hE => ?_⟩ (fun W' hW' => hR W' (hb.trans hW'))
    obtain ⟨g1, g2, g3⟩ := h.at_ E (by simp [hE])
    refine ⟨g1, g2, ?_⟩
    rw [World.putObj_heap_other (fun e => hn.1 (by rw [← e]; exact hE))]
    exact g3

end Go.Proofs.YtgpgocijacgkhaaDoor
