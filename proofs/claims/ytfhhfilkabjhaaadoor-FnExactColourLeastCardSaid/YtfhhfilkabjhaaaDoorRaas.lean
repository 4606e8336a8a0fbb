/- It is proved what allNames yields; conditions: those of each statement. -/
import Derived.RowKit
import Derived.Laws.CopyRow
import Derived.Lib.SlBuf
import Derived.RangeFuncNested
import Derived.RangeFuncBound
import Derived.RangeFuncCalls
import Derived.RangeFuncLeaves
import Derived.RangeFuncBox
import Derived.RangeFuncWrites
import Derived.StillTailTactics
import Derived.Test.YtfhhfilkabjhaaaDoorRows
import Derived.WalkKit
import Derived.WalkSpells
import Derived.ProofKit
import Derived.OpenShut
import Derived.ShutString
import Derived.ChangeOld
import Derived.Below
import Derived.Deep.RegionHeld3
import Derived.Deep.QuietTactic
import Derived.BigQuiet
import Derived.Lib.Hide
import Derived.Lib.SmallJoins
import Derived.Outline
import Derived.Laws.MakeOwn
import Derived.Laws.OwnMore
import Derived.IntWalk
import Derived.Shelf.Abstract
import Derived.Shelf.RegionOpen
import Derived.OwnWalkIn
import Derived.TacticsInMore
import Derived.LoopNIn
import Derived.LoopIn
import Derived.Maps.AppendAt
import Derived.Deep.AppendLies
import Derived.OwnWalk
import Derived.StillTail
import Derived.StillTactics
import Derived.OrdersIn
import Derived.TacticsIn
import Derived.Shelf.Spec.TrailingZeros
import Derived.Test.YtfhhfilkabjhaaaDoorRaac
import Derived.Test.YtfhhfilkabjhaaaDoorRaaa
import Derived.Test.YtfhhfilkabjhaaaDoorRaad
import Derived.Test.YtfhhfilkabjhaaaDoorRaae
import Derived.Test.YtfhhfilkabjhaaaDoorRaaq
import Derived.Test.YtfhhfilkabjhaaaDoorRaab
import Derived.Test.YtfhhfilkabjhaaaDoorRaap
import Derived.Test.YtfhhfilkabjhaaaDoorJe
import Derived.Maps.OwnIn
import Derived.Maps.Ext
import Derived.DeepKeys4
import Derived.MapKept
import Derived.Lib.AppendZeros
import Derived.Lib.SlicesCompact
import Derived.Lib.OwnBridge
import Derived.Shelf.Sort.Plain
import Derived.Shelf.Slices.In.SortNone
import Derived.Shelf.Slices.CompactI
import Derived.Ground.Names2Prog
namespace Go.Proofs.YtfhhfilkabjhaaaDoor
open Go.RowKit Go.Shelf

set_option maxRecDepth 100000 in
theorem mem_full_fin : ∀ m : Fin 7, mem (2 ^ m.val - 1) = List.range m.val := by decide +kernel

theorem mem_fullR (m : Nat) (hm : m ≤ 6) : mem (2 ^ m - 1) = List.range m := mem_full_fin ⟨m, by omega⟩
theorem full_nat (m : Nat) : fullI (m : Int) = ((2 ^ m - 1 : Nat) : Int) := by
  have h1 : 1 ≤ 2 ^ m := Nat.one_le_two_pow
  have : ((2 ^ m - 1 : Nat) : Int) = ((2 ^ m : Nat) : Int) - 1 := by omega
  rw [this]; simp [fullI]

theorem run_make0 (m : Nat) (hm : m ≤ 6) (w : World) : (Instr.makeSlice 22 (.int .i64 0) (.int .i64 (m : Int))).run Tryd.prog w = .ok (.slice (some ⟨w.heap.size, 0, none⟩) 0 m) (w.alloc (.cells (iv (List.replicate m 0)) 3)) := by
  obtain ⟨i0, hi0, hz0, hz1, hz2⟩ := info_parts Tryd.info3
  have := run_make (P := Tryd.prog) w 22 3 i0 (.int .i64 0) Tryd.underlying22 hi0 hz0 .i64 .i64 0 (m : Int) (Int.le_refl _) (by omega) (by rw [hz2]; omega) (by omega)
  rw [this, hz1]
  have e : madeCells (Value.int .i64 0).cells ((m : Int).toNat * 1) = iv (List.replicate m 0) := by
    apply Array.toList_inj.1
    rw [show (Value.int .i64 0).cells = #[Value.int .i64 0] from rfl, toList_madeCells_one]; simp [iv]
  rw [e]; rfl

theorem store_new (w : World) (n : Nat) (hn : n = w.heap.size) (u v : Value) (t : TypeId) (hv : v.oneCell' = true) : (store ⟨n, 0, none⟩ v).run Tryd.prog (w.alloc (.cells #[u] t)) = .ok () (w.alloc (.cells #[v] t)) := by
  subst hn
  have q : Boxed (w.alloc (.cells #[u] t)) w.heap.size t u := Boxed.new w t u
  rw [run_store _ _ _ _ _ hv, q.cell]
  simp only [q.frozen]
  rw [World.setCell_alloc_new]
  rfl

end Go.Proofs.YtfhhfilkabjhaaaDoor

/- It is proved what the iterator over all colours yields; conditions: those of each statement. -/
namespace Go.Proofs.YtfhhfilkabjhaaaDoor
open Go.RowKit Go.Shelf

attribute [local go_sem] Oper.semAt_some

theorem Tryd.infC : (Tryd.prog.info? 3).map (fun i => (i.zero, i.size, i.bytes)) = some (some ((Value.int .i64) (0)), 1, 8) := by kernel_rfl
theorem underC : Tryd.prog.underlying 74 = some (.slice 3) := by kernel_rfl
theorem run_makeC (m : Nat) (hm : m ≤ 6) (w : World) : (Instr.makeSlice 74 (.int .i64 (m : Int)) (.int .i64 (m : Int))).run Tryd.prog w = .ok (.slice (some ⟨w.heap.size, 0, none⟩) m m) (w.alloc (.cells (Array.replicate m ((Value.int .i64) (0))) 3)) := by
  obtain ⟨i0, hi0, hz0, hz1, hz2⟩ := info_parts Tryd.infC
  have := run_make (P := Tryd.prog) w 74 3 i0 ((Value.int .i64) (0)) underC hi0 hz0 .i64 .i64 (m : Int) (m : Int) (by omega) (Int.le_refl _) (by rw [hz2]; omega) (by omega)
  rw [this, hz1]
  have e : madeCells (((Value.int .i64) (0)) : Value).cells ((m : Int).toNat * 1) = Array.replicate m ((Value.int .i64) (0)) := by
    apply Array.toList_inj.1
    rw [show (((Value.int .i64) (0)) : Value).cells = #[((Value.int .i64) (0))] from rfl, toList_madeCells_one]; simp
  rw [e]; rfl

set_option maxRecDepth 100000 in
set_option maxHeartbeats 4000000 in
theorem allCol1_in (n Bm Bp pb pc m : Nat) (hm : m ≤ 6) (pal : List Int) (hpl : pal.length ≤ 6) (X : Nat → Prop) (w : World) (hBm : Bm < w.heap.size) (hBp : Bp < w.heap.size) (hpb : pb < w.heap.size) (hXm : ¬ X Bm) (hXq : ¬ X Bp) (hXp : ¬ X pb)
    (cm : Boxed w Bm 3 (.int .i64 (m : Int))) (cq : Boxed w Bp 22 (.slice (some ⟨pb, 0, none⟩) pal.length pc)) (cp : ∀ j, j < pal.length → w.cell? ⟨pb, j, none⟩ = some ((Value.int .i64) (pal[j]?.getD 0))) :
    SeqBut n Tryd.prog 97 #[.pointer (some ⟨Bm, 0, none⟩), .pointer (some ⟨Bp, 0, none⟩)] (fun x : Value × List Int => #[x.1]) X (OkV m) (fun xs => xs.map (·.2) = wordsL pal m) (fun pre => pre.map (·.2) <+: wordsL pal m ∧ pre ≠ []) (pal.length ^ m) w := by
  intro l J Jx W hW hl1 hl2 hX hJ hJx hY h0
  refine callsIn_wide.2 ?_
  have hsW : w.heap.size ≤ W.heap.size := hW.size
  have cmW : Boxed W Bm 3 (.int .i64 (m : Int)) := (hW.block _ hBm).trans cm
  have cqW : Boxed W Bp 22 (.slice (some ⟨pb, 0, none⟩) pal.length pc) := (hW.block _ hBp).trans cq
  have cpW : ∀ j, j < pal.length → W.cell? ⟨pb, j, none⟩ = some ((Value.int .i64) (pal[j]?.getD 0)) := fun j hj => (hW.cell (p := ⟨pb, j, none⟩) hpb).trans (cp j hj)
  have hmk := run_makeC m hm
  obtain ⟨W4, hW4, q0, q1, q2, q3, hs4, hb4⟩ : ∃ W4, (((W.alloc (.cells #[.func (.yield l) #[] #[]] 90)).alloc (.cells (Array.replicate m ((Value.int .i64) (0))) 3)).alloc (.cells #[.slice (some ⟨W.heap.size + 1, 0, none⟩) m m] 74)).alloc (.cells #[.func (.func 98) #[] #[.pointer (some ⟨Bm, 0, none⟩), .pointer (some ⟨W.heap.size, 0, none⟩), .pointer (some ⟨W.heap.size + 1 + 1, 0, none⟩), .pointer (some ⟨Bp, 0, none⟩), .pointer (some ⟨W.heap.size + 1 + 1 + 1, 0, none⟩)]] 79) = W4 ∧
      HasBlk W4 W.heap.size #[.func (.yield l) #[] #[]] 90 ∧ HasBlk W4 (W.heap.size + 1) (Array.replicate m ((Value.int .i64) (0))) 3 ∧ HasBlk W4 (W.heap.size + 1 + 1) #[.slice (some ⟨W.heap.size + 1, 0, none⟩) m m] 74 ∧
      HasBlk W4 (W.heap.size + 1 + 1 + 1) #[.func (.func 98) #[] #[.pointer (some ⟨Bm, 0, none⟩), .pointer (some ⟨W.heap.size, 0, none⟩), .pointer (some ⟨W.heap.size + 1 + 1, 0, none⟩), .pointer (some ⟨Bp, 0, none⟩), .pointer (some ⟨W.heap.size + 1 + 1 + 1, 0, none⟩)]] 79 ∧ W4.heap.size = W.heap.size + 1 + 1 + 1 + 1 ∧ Below W.heap.size W W4 := by
    refine ⟨_, rfl, ?_, ?_, ?_, ?_, by simp, (below3 W _ _ _).alloc (by simp; omega) _⟩
    · exact (alloc_old _ _ _ (by simp <;> omega)).trans (alloc3_0 W _ _ _)
    · exact (alloc_old _ _ _ (by simp <;> omega)).trans (alloc3_1 W _ _ _)
    · exact (alloc_old _ _ _ (by simp <;> omega)).trans (alloc3_2 W _ _ _)
    · unfold HasBlk
      have := alloc_new (((W.alloc (.cells #[.func (.yield l) #[] #[]] 90)).alloc (.cells (Array.replicate m ((Value.int .i64) (0))) 3)).alloc (.cells #[.slice (some ⟨W.heap.size + 1, 0, none⟩) m m] 74)) (.cells #[.func (.func 98) #[] #[.pointer (some ⟨Bm, 0, none⟩), .pointer (some ⟨W.heap.size, 0, none⟩), .pointer (some ⟨W.heap.size + 1 + 1, 0, none⟩), .pointer (some ⟨Bp, 0, none⟩), .pointer (some ⟨W.heap.size + 1 + 1 + 1, 0, none⟩)]] 79)
      simp only [World.size_alloc] at this
      exact this
  have hJ4 : J [] W4 := by
    rw [← hW4]
    exact hJ.alloc _ (hJ.alloc _ (hJ.alloc _ (hJ.alloc _ h0)))
  have hO4 : CS Bm W.heap.size (W.heap.size + 1 + 1) Bp (W.heap.size + 1 + 1 + 1) (W.heap.size + 1) pb pc l m w.heap.size pal W4 [] :=
    ⟨(hb4.block _ (by omega)).trans cmW, q0, q2, (hb4.block _ (by omega)).trans cqW, q3, ⟨List.replicate m 0, by simp, by simp, by simpa using q1⟩, hpb, fun j hj => (hb4.cell (p := ⟨pb, j, none⟩) (show pb < W.heap.size by omega)).trans (cpW j hj)⟩
  have LL : CLies Bm W.heap.size (W.heap.size + 1 + 1) Bp (W.heap.size + 1 + 1 + 1) (W.heap.size + 1) pb l w.heap.size W.heap.size X :=
    ⟨hl2, hX, hl1, hBm, hBp, hpb, hXm, hXq, hXp, by omega, by omega, by omega, by omega, by omega, by omega, by omega⟩
  have IH := colGo Bm W.heap.size (W.heap.size + 1 + 1) Bp (W.heap.size + 1 + 1 + 1) (W.heap.size + 1) pb l m w.heap.size W.heap.size pc (pal.length ^ m) hm pal hpl X LL hsW J Jx hJ (fun k pre x W1 h1 h2 h3 => yield_any k (hY pre x W1 h1 h2 h3)) m [] [] W4 (by simp) (by simp) hJ4 hO4
  have cg := (blk_cell q3 0).trans (cell1_0 _)
  have cm4 : W4.cell? ⟨Bm, 0, none⟩ = some (.int .i64 (m : Int)) := (hb4.cell (p := ⟨Bm, 0, none⟩) (show Bm < W.heap.size by omega)).trans cmW.cell
  have cmA := ((Below.refl W.heap.size W).alloc (Nat.le_refl _) (.cells #[.func (.yield l) #[] #[]] 90)).cell (p := ⟨Bm, 0, none⟩) (show Bm < W.heap.size by omega)
  rw [cmW.cell] at cmA
  rw [show ((List.length ([] : List Int) : Nat) : Int) = 0 from rfl] at IH
  have HIH := Lib.hid IH
  have hst := store_new (((W.alloc (.cells #[.func (.yield l) #[] #[]] 90)).alloc (.cells (Array.replicate m ((Value.int .i64) (0))) 3)).alloc (.cells #[.slice (some ⟨W.heap.size + 1, 0, none⟩) m m] 74)) (W.heap.size + 1 + 1 + 1) (by simp) .nilFunc (.func (.func 98) #[] #[.pointer (some ⟨Bm, 0, none⟩), .pointer (some ⟨W.heap.size, 0, none⟩), .pointer (some ⟨W.heap.size + 1 + 1, 0, none⟩), .pointer (some ⟨Bp, 0, none⟩), .pointer (some ⟨W.heap.size + 1 + 1 + 1, 0, none⟩)]) 79 rfl
  rw [hW4] at hst
  have hmI : (m : Int) ≤ 6 := by omega
  have hm0 : (0 : Int) ≤ (m : Int) := by omega
  clear IH hJ4 hO4 hY h0 hJ hJx q0 q1 q2 q3 hb4 LL hs4 cmW cqW cpW hsW hW cm cq cp hX
  go_enter Tryd.func97, Tryd.ntmps97
  go_wp2_with fail
  refine HIH.out.mono ?_
  rintro e W5 (⟨rfl, ⟨xs, hxs, hj⟩, -, -⟩ | ⟨rfl, ⟨xs, hxs, hxn, hj⟩, -⟩)
  · have HJ := Lib.hid hj
    have HX := Lib.hid hxs
    clear hj hxs hst hW4 hmk
    go_wp2
    go_end0
    exact ⟨⟨_, rfl⟩, .inl ⟨xs, by rw [HX.out]; simp, by simpa using HJ.out⟩⟩
  · have HJ := Lib.hid hj
    have HX := Lib.hid hxs
    clear hj hxs hst hW4 hmk
    go_wp2
    go_end0
    exact ⟨⟨_, rfl⟩, .inr ⟨xs, ⟨by simpa using HX.out, hxn⟩, by simpa using HJ.out⟩⟩

theorem allColours_any (m : Int) (pb pn pc : Nat) (w : World) :
    Calls Tryd.prog 83 #[.int .i64 m, .slice (some ⟨pb, 0, none⟩) pn pc] w fun e w' => e = .returned (.func (.func 97) #[] #[.pointer (some ⟨w.heap.size, 0, none⟩), .pointer (some ⟨w.heap.size + 1, 0, none⟩)]) ∧ w' = (w.alloc (.cells #[.int .i64 m] 3)).alloc (.cells #[.slice (some ⟨pb, 0, none⟩) pn pc] 22) := by
  go_enter Tryd.func83, Tryd.ntmps83
  go_wp2
  go_ret
  exact ⟨rfl, rfl⟩

end Go.Proofs.YtfhhfilkabjhaaaDoor

/- It is proved what ownNames and keeping return; conditions: those of each statement. -/
namespace Go.Proofs.YtfhhfilkabjhaaaDoor
open Go.RowKit Go.Shelf Go.Maps

attribute [local go_sem] Oper.semAt_some

theorem slice_form {w' : World} {B k : Nat} {v : Value} {ys : List Value} (h : w'.ownsRow B 3 1 v k ys) : ∃ a c, v = .slice a k c := by
  rcases h.2 with ⟨rfl, rfl⟩ | ⟨g, cap, cur, rfl, _⟩
  · exact ⟨none, 0, rfl⟩
  · exact ⟨_, _, rfl⟩

end Go.Proofs.YtfhhfilkabjhaaaDoor
