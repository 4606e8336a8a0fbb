/- It is proved what the iterator over all colours yields; conditions: those of each statement. -/
import Derived.RowKit
import Derived.Laws.CopyRow
import Derived.Lib.SlBuf
import Derived.RangeFuncNested
import Derived.RangeFuncBound
import Derived.RangeFuncCalls
import Derived.RangeFuncLeaves
import Derived.RangeFuncBox
import Derived.RangeFuncWrites
import Derived.StillTailTactics
import Derived.Test.YtckbhhaigpajpaaDoorRows
import Derived.WalkKit
import Derived.WalkSpells
import Derived.ProofKit
import Derived.OpenShut
import Derived.ShutString
import Derived.ChangeOld
import Derived.Below
import Derived.Deep.RegionHeld3
import Derived.Deep.QuietTactic
import Derived.BigQuiet
import Derived.Lib.Hide
import Derived.Lib.SmallJoins
import Derived.Outline
import Derived.Laws.MakeOwn
import Derived.Laws.OwnMore
import Derived.IntWalk
import Derived.Shelf.Abstract
import Derived.Shelf.RegionOpen
import Derived.OwnWalkIn
import Derived.TacticsInMore
import Derived.LoopNIn
import Derived.LoopIn
import Derived.Maps.AppendAt
import Derived.Deep.AppendLies
import Derived.OwnWalk
import Derived.StillTail
import Derived.StillTactics
import Derived.OrdersIn
import Derived.TacticsIn
import Derived.Shelf.Spec.TrailingZeros
import Derived.Test.YtckbhhaigpajpaaDoorRaae
import Derived.Test.YtckbhhaigpajpaaDoorRaab
import Derived.Test.YtckbhhaigpajpaaDoorRaac
import Derived.Test.YtckbhhaigpajpaaDoorJl
import Derived.Lib.AppendZeros
import Derived.Lib.SlicesCompact
import Derived.Lib.OwnBridge
import Derived.Shelf.Sort.Plain
import Derived.Shelf.Slices.In.SortNone
import Derived.Shelf.Slices.CompactI
import Derived.Ground.Names2Prog
import Derived.Lib.SliceRun
import Derived.Test.YtckbhhaigpajpaaDoorRaaa
namespace Go.Proofs.YtckbhhaigpajpaaDoor
open Go.RowKit Go.Shelf

attribute [local go_sem] Oper.semAt_some

theorem Tryd.infCB : (Tryd.prog.info? 4).map (fun i => (i.zero, i.size, i.bytes)) = some (some (Value.bool (false)), 1, 1) := by kernel_rfl
theorem underCB : Tryd.prog.underlying 55 = some (.slice 4) := by kernel_rfl
theorem run_makeCB (m : Nat) (hm : m ≤ 6) (w : World) : (Instr.makeSlice 55 (.int .i64 (m : Int)) (.int .i64 (m : Int))).run Tryd.prog w = .ok (.slice (some ⟨w.heap.size, 0, none⟩) m m) (w.alloc (.cells (Array.replicate m (Value.bool (false))) 4)) := by
  obtain ⟨i0, hi0, hz0, hz1, hz2⟩ := info_parts Tryd.infCB
  have := run_make (P := Tryd.prog) w 55 4 i0 (Value.bool (false)) underCB hi0 hz0 .i64 .i64 (m : Int) (m : Int) (by omega) (Int.le_refl _) (by rw [hz2]; omega) (by omega)
  rw [this, hz1]
  have e : madeCells ((Value.bool (false)) : Value).cells ((m : Int).toNat * 1) = Array.replicate m (Value.bool (false)) := by
    apply Array.toList_inj.1
    rw [show ((Value.bool (false)) : Value).cells = #[(Value.bool (false))] from rfl, toList_madeCells_one]; simp
  rw [e]; rfl

set_option maxRecDepth 100000 in
set_option maxHeartbeats 4000000 in
theorem allCol1_inB (n Bm Bp pb pc m : Nat) (hm : m ≤ 6) (pal : List Bool) (hpl : pal.length ≤ 6) (X : Nat → Prop) (w : World) (hBm : Bm < w.heap.size) (hBp : Bp < w.heap.size) (hpb : pb < w.heap.size) (hXm : ¬ X Bm) (hXq : ¬ X Bp) (hXp : ¬ X pb)
    (cm : Boxed w Bm 3 (.int .i64 (m : Int))) (cq : Boxed w Bp 54 (.slice (some ⟨pb, 0, none⟩) pal.length pc)) (cp : ∀ j, j < pal.length → w.cell? ⟨pb, j, none⟩ = some (Value.bool (pal[j]?.getD false))) :
    SeqBut n Tryd.prog 81 #[.pointer (some ⟨Bm, 0, none⟩), .pointer (some ⟨Bp, 0, none⟩)] (fun x : Value × List Bool => #[x.1]) X (OkVB m) (fun xs => xs.map (·.2) = wordsL pal m) (fun pre => pre.map (·.2) <+: wordsL pal m ∧ pre ≠ []) (pal.length ^ m) w := by
  intro l J Jx W hW hl1 hl2 hX hJ hJx hY h0
  refine callsIn_wide.2 ?_
  have hsW : w.heap.size ≤ W.heap.size := hW.size
  have cmW : Boxed W Bm 3 (.int .i64 (m : Int)) := (hW.block _ hBm).trans cm
  have cqW : Boxed W Bp 54 (.slice (some ⟨pb, 0, none⟩) pal.length pc) := (hW.block _ hBp).trans cq
  have cpW : ∀ j, j < pal.length → W.cell? ⟨pb, j, none⟩ = some (Value.bool (pal[j]?.getD false)) := fun j hj => (hW.cell (p := ⟨pb, j, none⟩) hpb).trans (cp j hj)
  have hmk := run_makeCB m hm
  obtain ⟨W4, hW4, q0, q1, q2, q3, hs4, hb4⟩ : ∃ W4, (((W.alloc (.cells #[.func (.yield l) #[] #[]] 86)).alloc (.cells (Array.replicate m (Value.bool (false))) 4)).alloc (.cells #[.slice (some ⟨W.heap.size + 1, 0, none⟩) m m] 55)).alloc (.cells #[.func (.func 82) #[] #[.pointer (some ⟨Bm, 0, none⟩), .pointer (some ⟨W.heap.size, 0, none⟩), .pointer (some ⟨W.heap.size + 1 + 1, 0, none⟩), .pointer (some ⟨Bp, 0, none⟩), .pointer (some ⟨W.heap.size + 1 + 1 + 1, 0, none⟩)]] 83) = W4 ∧
      HasBlk W4 W.heap.size #[.func (.yield l) #[] #[]] 86 ∧ HasBlk W4 (W.heap.size + 1) (Array.replicate m (Value.bool (false))) 4 ∧ HasBlk W4 (W.heap.size + 1 + 1) #[.slice (some ⟨W.heap.size + 1, 0, none⟩) m m] 55 ∧
      HasBlk W4 (W.heap.size + 1 + 1 + 1) #[.func (.func 82) #[] #[.pointer (some ⟨Bm, 0, none⟩), .pointer (some ⟨W.heap.size, 0, none⟩), .pointer (some ⟨W.heap.size + 1 + 1, 0, none⟩), .pointer (some ⟨Bp, 0, none⟩), .pointer (some ⟨W.heap.size + 1 + 1 + 1, 0, none⟩)]] 83 ∧ W4.heap.size = W.heap.size + 1 + 1 + 1 + 1 ∧ Below W.heap.size W W4 := by
    refine ⟨_, rfl, ?_, ?_, ?_, ?_, by simp, (below3 W _ _ _).alloc (by simp; omega) _⟩
    · exact (alloc_old _ _ _ (by simp <;> omega)).trans (alloc3_0 W _ _ _)
    · exact (alloc_old _ _ _ (by simp <;> omega)).trans (alloc3_1 W _ _ _)
    · exact (alloc_old _ _ _ (by simp <;> omega)).trans (alloc3_2 W _ _ _)
    · unfold HasBlk
      have := alloc_new (((W.alloc (.cells #[.func (.yield l) #[] #[]] 86)).alloc (.cells (Array.replicate m (Value.bool (false))) 4)).alloc (.cells #[.slice (some ⟨W.heap.size + 1, 0, none⟩) m m] 55)) (.cells #[.func (.func 82) #[] #[.pointer (some ⟨Bm, 0, none⟩), .pointer (some ⟨W.heap.size, 0, none⟩), .pointer (some ⟨W.heap.size + 1 + 1, 0, none⟩), .pointer (some ⟨Bp, 0, none⟩), .pointer (some ⟨W.heap.size + 1 + 1 + 1, 0, none⟩)]] 83)
      simp only [World.size_alloc] at this
      exact this
  have hJ4 : J [] W4 := by
    rw [← hW4]
    exact hJ.alloc _ (hJ.alloc _ (hJ.alloc _ (hJ.alloc _ h0)))
  have hO4 : CSB Bm W.heap.size (W.heap.size + 1 + 1) Bp (W.heap.size + 1 + 1 + 1) (W.heap.size + 1) pb pc l m w.heap.size pal W4 [] :=
    ⟨(hb4.block _ (by omega)).trans cmW, q0, q2, (hb4.block _ (by omega)).trans cqW, q3, ⟨List.replicate m false, by simp, by simp, by simpa using q1⟩, hpb, fun j hj => (hb4.cell (p := ⟨pb, j, none⟩) (show pb < W.heap.size by omega)).trans (cpW j hj)⟩
  have LL : CLiesB Bm W.heap.size (W.heap.size + 1 + 1) Bp (W.heap.size + 1 + 1 + 1) (W.heap.size + 1) pb l w.heap.size W.heap.size X :=
    ⟨hl2, hX, hl1, hBm, hBp, hpb, hXm, hXq, hXp, by omega, by omega, by omega, by omega, by omega, by omega, by omega⟩
  have IH := colGoB Bm W.heap.size (W.heap.size + 1 + 1) Bp (W.heap.size + 1 + 1 + 1) (W.heap.size + 1) pb l m w.heap.size W.heap.size pc (pal.length ^ m) hm pal hpl X LL hsW J Jx hJ (fun k pre x W1 h1 h2 h3 => yield_any k (hY pre x W1 h1 h2 h3)) m [] [] W4 (by simp) (by simp) hJ4 hO4
  have cg := (blk_cell q3 0).trans (cell1_0 _)
  have cm4 : W4.cell? ⟨Bm, 0, none⟩ = some (.int .i64 (m : Int)) := (hb4.cell (p := ⟨Bm, 0, none⟩) (show Bm < W.heap.size by omega)).trans cmW.cell
  have cmA := ((Below.refl W.heap.size W).alloc (Nat.le_refl _) (.cells #[.func (.yield l) #[] #[]] 86)).cell (p := ⟨Bm, 0, none⟩) (show Bm < W.heap.size by omega)
  rw [cmW.cell] at cmA
  rw [show ((List.length ([] : List Bool) : Nat) : Int) = 0 from rfl] at IH
  have HIH := Lib.hid IH
  have hst := store_new (((W.alloc (.cells #[.func (.yield l) #[] #[]] 86)).alloc (.cells (Array.replicate m (Value.bool (false))) 4)).alloc (.cells #[.slice (some ⟨W.heap.size + 1, 0, none⟩) m m] 55)) (W.heap.size + 1 + 1 + 1) (by simp) .nilFunc (.func (.func 82) #[] #[.pointer (some ⟨Bm, 0, none⟩), .pointer (some ⟨W.heap.size, 0, none⟩), .pointer (some ⟨W.heap.size + 1 + 1, 0, none⟩), .pointer (some ⟨Bp, 0, none⟩), .pointer (some ⟨W.heap.size + 1 + 1 + 1, 0, none⟩)]) 83 rfl
  rw [hW4] at hst
  have hmI : (m : Int) ≤ 6 := by omega
  have hm0 : (0 : Int) ≤ (m : Int) := by omega
  clear IH hJ4 hO4 hY h0 hJ hJx q0 q1 q2 q3 hb4 LL hs4 cmW cqW cpW hsW hW cm cq cp hX
  go_enter Tryd.func81, Tryd.ntmps81
  go_wp2_with fail
  refine HIH.out.mono ?_
  rintro e W5 (⟨rfl, ⟨xs, hxs, hj⟩, -, -⟩ | ⟨rfl, ⟨xs, hxs, hxn, hj⟩, -⟩)
  · have HJ := Lib.hid hj
    have HX := Lib.hid hxs
    clear hj hxs hst hW4 hmk
    go_wp2
    go_end0
    exact ⟨⟨_, rfl⟩, .inl ⟨xs, by rw [HX.out]; simp, by simpa using HJ.out⟩⟩
  · have HJ := Lib.hid hj
    have HX := Lib.hid hxs
    clear hj hxs hst hW4 hmk
    go_wp2
    go_end0
    exact ⟨⟨_, rfl⟩, .inr ⟨xs, ⟨by simpa using HX.out, hxn⟩, by simpa using HJ.out⟩⟩

theorem allColours_anyB (m : Int) (pb pn pc : Nat) (w : World) :
    Calls Tryd.prog 44 #[.int .i64 m, .slice (some ⟨pb, 0, none⟩) pn pc] w fun e w' => e = .returned (.func (.func 81) #[] #[.pointer (some ⟨w.heap.size, 0, none⟩), .pointer (some ⟨w.heap.size + 1, 0, none⟩)]) ∧ w' = (w.alloc (.cells #[.int .i64 m] 3)).alloc (.cells #[.slice (some ⟨pb, 0, none⟩) pn pc] 54) := by
  go_enter Tryd.func44, Tryd.ntmps44
  go_wp2
  go_ret
  exact ⟨rfl, rfl⟩

end Go.Proofs.YtckbhhaigpajpaaDoor

/- It is proved what least covers are, and that a list between the least covers and the covers has just them as its least sets; conditions: those of each statement. -/
namespace Go.Proofs.YtckbhhaigpajpaaDoor
open Go.RowKit

/-- All clubs have a member of a set. -/
def covB (zs : List Int) (s : Nat) : Bool := zs.all fun z => z.toNat &&& s != 0

theorem p64 {m s : Nat} (hm : m ≤ 6) (hs : s < 2 ^ m) : s < 64 := Nat.lt_of_lt_of_le hs (Nat.pow_le_pow_right (n := 2) (by decide) hm)
end Go.Proofs.YtckbhhaigpajpaaDoor

/- It is proved what a loop over a function does where the function keeps its state in cells of its own and the body writes a variable's block and ints of its own; conditions: those of each statement. -/
namespace Go
open Go.RowKit

/-- What a round may turn: the loop's record, a variable's block D, and ints from lo on. -/
structure ButF (lo D l : Nat) (A B : World) : Prop where
  os : B.os = A.os
  tape : B.tape = A.tape
  output : B.output = A.output
  size : A.heap.size ≤ B.heap.size
  same : ∀ k, k < A.heap.size → k ≠ l → k ≠ D → (lo ≤ k → ∀ cs z, A.heap[k]? ≠ some (.cells cs 3 z)) → B.heap[k]? = A.heap[k]?

theorem ButF.refl (lo D l : Nat) (W : World) : ButF lo D l W W := ⟨rfl, rfl, rfl, Nat.le_refl _, fun _ _ _ _ _ => rfl⟩
theorem ButF.trans {lo D l : Nat} {A B C : World} (h : ButF lo D l A B) (k : ButF lo D l B C) : ButF lo D l A C :=
  ⟨k.os.trans h.os, k.tape.trans h.tape, k.output.trans h.output, Nat.le_trans h.size k.size, fun i hi hl hD hn => by
    have h1 := h.same i hi hl hD hn
    exact (k.same i (Nat.lt_of_lt_of_le hi h.size) hl hD (fun hlo cs z => by rw [h1]; exact hn hlo cs z)).trans h1⟩

theorem ButF.of_but {lo D l : Nat} {X : Nat → Prop} {A B : World} (h : But X A B) (hX : ∀ k, X k → k = l ∨ k = D) : ButF lo D l A B :=
  ⟨h.os, h.tape, h.output, h.size, fun k hk h1 h2 _ => h.same k hk (fun e => (hX k e).elim h1 h2)⟩

theorem ButF.of_below {lo D l : Nat} {A B : World} (h : Below A.heap.size A B) : ButF lo D l A B := ⟨h.os, h.tape, h.output, h.size, fun k hk _ _ _ => h.block k hk⟩
theorem ButF.drew {lo D l : Nat} (W : World) : ButF lo D l W W.drew := ⟨rfl, rfl, rfl, Nat.le_refl _, fun _ _ _ _ _ => rfl⟩
theorem ButF.to {lo D l : Nat} {A B : World} (h : ButF lo D D A B) : ButF lo D l A B := ⟨h.os, h.tape, h.output, h.size, fun k hk _ h2 h3 => h.same k hk h2 h2 h3⟩
theorem ButF.below {lo D l : Nat} {A B : World} (h : ButF lo D l A B) (hlo : lo ≤ A.heap.size) (hD : lo ≤ D) (hl : lo ≤ l) : Below lo A B :=
  ⟨h.os, h.tape, h.output, h.size, fun k hk => h.same k (by omega) (by omega) (by omega) (fun e => by omega)⟩

theorem ButF.keep {lo D l k : Nat} {A B : World} {o : Obj} (h : ButF lo D l A B) (hk : A.heap[k]? = some o) (h1 : k ≠ l) (h2 : k ≠ D) (h3 : lo ≤ k → ∀ cs z, o ≠ .cells cs 3 z) : B.heap[k]? = some o :=
  (h.same k (Array.getElem?_eq_some_iff.1 hk).1 h1 h2 (fun hlo cs z e => h3 hlo cs z (by rw [hk] at e; exact Option.some.inj e))).trans hk

theorem ButF.from {lo D l B : Nat} {W W' : World} (h : ButF lo D l W W') (hD : D < B) (hl : l < B) : KeepsFrom B W W' :=
  ⟨h.size, fun k o hB hk ho => h.keep hk (by omega) (by omega) (fun _ cs z e => by subst e; cases ho)⟩

/-- Behind an append of ints and the store back into the variable's block. -/
theorem ButF.append {lo D : Nat} {W w1 : World} {v v' : Value} {k : Nat} {xs : List Value} {tmp : Obj} (i : Nat) (hr : W.ownsRow lo 3 1 v k xs) (hgrow : (W.alloc tmp).grownBy w1 v.ownBlock) : ButF lo D D W (w1.setCell ⟨D, i, none⟩ v') := by
  have hs : (W.alloc tmp).heap.size = W.heap.size + 1 := by simp
  refine ⟨hgrow.os, hgrow.tape, hgrow.output, by have := hgrow.size; simp only [World.size_setCell]; omega, fun j hj _ hD hn => ?_⟩
  rw [Below.heap_setCell w1 ⟨D, i, none⟩ v' j hD, hgrow.block j (by omega) (fun e => ?_), Below.heap_alloc W tmp j hj]
  rcases hr.2 with ⟨rfl, _⟩ | ⟨g, cap, cur, rfl, hb, hg, _⟩
  · simp [Value.ownBlock] at e
  · obtain rfl : j = g := by simpa [Value.ownBlock] using e
    exact hn hb _ _ hg

/-- What abides whatever is done to blocks from B on that are no ints. -/
def OwnF {β : Type} (B : Nat) (J : β → World → Prop) : Prop := ∀ s A C row, J s A → A.grownBy C row → (∀ r, row = some r → B ≤ r ∧ ∀ cs z, A.heap[r]? ≠ some (.cells cs 3 z)) → J s C

theorem OwnF.from {β : Type} {B : Nat} {J : β → World → Prop} (h : OwnF B J) {B' : Nat} (hB : B ≤ B') : OwnFrom B' J := fun s A C row hs hg hr => h s A C row hs hg (fun r e => by
  obtain ⟨h1, o, h2, h3⟩ := hr r e
  exact ⟨by omega, fun cs z e2 => by rw [h2] at e2; cases e2; cases h3⟩)

theorem OwnF.and {β : Type} {B : Nat} {I J : β → World → Prop} (h : OwnF B I) (k : OwnF B J) : OwnF B (fun s W => I s W ∧ J s W) := fun s A C row hs hg hr => ⟨h s A C row hs.1 hg hr, k s A C row hs.2 hg hr⟩
theorem OwnF.alloc {β : Type} {B : Nat} {J : β → World → Prop} (h : OwnF B J) {s : β} {W : World} (o : Obj) (hs : J s W) : J s (W.alloc o) := h _ _ _ none hs (World.grownBy_alloc _ _ _) (by simp)
theorem OwnF.step {β : Type} {B : Nat} {J : β → World → Prop} (h : OwnF B J) {s : β} {W W' : World} (hb : Below W.heap.size W W') (hs : J s W) : J s W' :=
  h _ _ _ none hs ⟨hb.os, hb.tape, hb.output, hb.size, fun k hk _ => hb.block k hk⟩ (by simp)

end Go
