/- It is proved what the FamilyOther of the program and of the model return; conditions: those of each statement. -/
import Derived.Test.YtgaappbcekllhaaRows
import Derived.WalkKit
import Derived.WalkSpells
import Derived.ProofKit
import Derived.OpenShut
import Derived.ShutString
import Derived.ChangeOld
import Derived.Below
import Derived.Deep.RegionHeld3
import Derived.Deep.QuietTactic
import Derived.BigQuiet
import Derived.Lib.Hide
import Derived.Lib.SmallJoins
import Derived.Outline
import Derived.Laws.MakeOwn
import Derived.Laws.OwnMore
import Derived.IntWalk
import Derived.RangeFuncNested
import Derived.RangeFuncBound
import Derived.RangeFuncCalls
import Derived.RangeFuncLeaves
import Derived.RangeFuncBox
import Derived.Shelf.Abstract
import Derived.Shelf.RegionOpen
import Derived.OwnWalkIn
import Derived.TacticsInMore
import Derived.LoopNIn
import Derived.LoopIn
import Derived.Maps.AppendAt
import Derived.Deep.AppendLies
import Derived.OwnWalk
import Derived.Test.YtgaappbcekllhaaFbaa
import Derived.Test.YtgaappbcekllhaaFbab
import Derived.Test.YtgaappbcekllhaaFbad
import Derived.Test.YtgaappbcekllhaaFbae
import Derived.Test.YtgaappbcekllhaaFbat
import Derived.Test.YtgaappbcekllhaaFbac
import Derived.Test.YtgaappbcekllhaaFbam
import Derived.RangeFuncWrites
namespace Go.Proofs.Ytgaappbcekllhaa
open Go.RowKit

theorem full_b (m : Int) (a : Option Addr) (n cap : Nat) (w : World) (h1 : 1 ≤ m) (h2 : m ≤ 6) :
    Calls Try.prog 57 #[.agg #[.int .i64 m, .slice a n cap]] w fun e w' => e = .returned (.int .i64 (fullI m)) ∧ Below w.heap.size w w' :=
  (full_any m a n cap w h1 h2).mono fun e w' ⟨he, hw⟩ => ⟨he, by rw [hw]; exact below1 _ _⟩

theorem otherFn_any (m : Int) (a : Option Addr) (n c : Nat) (z : Int) (X : Nat) (W : World) (h0 : W.cell? ⟨X, 0, none⟩ = some (.int .i64 m)) (h1 : W.cell? ⟨X, 1, none⟩ = some (.slice a n c)) (hm1 : 1 ≤ m) (hm6 : m ≤ 6) :
    Calls Try.prog 56 #[.int .i64 z, .pointer (some ⟨X, 0, none⟩)] W fun e W' => e = .returned (.int .i64 (bits .andNot .i64 (fullI m) z)) ∧ Below W.heap.size W W' := by
  go_enter Try.func56, Try.ntmps56
  go_wp2_with (go_at_call 57; refine (full_b _ _ _ _ _ hm1 hm6).mono ?_; rintro e w1 ⟨rfl, hb⟩; have HB := Lib.hid hb; clear hb)
  go_ret
  exact ⟨rfl, HB.out⟩

/-- The method other: no bound of clubs. -/
theorem otherFam_any (m : Int) (a : Option Addr) (c : Nat) (zs : List Int) (w : World) (ha : Ints w w.heap.size a zs) (hx : zs.length ≤ 1048576) (hm1 : 1 ≤ m) (hm6 : m ≤ 6) :
    Calls Try.prog 38 #[.agg #[.int .i64 m, .slice a zs.length c]] w (RetFam w m (zs.map fun z => bits .andNot .i64 (fullI m) z)) := by
  have hmf : ∀ (fn : Fn) (first cap : Array Value) (w : World), (Instr.makeFunc fn first cap).run Try.prog w = .ok (.func fn first cap) w := fun _ _ _ _ => rfl
  have HB0 := Lib.hid (below2 w (.cells #[.int .i64 m, .slice a zs.length c] 25) (.cells #[.int .i64 0, .slice none 0 0] 25))
  have HA := Lib.hid (ha.below HB0.out)
  have B0 := Lib.hid (alloc2_0 w (.cells #[.int .i64 m, .slice a zs.length c] 25) (.cells #[.int .i64 0, .slice none 0 0] 25))
  have Z1 := Lib.hid (show w.heap.size + 1 < ((w.alloc (.cells #[.int .i64 m, .slice a zs.length c] 25)).alloc (.cells #[.int .i64 0, .slice none 0 0] 25)).heap.size by simp)
  have Z0 := Lib.hid (show w.heap.size < ((w.alloc (.cells #[.int .i64 m, .slice a zs.length c] 25)).alloc (.cells #[.int .i64 0, .slice none 0 0] 25)).heap.size by simp; omega)
  clear ha
  go_enter Try.func38, Try.ntmps38
  go_wp2_with fail
  refine (mapped70 m a c zs w.heap.size (fun z => bits .andNot .i64 (fullI m) z) _ (HA.out.mono (by simp; omega)) hx (fun z W hW => otherFn_any m a zs.length c z _ W ((hW.cell (p := ⟨w.heap.size, 0, none⟩) Z0.out).trans ((blk_cell B0.out 0).trans (cell2_0 _ _))) ((hW.cell (p := ⟨w.heap.size, 1, none⟩) Z0.out).trans ((blk_cell B0.out 1).trans (cell2_1 _ _))) hm1 hm6)).mono ?_
  rintro e w2 ⟨a2, c2, rfl, ho2, hb2⟩
  have b2' : w2.heap[w.heap.size + 1]? = some (.cells #[.int .i64 0, .slice none 0 0] 25 (0, 0)) := (hb2.block _ (by simp)).trans (alloc2_1 w _ _)
  have d0 := (blk_cell b2' 0).trans (cell2_0 _ _)
  have d1 := (blk_cell b2' 1).trans (cell2_1 _ _)
  have f0 := blk_frozen b2' 0
  have f1 := blk_frozen b2' 1
  have HO2 := Lib.hid ho2
  have HB2 := Lib.hid (HB0.out.trans (hb2.mono (by simp; omega)))
  clear ho2 hb2 b2'
  go_wp2
  refine bodyPost_ret (v := .agg #[.int .i64 m, .slice a2 (zs.map fun z => bits .andNot .i64 (fullI m) z).length c2]) (by simp [results, Try.results38, go_sem, d0, d1]) rfl ?_
  refine ⟨a2, c2, rfl, ?_, ?_⟩
  · exact own_mono (ownsRow_setCell_below (ownsRow_setCell_below HO2.out Z1.out _) Z1.out _) (by simp; omega)
  · exact (HB2.out.setCell (p := ⟨w.heap.size + 1, 0, none⟩) (by simp) _).setCell (p := ⟨w.heap.size + 1, 1, none⟩) (by simp) _

set_option maxRecDepth 100000 in
set_option maxHeartbeats 1600000 in
theorem implOther_no (m : Int) (a : Option Addr) (c : Nat) (zs : List Int) (w : World) (ha : Ints w w.heap.size a zs) (hx : zs.length ≤ 1048576) (hf : famIn m zs = false) :
    Calls Try.prog 15 #[.agg #[.int .i64 m, .slice a zs.length c]] w (RetFB w 0 [] false) := by
  have HB0 := Lib.hid (below2 w (.cells #[.int .i64 m, .slice a zs.length c] 25) (.cells #[.int .i64 0, .slice none 0 0] 25))
  have HA := Lib.hid (ha.below HB0.out)
  have HF := Lib.hid hf
  clear hf ha
  go_enter Try.func15, Try.ntmps15
  go_wp2_with fail
  refine (implFamilyIn_any _ _ _ zs _ (HA.out.mono (by simp; omega)) hx).mono ?_
  rintro e w1 ⟨rfl, hb⟩
  rw [HF.out]
  have b2 : w1.heap[w.heap.size + 1]? = some (.cells #[.int .i64 0, .slice none 0 0] 25 (0, 0)) := (hb.block _ (by simp)).trans (alloc2_1 w _ _)
  have d0 := blk_cell b2 0
  have d1 := blk_cell b2 1
  have f0 := blk_frozen b2 0
  have f1 := blk_frozen b2 1
  simp only [cell2_0, cell2_1] at d0 d1
  have HB := Lib.hid (HB0.out.trans (hb.mono (by simp; omega)))
  clear hb b2
  go_wp2
  refine bodyPost_ret (v := .tuple #[.agg #[.int .i64 0, .slice none 0 0], .bool false]) (by simp [results, Try.results15, go_sem, d0, d1]) rfl ?_
  exact ⟨none, 0, rfl, own_nil _ _, (HB.out.setCell (p := ⟨w.heap.size + 1, 0, none⟩) (by simp) _).setCell (p := ⟨w.heap.size + 1, 1, none⟩) (by simp) _⟩

set_option maxRecDepth 100000 in
set_option maxHeartbeats 1600000 in
theorem implOther_yes (m : Int) (a : Option Addr) (c : Nat) (zs : List Int) (w : World) (ha : Ints w w.heap.size a zs) (hx : zs.length ≤ 1048576) (hf : famIn m zs = true) :
    Calls Try.prog 15 #[.agg #[.int .i64 m, .slice a zs.length c]] w (RetFB w m (zs.map fun z => bits .andNot .i64 (fullI m) z) true) := by
  have HB0 := Lib.hid (below2 w (.cells #[.int .i64 m, .slice a zs.length c] 25) (.cells #[.int .i64 0, .slice none 0 0] 25))
  have HA := Lib.hid (ha.below HB0.out)
  have HF := Lib.hid hf
  obtain ⟨hm1, hm6, -, -⟩ := famIn_out hf
  clear hf ha
  go_enter Try.func15, Try.ntmps15
  go_wp2_with fail
  refine (implFamilyIn_any _ _ _ zs _ (HA.out.mono (by simp; omega)) hx).mono ?_
  rintro e w1 ⟨rfl, hb⟩
  rw [HF.out]
  have b0 : w1.heap[w.heap.size]? = some (.cells #[.int .i64 m, .slice a zs.length c] 25 (0, 0)) := (hb.block _ (by simp; omega)).trans (alloc2_0 w _ _)
  have b2 : w1.heap[w.heap.size + 1]? = some (.cells #[.int .i64 0, .slice none 0 0] 25 (0, 0)) := (hb.block _ (by simp)).trans (alloc2_1 w _ _)
  have x0 := blk_cell b0 0
  have x1 := blk_cell b0 1
  simp only [cell2_0, cell2_1] at x0 x1
  have HB := Lib.hid (HB0.out.trans (hb.mono (by simp; omega)))
  have z1 : w.heap.size + 1 < w1.heap.size := by have := hb.size; simp at this; omega
  have HA1 := Lib.hid ((HA.out.below (hb.mono (by simp; omega))).mono (B' := w1.heap.size) (by omega))
  have B0 := Lib.hid b0
  have B2 := Lib.hid b2
  have hmf : ∀ (fn : Fn) (first cap : Array Value) (w : World), (Instr.makeFunc fn first cap).run Try.prog w = .ok (.func fn first cap) w := fun _ _ _ _ => rfl
  clear hb b0 b2
  go_wp2_with fail
  refine (otherFam_any m a c zs _ HA1.out hx hm1 hm6).mono ?_
  rintro e w2 ⟨a2, c2, rfl, ho2, hb2⟩
  have b2' := (hb2.block _ z1).trans B2.out
  have d0 := blk_cell b2' 0
  have d1 := blk_cell b2' 1
  have f0 := blk_frozen b2' 0
  have f1 := blk_frozen b2' 1
  simp only [cell2_0, cell2_1] at d0 d1
  have HO2 := Lib.hid ho2
  have HB2 := Lib.hid (HB.out.trans (hb2.mono (by omega)))
  clear ho2 hb2 b2'
  go_wp2
  refine bodyPost_ret (v := .tuple #[.agg #[.int .i64 m, .slice a2 (zs.map fun z => bits .andNot .i64 (fullI m) z).length c2], .bool true]) (by simp [results, Try.results15, go_sem, d0, d1]) rfl ?_
  refine ⟨a2, c2, rfl, ?_, ?_⟩
  · exact own_mono (ownsRow_setCell_below (ownsRow_setCell_below HO2.out (by simp; omega) _) (by simp; omega) _) (by omega)
  · exact (HB2.out.setCell (p := ⟨w.heap.size + 1, 0, none⟩) (by simp) _).setCell (p := ⟨w.heap.size + 1, 1, none⟩) (by simp) _

def otherZ (m : Int) (zs : List Int) : List Int := if famIn m zs then zs.map fun z => bits .andNot .i64 (fullI m) z else []
def otherM (m : Int) (zs : List Int) : Int := if famIn m zs then m else 0
theorem otherZ_len (m : Int) (zs : List Int) (h : zs.length ≤ 1048576) : (otherZ m zs).length ≤ 1048576 := by
  unfold otherZ; split <;> simp; exact h

theorem implOther_any (m : Int) (a : Option Addr) (c : Nat) (zs : List Int) (w : World) (ha : Ints w w.heap.size a zs) (hx : zs.length ≤ 1048576) :
    Calls Try.prog 15 #[.agg #[.int .i64 m, .slice a zs.length c]] w (RetFB w (otherM m zs) (otherZ m zs) (famIn m zs)) := by
  unfold otherM otherZ
  cases hf : famIn m zs
  · exact implOther_no m a c zs w ha hx hf
  · exact implOther_yes m a c zs w ha hx hf

end Go.Proofs.Ytgaappbcekllhaa

/- It is proved what a loop over a function does where the function keeps its state in cells of its own and the body writes one block that lay ahead of the loop; conditions: those of each statement. -/
namespace Go
open Go.RowKit

/-- Whatever lies in a block that X does not name lies as it lay. -/
structure But (X : Nat → Prop) (W W' : World) : Prop where
  os : W'.os = W.os
  tape : W'.tape = W.tape
  output : W'.output = W.output
  size : W.heap.size ≤ W'.heap.size
  same : ∀ k, k < W.heap.size → ¬ X k → W'.heap[k]? = W.heap[k]?

theorem But.refl (X : Nat → Prop) (W : World) : But X W W := ⟨rfl, rfl, rfl, Nat.le_refl _, fun _ _ _ => rfl⟩
theorem But.trans {X : Nat → Prop} {A B C : World} (h : But X A B) (k : But X B C) : But X A C :=
  ⟨k.os.trans h.os, k.tape.trans h.tape, k.output.trans h.output, Nat.le_trans h.size k.size, fun i hi hX => (k.same i (Nat.lt_of_lt_of_le hi h.size) hX).trans (h.same i hi hX)⟩

theorem But.mono {X Y : Nat → Prop} {A B : World} (h : But X A B) (hXY : ∀ k, k < A.heap.size → X k → Y k) : But Y A B := ⟨h.os, h.tape, h.output, h.size, fun i hi hY => h.same i hi (fun e => hY (hXY _ hi e))⟩
theorem But.of_grownBy {X : Nat → Prop} {W W' : World} {row : Option Nat} (hg : W.grownBy W' row) (hr : ∀ r, row = some r → r < W.heap.size → X r) : But X W W' :=
  ⟨hg.os, hg.tape, hg.output, hg.size, fun k hk hX => hg.block k hk (fun e => hX (hr k e.symm hk))⟩

theorem But.putObj {X : Nat → Prop} (W : World) (l : Nat) (o : Obj) (hl : X l) : But X W (W.putObj l o) := But.of_grownBy (grownBy_putObj' W l o) (fun r e _ => by cases e; exact hl)
theorem But.alloc {X : Nat → Prop} (W : World) (o : Obj) : But X W (W.alloc o) := But.of_grownBy (World.grownBy_alloc W o none) (by simp)
theorem But.setCell {X : Nat → Prop} (W : World) (b i : Nat) (v : Value) (hb : b < W.heap.size → X b) : But X W (W.setCell ⟨b, i, none⟩ v) :=
  ⟨rfl, rfl, rfl, by simp, fun k hk hX => Below.heap_setCell W ⟨b, i, none⟩ v k (fun e => hX (by subst e; exact hb hk))⟩

theorem But.drew {X : Nat → Prop} (W : World) : But X W W.drew := ⟨rfl, rfl, rfl, Nat.le_refl _, fun _ _ _ => rfl⟩
theorem But.keep {X : Nat → Prop} {W W' : World} {k : Nat} {o : Obj} (h : But X W W') (hX : ¬ X k) (hk : W.heap[k]? = some o) : W'.heap[k]? = some o := (h.same k (Array.getElem?_eq_some_iff.1 hk).1 hX).trans hk
theorem But.below {X : Nat → Prop} {W W' : World} {B : Nat} (h : But X W W') (hB : B ≤ W.heap.size) (hX : ∀ k, X k → B ≤ k) : Below B W W' :=
  ⟨h.os, h.tape, h.output, h.size, fun k hk => h.same k (Nat.lt_of_lt_of_le hk hB) (fun e => by have := hX k e; omega)⟩

theorem But.from {X : Nat → Prop} {W W' : World} {B : Nat} (h : But X W W') (hX : ∀ k o, B ≤ k → W.heap[k]? = some o → X k → o.isCells = true) : KeepsFrom B W W' :=
  ⟨h.size, fun k o hB hk ho => h.keep (fun e => by rw [hX k o hB hk e] at ho; cases ho) hk⟩

theorem But.of_below {X : Nat → Prop} {W W' : World} (h : Below W.heap.size W W') : But X W W' := ⟨h.os, h.tape, h.output, h.size, fun k hk _ => h.block k hk⟩
end Go

/- It is proved what a loop over a function does where the function keeps its state in cells of its own and the body writes a variable's block and ints of its own; conditions: those of each statement. -/
namespace Go
open Go.RowKit

/-- What a round may turn: the loop's record, a variable's block D, and ints from lo on. -/
structure ButF (lo D l : Nat) (A B : World) : Prop where
  os : B.os = A.os
  tape : B.tape = A.tape
  output : B.output = A.output
  size : A.heap.size ≤ B.heap.size
  same : ∀ k, k < A.heap.size → k ≠ l → k ≠ D → (lo ≤ k → ∀ cs z, A.heap[k]? ≠ some (.cells cs 3 z)) → B.heap[k]? = A.heap[k]?

theorem ButF.refl (lo D l : Nat) (W : World) : ButF lo D l W W := ⟨rfl, rfl, rfl, Nat.le_refl _, fun _ _ _ _ _ => rfl⟩
theorem ButF.trans {lo D l : Nat} {A B C : World} (h : ButF lo D l A B) (k : ButF lo D l B C) : ButF lo D l A C :=
  ⟨k.os.trans h.os, k.tape.trans h.tape, k.output.trans h.output, Nat.le_trans h.size k.size, fun i hi hl hD hn => by
    have h1 := h.same i hi hl hD hn
    exact (k.same i (Nat.lt_of_lt_of_le hi h.size) hl hD (fun hlo cs z => by rw [h1]; exact hn hlo cs z)).trans h1⟩

theorem ButF.of_but {lo D l : Nat} {X : Nat → Prop} {A B : World} (h : But X A B) (hX : ∀ k, X k → k = l ∨ k = D) : ButF lo D l A B :=
  ⟨h.os, h.tape, h.output, h.size, fun k hk h1 h2 _ => h.same k hk (fun e => (hX k e).elim h1 h2)⟩

theorem ButF.of_below {lo D l : Nat} {A B : World} (h : Below A.heap.size A B) : ButF lo D l A B := ⟨h.os, h.tape, h.output, h.size, fun k hk _ _ _ => h.block k hk⟩
theorem ButF.drew {lo D l : Nat} (W : World) : ButF lo D l W W.drew := ⟨rfl, rfl, rfl, Nat.le_refl _, fun _ _ _ _ _ => rfl⟩
theorem ButF.to {lo D l : Nat} {A B : World} (h : ButF lo D D A B) : ButF lo D l A B := ⟨h.os, h.tape, h.output, h.size, fun k hk _ h2 h3 => h.same k hk h2 h2 h3⟩
theorem ButF.below {lo D l : Nat} {A B : World} (h : ButF lo D l A B) (hlo : lo ≤ A.heap.size) (hD : lo ≤ D) (hl : lo ≤ l) : Below lo A B :=
  ⟨h.os, h.tape, h.output, h.size, fun k hk => h.same k (by omega) (by omega) (by omega) (fun e => by omega)⟩

theorem ButF.keep {lo D l k : Nat} {A B : World} {o : Obj} (h : ButF lo D l A B) (hk : A.heap[k]? = some o) (h1 : k ≠ l) (h2 : k ≠ D) (h3 : lo ≤ k → ∀ cs z, o ≠ .cells cs 3 z) : B.heap[k]? = some o :=
  (h.same k (Array.getElem?_eq_some_iff.1 hk).1 h1 h2 (fun hlo cs z e => h3 hlo cs z (by rw [hk] at e; exact Option.some.inj e))).trans hk

theorem ButF.from {lo D l B : Nat} {W W' : World} (h : ButF lo D l W W') (hD : D < B) (hl : l < B) : KeepsFrom B W W' :=
  ⟨h.size, fun k o hB hk ho => h.keep hk (by omega) (by omega) (fun _ cs z e => by subst e; cases ho)⟩

/-- Behind an append of ints and the store back into the variable's block. -/
theorem ButF.append {lo D : Nat} {W w1 : World} {v v' : Value} {k : Nat} {xs : List Value} {tmp : Obj} (i : Nat) (hr : W.ownsRow lo 3 1 v k xs) (hgrow : (W.alloc tmp).grownBy w1 v.ownBlock) : ButF lo D D W (w1.setCell ⟨D, i, none⟩ v') := by
  have hs : (W.alloc tmp).heap.size = W.heap.size + 1 := by simp
  refine ⟨hgrow.os, hgrow.tape, hgrow.output, by have := hgrow.size; simp only [World.size_setCell]; omega, fun j hj _ hD hn => ?_⟩
  rw [Below.heap_setCell w1 ⟨D, i, none⟩ v' j hD, hgrow.block j (by omega) (fun e => ?_), Below.heap_alloc W tmp j hj]
  rcases hr.2 with ⟨rfl, _⟩ | ⟨g, cap, cur, rfl, hb, hg, _⟩
  · simp [Value.ownBlock] at e
  · obtain rfl : j = g := by simpa [Value.ownBlock] using e
    exact hn hb _ _ hg

/-- What abides whatever is done to blocks from B on that are no ints. -/
def OwnF {β : Type} (B : Nat) (J : β → World → Prop) : Prop := ∀ s A C row, J s A → A.grownBy C row → (∀ r, row = some r → B ≤ r ∧ ∀ cs z, A.heap[r]? ≠ some (.cells cs 3 z)) → J s C

theorem OwnF.from {β : Type} {B : Nat} {J : β → World → Prop} (h : OwnF B J) {B' : Nat} (hB : B ≤ B') : OwnFrom B' J := fun s A C row hs hg hr => h s A C row hs hg (fun r e => by
  obtain ⟨h1, o, h2, h3⟩ := hr r e
  exact ⟨by omega, fun cs z e2 => by rw [h2] at e2; cases e2; cases h3⟩)

theorem OwnF.and {β : Type} {B : Nat} {I J : β → World → Prop} (h : OwnF B I) (k : OwnF B J) : OwnF B (fun s W => I s W ∧ J s W) := fun s A C row hs hg hr => ⟨h s A C row hs.1 hg hr, k s A C row hs.2 hg hr⟩
theorem OwnF.alloc {β : Type} {B : Nat} {J : β → World → Prop} (h : OwnF B J) {s : β} {W : World} (o : Obj) (hs : J s W) : J s (W.alloc o) := h _ _ _ none hs (World.grownBy_alloc _ _ _) (by simp)
theorem OwnF.step {β : Type} {B : Nat} {J : β → World → Prop} (h : OwnF B J) {s : β} {W W' : World} (hb : Below W.heap.size W W') (hs : J s W) : J s W' :=
  h _ _ _ none hs ⟨hb.os, hb.tape, hb.output, hb.size, fun k hk _ => hb.block k hk⟩ (by simp)

end Go
