/- It is proved what the method ask leaves in its map; conditions: those of each statement. -/
import Derived.RowKit
import Derived.Laws.CopyRow
import Derived.Lib.SlBuf
import Derived.Deep.QuietTactic
import Derived.RangeFuncNested
import Derived.RangeFuncBound
import Derived.RangeFuncCalls
import Derived.RangeFuncLeaves
import Derived.RangeFuncBox
import Derived.RangeFuncWrites
import Derived.StillTailTactics
import Derived.Maps.OwnIn
import Derived.Maps.Ext
import Derived.DeepKeys4
import Derived.MapKept
import Derived.Test.YtckbhhaigpajpaaDoorRows
import Derived.WalkKit
import Derived.WalkSpells
import Derived.ProofKit
import Derived.OpenShut
import Derived.ShutString
import Derived.ChangeOld
import Derived.Below
import Derived.Deep.RegionHeld3
import Derived.BigQuiet
import Derived.Lib.Hide
import Derived.Lib.SmallJoins
import Derived.Outline
import Derived.Laws.MakeOwn
import Derived.Laws.OwnMore
import Derived.IntWalk
import Derived.Lib.AppendZeros
import Derived.Maps.AppendAt
import Derived.Deep.AppendLies
import Derived.OwnWalk
import Derived.Lib.SlicesCompact
import Derived.Lib.OwnBridge
import Derived.OrdersIn
import Derived.TacticsIn
import Derived.Shelf.Sort.Plain
import Derived.Shelf.Slices.In.SortNone
import Derived.Shelf.Slices.CompactI
import Derived.Ground.Names2Prog
import Derived.Shelf.Abstract
import Derived.Shelf.RegionOpen
import Derived.OwnWalkIn
import Derived.TacticsInMore
import Derived.LoopNIn
import Derived.LoopIn
import Derived.StillTail
import Derived.StillTactics
import Derived.Shelf.Spec.TrailingZeros
import Derived.Deep.RegionLaw
import Derived.Lib.SliceRun
import Derived.Deep.LoopGhost
import Derived.Test.YtckbhhaigpajpaaDoorRaad
import Derived.Test.YtckbhhaigpajpaaDoorRaal
import Derived.Test.YtckbhhaigpajpaaDoorRaae
import Derived.Test.YtckbhhaigpajpaaDoorRaaa
import Derived.Test.YtckbhhaigpajpaaDoorRaab
import Derived.Test.YtckbhhaigpajpaaDoorRaac
namespace Go.Proofs.YtckbhhaigpajpaaDoor
open Go.RowKit Go.Shelf Go.Maps

attribute [local go_sem] Oper.semAt_some

theorem arr8 (x : Array Bool) (h : x.size = 8) : ∃ l0 l1 l2 l3 l4 l5 l6 l7 : Bool, x = #[l0, l1, l2, l3, l4, l5, l6, l7] := by
  obtain ⟨l⟩ := x
  match l, h with
  | [l0, l1, l2, l3, l4, l5, l6, l7], _ => exact ⟨_, _, _, _, _, _, _, _, rfl⟩

end Go.Proofs.YtckbhhaigpajpaaDoor

/- It is proved that a region that draws its order may be walked one operation at a time where what each operation gives does not hang on the order; conditions: those of each statement. -/
namespace Go
section
variable {F : Fence} {n : Nat} {P : Program} {ops : Array Oper} {Q : Exit → Act → World → Prop} {md : Region.Mode}

/-- Q, but K where nothing jumps. -/
def UponK (K : Act → World → Prop) (Q : Exit → Act → World → Prop) : Exit → Act → World → Prop
  | .normal, a, w => K a w
  | .ret, a, w => Q .ret a w
  | .exit i, a, w => Q (.exit i) a w
  | .goto t, a, w => Q (.goto t) a w
  | .panic c, a, w => Q (.panic c) a w
  | .outgrown, a, w => Q .outgrown a w

theorem Oper.wpIn_uponK {o : Oper} {a : Act} {w : World} {K K' : Act → World → Prop} (hh : o.wpIn F n P a w K (UponK K' Q)) : o.wpIn F n P a w K Q := by
  unfold Oper.wpIn at *
  refine ⟨hh.1, ?_⟩
  have hh := hh.2
  generalize (o.semAt F.round a.eval).run P w = r at *
  cases r with
  | ok x w' =>
    cases x <;> simp only [Oper.uponIn] at hh ⊢ <;>
      first
        | exact hh
        | exact ⟨hh.1, CallsIn.mono hh.2 (fun e w'' he => by cases e <;> exact he)⟩
        | exact ⟨hh.1, RoundIn.mono hh.2 (fun e w'' he => by cases e <;> exact he)⟩
  | halt x w' => cases x <;> simp only [Oper.uponIn] at hh ⊢ <;> exact hh

theorem wpOpIn_of_list {i : Nat} {o : Oper} {a : Act} {w : World} {K : Act → World → Prop} (ho : ops[i]? = some o) (h : wpListIn F n P ops (UponK K Q) [o] a w) : wpOpIn F n P ops Q i K a w := by
  unfold wpOpIn
  simp only [ho]
  unfold wpListIn at h
  split
  · rename_i hw; simp only [hw, if_true] at h; exact Oper.wpIn_uponK h
  · rename_i hw; simp only [hw] at h; exact h

def masks : Nat → List (List Bool)
  | 0 => [[]]
  | k + 1 => (masks k).flatMap fun m => [false :: m, true :: m]

theorem mem_masks : ∀ l : List Bool, l ∈ masks l.length
  | [] => by simp [masks]
  | b :: l => by
    simp only [List.length_cons, masks, List.mem_flatMap]
    exact ⟨l, mem_masks l, by cases b <;> simp⟩

/-- Where no operation may come next, all have come. -/
def Region.endsB (md : Region.Mode) (ops : Array Oper) : Bool := (masks ops.size).all fun l => !(Region.ready md ops l.toArray).isEmpty || l.all id

theorem count_set : ∀ (l : List Bool) (i : Nat), l[i]? = some false → (l.set i true).count false + 1 = l.count false
  | [], i, h => by simp at h
  | b :: l, 0, h => by simp at h; subst h; simp
  | b :: l, i + 1, h => by
    have := count_set l i (by simpa using h)
    cases b <;> simp [List.count_cons] <;> omega

theorem wpAnyIn_held {A : Array Bool → Act} {S : Array Bool → World → Prop} (hends : Region.endsB md ops = true)
    (hstep : ∀ listed w i, listed.size = ops.size → i ∈ Region.ready md ops listed → S listed w → wpOpIn F n P ops Q i (fun a' w' => a' = A (listed.setIfInBounds i true) ∧ S (listed.setIfInBounds i true) w') (A listed) w)
    (hend : ∀ listed w, listed.size = ops.size → (listed.toList.all id) = true → S listed w → Q .normal (A listed) w) :
    ∀ fuel listed w, listed.size = ops.size → listed.toList.count false ≤ fuel → S listed w → wpAnyIn F n P md ops Q fuel listed (A listed) w
  | 0, listed, w, hs, hc, hS => by
    have hall : listed.toList.all id = true := by
      rw [List.all_eq_true]
      intro x hx
      cases x
      · have := List.count_pos_iff.2 hx; omega
      · rfl
    refine ⟨?_, hend listed w hs hall hS⟩
    unfold Region.ready
    rw [List.filter_eq_nil_iff]
    intro i hi
    rw [List.mem_range] at hi
    have hi' : i < listed.size := by omega
    have : listed.getD i true = true := by
      have h1 := List.all_eq_true.1 hall listed[i] (by simp)
      simp only [id] at h1
      simp [Array.getD, hi', h1]
    simp [this]
  | fuel + 1, listed, w, hs, hc, hS => by
    refine ⟨fun h0 => hend listed w hs ?_ hS, fun i hi => ?_⟩
    · have h1 := List.all_eq_true.1 hends listed.toList (by have := mem_masks listed.toList; rwa [Array.length_toList, hs] at this)
      simpa [h0] using h1
    · refine wpOpIn_mono ?_ (hstep listed w i hs hi hS)
      rintro a' w' ⟨rfl, hS'⟩
      refine wpAnyIn_held hends hstep hend fuel _ w' (by simpa using hs) ?_ hS'
      have hu : listed.toList[i]? = some false := by
        unfold Region.ready at hi
        rw [List.mem_filter, Bool.and_eq_true, List.mem_range] at hi
        have hi' : i < listed.size := by omega
        have := hi.2.1
        simp [Array.getD, hi'] at this
        simp [hi', this]
      have := count_set listed.toList i hu
      simp only [Array.toList_setIfInBounds]
      omega

theorem wpIn_region_held {A : Array Bool → Act} {S : Array Bool → World → Prop} {id' : Nat} {a : Act} {w : World} (hm : P.follows .mixedOrders = true) (hends : Region.endsB .any ops = true)
    (ha : A (Array.replicate ops.size false) = a) (hS : S (Array.replicate ops.size false) { w with drawn := w.drawn + 1 })
    (hstep : ∀ listed w i, listed.size = ops.size → i ∈ Region.ready .any ops listed → S listed w → wpOpIn F n P ops Q i (fun a' w' => a' = A (listed.setIfInBounds i true) ∧ S (listed.setIfInBounds i true) w') (A listed) w)
    (hend : ∀ listed w, listed.size = ops.size → (listed.toList.all id) = true → S listed w → Q .normal (A listed) w) : (Code.region id' ops true).wpIn F n P Q a w := by
  subst ha
  exact wpIn_region_any hm (wpAnyIn_held hends hstep hend ops.size _ _ (by simp) (by simp) hS)

end
end Go

/- It is proved whether some club has colours that are not proper; conditions: those of each statement. -/
namespace Go.Proofs.YtckbhhaigpajpaaDoor
open Go.RowKit Go.Shelf

attribute [local go_sem] Oper.semAt_some

theorem mem8 {z : Nat} (h : z < 64) : memK 8 z = mem z := memW_is (k := 6) (by omega) (by omega)
end Go.Proofs.YtckbhhaigpajpaaDoor

/- It is proved how lists of the call's own and boxed families read; conditions: the bounds in each statement. -/
namespace Go.Proofs.YtckbhhaigpajpaaDoor
open Go.RowKit

theorem own_ints {w : World} {B : Nat} {a : Option Addr} {n cap : Nat} {zs : List Int} (h : OwnI w B (.slice a n cap) zs) : Ints w w.heap.size a zs := by
  rcases h.2 with ⟨h2, hn⟩ | ⟨g, c, cur, e, hb, hg, r⟩
  · exact .inl (List.eq_nil_of_length_eq_zero hn)
  · injection e with e1 e2 e3
    subst e1
    refine .inr ⟨g, 0, rfl, (Array.getElem?_eq_some_iff.1 hg).1, fun j hj => ?_⟩
    have h' : w.ownsRow B 3 1 (.slice (some ⟨g, 0, none⟩) zs.length c) zs.length (zs.map (Value.int .i64)) := ⟨h.1, .inr ⟨g, c, cur, rfl, hb, hg, r⟩⟩
    have := h'.cellAt j (by omega)
    simpa [hj] using this

theorem own_block {w : World} {B : Nat} {a : Option Addr} {n cap : Nat} {zs : List Int} (h : OwnI w B (.slice a n cap) zs) : ∀ x, a = some x → B ≤ x.block ∧ x.block < w.heap.size := by
  rintro x rfl
  exact World.ownsRow.lt h x.block rfl

theorem own_below {w w' : World} {B B' : Nat} {v : Value} {zs : List Int} (h : OwnI w B v zs) (hb : Below B' w w') (hB : w.heap.size ≤ B') : OwnI w' B v zs := by
  refine ⟨h.1, ?_⟩
  rcases h.2 with h2 | ⟨g, c, cur, e, hb', hg, r⟩
  · exact .inl h2
  · exact .inr ⟨g, c, cur, e, hb', (hb.block g (by have := (Array.getElem?_eq_some_iff.1 hg).1; omega)).trans hg, r⟩

theorem big_len {zs : List Int} (h : 1048576 < zs.length) : (1048576 : Int) < (zs.length : Int) := by omega
/-- The law's argument, boxed in the block that the law began with: it and its list read as they did. -/
structure AF (w : World) (m : Int) (a : Option Addr) (cap : Nat) (zs : List Int) (W : World) : Prop where
  x0 : W.cell? ⟨w.heap.size, 0, none⟩ = some (.int .i64 m)
  x1 : W.cell? ⟨w.heap.size, 1, none⟩ = some (.slice a zs.length cap)
  ints : Ints W w.heap.size a zs
  below : Below w.heap.size w W
  size : w.heap.size + 1 ≤ W.heap.size

theorem AF.step {w : World} {m : Int} {a : Option Addr} {cap : Nat} {zs : List Int} {W W' : World} (h : AF w m a cap zs W) (hb : Below W.heap.size W W') : AF w m a cap zs W' :=
  ⟨(hb.cell (p := ⟨w.heap.size, 0, none⟩) h.size).trans h.x0, (hb.cell (p := ⟨w.heap.size, 1, none⟩) h.size).trans h.x1, h.ints.below (hb.mono (by have := h.size; omega)),
    h.below.trans (hb.mono (by have := h.size; omega)), by have := h.size; have := hb.size; omega⟩

theorem AF.start (w : World) (m : Int) (a : Option Addr) (cap : Nat) (zs : List Int) (ha : Ints w w.heap.size a zs) : AF w m a cap zs (w.alloc (.cells #[.int .i64 m, .slice a zs.length cap] 33)) :=
  ⟨blk_cell (alloc_new w _) 0, blk_cell (alloc_new w _) 1, ha.below (below1 w _), below1 w _, by simp⟩

theorem AF.old {w : World} {m : Int} {a : Option Addr} {cap : Nat} {zs : List Int} {W : World} (h : AF w m a cap zs W) : Ints W W.heap.size a zs := h.ints.mono (by have := h.size; omega)
theorem AF.drew {w : World} {m : Int} {a : Option Addr} {cap : Nat} {zs : List Int} {W : World} (h : AF w m a cap zs W) : AF w m a cap zs W.drew := ⟨h.x0, h.x1, h.ints, h.below.drew, h.size⟩
/-- A family that the call holds in a box of its own: the box and its list read as they did. -/
structure XF (X : Nat) (m : Int) (a : Option Addr) (cap : Nat) (zs : List Int) (W : World) : Prop where
  x0 : W.cell? ⟨X, 0, none⟩ = some (.int .i64 m)
  x1 : W.cell? ⟨X, 1, none⟩ = some (.slice a zs.length cap)
  ints : Ints W W.heap.size a zs
  size : X < W.heap.size

theorem XF.step {X : Nat} {m : Int} {a : Option Addr} {cap : Nat} {zs : List Int} {W W' : World} (h : XF X m a cap zs W) (hb : Below W.heap.size W W') : XF X m a cap zs W' :=
  ⟨(hb.cell (p := ⟨X, 0, none⟩) h.size).trans h.x0, (hb.cell (p := ⟨X, 1, none⟩) h.size).trans h.x1, (h.ints.below hb).mono hb.size, by have := h.size; have := hb.size; omega⟩

theorem XF.start (w : World) (m : Int) (a : Option Addr) (cap : Nat) (zs : List Int) (ha : Ints w w.heap.size a zs) : XF w.heap.size m a cap zs (w.alloc (.cells #[.int .i64 m, .slice a zs.length cap] 25)) :=
  ⟨blk_cell (alloc_new w _) 0, blk_cell (alloc_new w _) 1, (ha.below (below1 w _)).mono (by simp), by simp⟩

theorem XF.drew {X : Nat} {m : Int} {a : Option Addr} {cap : Nat} {zs : List Int} {W : World} (h : XF X m a cap zs W) : XF X m a cap zs W.drew := ⟨h.x0, h.x1, h.ints, h.size⟩
theorem bool_neq_self (b : Bool) : (b != b) = false := by cases b <;> rfl
end Go.Proofs.YtckbhhaigpajpaaDoor

/- It is proved how rows of ints of the call's own are read and kept; conditions: those of each statement. -/
namespace Go.Proofs.YtckbhhaigpajpaaDoor
open Go.RowKit Go.Shelf

theorem ownsRow_below {w w' : World} {B n : Nat} {v : Value} {xs : List Value} (h : w.ownsRow B 3 1 v n xs) (hb : Below w.heap.size w w') : w'.ownsRow B 3 1 v n xs :=
  World.ownsRow.kept h (only_of_below hb none) (by cases v.ownBlock <;> simp)

theorem OwnN.cap_le {w : World} {B : Nat} {a : Option Addr} {n cap : Nat} {zs : List Int} (h : OwnN w B a n cap zs) : n ≤ cap := by
  rcases h.2 with ⟨e, hn⟩ | ⟨g, c, cur, e, hb, hg, hc, _⟩
  · omega
  · injection e with e1 e2 e3
    omega

theorem OwnN.len {w : World} {B : Nat} {a : Option Addr} {n cap : Nat} {zs : List Int} (h : OwnN w B a n cap zs) : zs.length = n := by
  have := h.1; simpa using this

theorem OwnN.ints {w : World} {B : Nat} {a : Option Addr} {n cap : Nat} {zs : List Int} (h : OwnN w B a n cap zs) : Ints w w.heap.size a zs := by
  have hl := h.len
  subst hl
  exact own_ints (n := zs.length) (cap := cap) (B := B) h

theorem OwnN.base {w : World} {B B' : Nat} {a : Option Addr} {n cap : Nat} {zs : List Int} (h : OwnN w B a n cap zs) (hB : B' ≤ B) : OwnN w B' a n cap zs := ownsRow_base h hB
theorem OwnN.below {w w' : World} {B : Nat} {a : Option Addr} {n cap : Nat} {zs : List Int} (h : OwnN w B a n cap zs) (hb : Below w.heap.size w w') : OwnN w' B a n cap zs := ownsRow_below h hb
theorem OwnN.ne {w : World} {B : Nat} {a : Option Addr} {n cap : Nat} {zs : List Int} (h : OwnN w B a n cap zs) {b : Nat} (hb : b < B ∨ w.heap.size ≤ b) : (Value.slice a n cap).ownBlock ≠ some b := by
  intro e
  have := World.ownsRow.lt h b e
  omega

theorem OwnN.cell {w : World} {B g n cap : Nat} {ys : List Int} (h : OwnN w B (some ⟨g, 0, none⟩) n cap ys) {j : Nat} (hj : j < n) : w.cell? ⟨g, j, none⟩ = some (.int .i64 (ys[j]?.getD 0)) := by
  have hl := h.len
  have := World.ownsRow.cellAt h j (by omega)
  rw [this]; simp [show j < ys.length by omega]

theorem OwnN.cellz {w : World} {B g n cap : Nat} {ys : List Int} (h : OwnN w B (some ⟨g, 0, none⟩) n cap ys) {j : Nat} (hj : j < n) : w.cell? ⟨g, j, none⟩ = some (.int .i64 (ys[j]?.getD 0)) := h.cell hj
end Go.Proofs.YtckbhhaigpajpaaDoor
