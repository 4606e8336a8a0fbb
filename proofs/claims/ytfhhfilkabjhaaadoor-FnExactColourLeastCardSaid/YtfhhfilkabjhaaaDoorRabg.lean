/- It is proved how boxed families keep what they hold while the laws go on; conditions: those of each statement. -/
import Derived.Test.YtfhhfilkabjhaaaDoorRows
import Derived.WalkKit
import Derived.WalkSpells
import Derived.ProofKit
import Derived.OpenShut
import Derived.ShutString
import Derived.ChangeOld
import Derived.Below
import Derived.Deep.RegionHeld3
import Derived.Deep.QuietTactic
import Derived.BigQuiet
import Derived.Lib.Hide
import Derived.Lib.SmallJoins
import Derived.Outline
import Derived.Laws.MakeOwn
import Derived.Laws.OwnMore
import Derived.IntWalk
import Derived.Test.YtfhhfilkabjhaaaDoorRaaa
import Derived.Test.YtfhhfilkabjhaaaDoorRaab
import Derived.Test.YtfhhfilkabjhaaaDoorRaaf
import Derived.RangeFuncNested
import Derived.RangeFuncBound
import Derived.RangeFuncCalls
import Derived.RangeFuncLeaves
import Derived.RangeFuncBox
import Derived.Shelf.Abstract
import Derived.Shelf.RegionOpen
import Derived.OwnWalkIn
import Derived.TacticsInMore
import Derived.LoopNIn
import Derived.LoopIn
import Derived.Maps.AppendAt
import Derived.Shelf.Spec.TrailingZeros
import Derived.Test.YtfhhfilkabjhaaaDoorRaad
import Derived.Test.YtfhhfilkabjhaaaDoorRabc
import Derived.Test.YtfhhfilkabjhaaaDoorRaae
import Derived.Lib.LaidTab
import Derived.LaidMore
import Derived.Stop.Joined
namespace Go.Proofs.YtfhhfilkabjhaaaDoor
open Go.RowKit

/-- What a function of a family and a bool returns: both, in new memory; nothing that lay has turned. -/
def RetFB (w : World) (m : Int) (zs : List Int) (ok : Bool) (e : Ending) (w' : World) : Prop :=
  ∃ a cap, e = .returned (.tuple #[.agg #[.int .i64 m, .slice a zs.length cap], .bool ok]) ∧ OwnI w' w.heap.size (.slice a zs.length cap) zs ∧ Below w.heap.size w w'

/-- A family in a box of the call's own: block X; its list lies in a block of lo, .., hi - 1, below X. -/
structure XB (X lo hi : Nat) (m : Int) (a : Option Addr) (n cap : Nat) (zs : List Int) (W : World) : Prop where
  x0 : W.cell? ⟨X, 0, none⟩ = some (.int .i64 m)
  x1 : W.cell? ⟨X, 1, none⟩ = some (.slice a n cap)
  own : OwnN W lo a n cap zs
  rng : ∀ g, (Value.slice a n cap).ownBlock = some g → lo ≤ g ∧ g < hi
  hiX : hi ≤ X
  size : X < W.heap.size

theorem XB.len {X lo hi : Nat} {m : Int} {a : Option Addr} {n cap : Nat} {zs : List Int} {W : World} (h : XB X lo hi m a n cap zs W) : zs.length = n := by
  have := h.own.1; simpa using this

theorem XB.ints {X lo hi : Nat} {m : Int} {a : Option Addr} {n cap : Nat} {zs : List Int} {W : World} (h : XB X lo hi m a n cap zs W) : Ints W W.heap.size a zs := by
  have h1 := h.own
  have hl := h.len
  subst hl
  exact own_ints (n := zs.length) (cap := cap) (B := lo) h1

/-- What keeps all blocks but row's keeps the box, if row's block is none of it. -/
theorem XB.kept {X lo hi : Nat} {m : Int} {a : Option Addr} {n cap : Nat} {zs : List Int} {W W' : World} {row : Option Nat} (h : XB X lo hi m a n cap zs W) (hg : W.grownBy W' row)
    (hr : ∀ g, row = some g → (g < lo ∨ hi ≤ g) ∧ g ≠ X) : XB X lo hi m a n cap zs W' := by
  have hX : ∀ o, W'.cell? ⟨X, o, none⟩ = W.cell? ⟨X, o, none⟩ := fun o =>
    World.cell?_of_block (a := ⟨X, o, none⟩) (hg.block X h.size (fun e => (hr X e.symm).2 rfl))
  refine ⟨(hX 0).trans h.x0, (hX 1).trans h.x1, World.ownsRow.kept h.own hg ?_, h.rng, h.hiX, Nat.lt_of_lt_of_le h.size hg.size⟩
  cases ho : (Value.slice a n cap).ownBlock with
  | none => exact .inl rfl
  | some g =>
    right
    intro e
    have h1 := h.rng g ho
    have h2 := hr g e.symm
    omega

theorem XB.step {X lo hi : Nat} {m : Int} {a : Option Addr} {n cap : Nat} {zs : List Int} {W W' : World} (h : XB X lo hi m a n cap zs W) (hb : Below W.heap.size W W') : XB X lo hi m a n cap zs W' :=
  h.kept (only_of_below hb none) (fun g e => by cases e)

theorem XB.drew {X lo hi : Nat} {m : Int} {a : Option Addr} {n cap : Nat} {zs : List Int} {W : World} (h : XB X lo hi m a n cap zs W) : XB X lo hi m a n cap zs W.drew :=
  ⟨h.x0, h.x1, h.own, h.rng, h.hiX, h.size⟩

/-- Its own list marked. -/
theorem XB.marked {X lo hi : Nat} {m : Int} {a : Option Addr} {n cap : Nat} {zs : List Int} {W W' : World} (h : XB X lo hi m a n cap zs W)
    (ho : OwnI W' lo (.slice a n cap) (marks n)) (hg : W.grownBy W' (Value.slice a n cap).ownBlock) : XB X lo hi m a n cap (marks n) W' := by
  have hX : ∀ o, W'.cell? ⟨X, o, none⟩ = W.cell? ⟨X, o, none⟩ := fun o =>
    World.cell?_of_block (a := ⟨X, o, none⟩) (hg.block X h.size (fun e => by have := h.rng X e.symm; have := h.hiX; omega))
  refine ⟨(hX 0).trans h.x0, (hX 1).trans h.x1, ?_, h.rng, h.hiX, Nat.lt_of_lt_of_le h.size hg.size⟩
  have := ho
  unfold OwnI at this
  rwa [marks_length] at this

/-- It begins: a list of the call's own, boxed. -/
theorem XB.start {w : World} {lo : Nat} {m : Int} {a : Option Addr} {cap : Nat} {zs : List Int} (ho : OwnI w lo (.slice a zs.length cap) zs) :
    XB w.heap.size lo w.heap.size m a zs.length cap zs (w.alloc (.cells #[.int .i64 m, .slice a zs.length cap] 27)) :=
  ⟨blk_cell (alloc_new w _) 0, blk_cell (alloc_new w _) 1, World.ownsRow.alloc ho _, fun g e => World.ownsRow.lt ho g e, Nat.le_refl _, by simp⟩

theorem XB.ownI {X lo hi : Nat} {m : Int} {a : Option Addr} {cap : Nat} {zs : List Int} {W : World} (h : XB X lo hi m a zs.length cap zs W) : OwnI W lo (.slice a zs.length cap) zs := h.own
theorem AF.kept {w : World} {m : Int} {a : Option Addr} {cap : Nat} {zs : List Int} {W W' : World} {row : Option Nat} (h : AF w m a cap zs W) (hg : W.grownBy W' row) (hr : ∀ g, row = some g → w.heap.size + 1 ≤ g) : AF w m a cap zs W' := by
  have hb : Below (w.heap.size + 1) W W' := (Below.refl _ _).grown hg h.size hr
  exact ⟨(hb.cell (p := ⟨w.heap.size, 0, none⟩) (by simp)).trans h.x0, (hb.cell (p := ⟨w.heap.size, 1, none⟩) (by simp)).trans h.x1, h.ints.below (hb.mono (by omega)),
    h.below.trans (hb.mono (by omega)), by have := h.size; have := hg.size; omega⟩

end Go.Proofs.YtfhhfilkabjhaaaDoor

/- It is proved that calls of exact laws of colours return true, given what the two functions return; conditions: those of each statement. -/
namespace Go.Proofs.YtfhhfilkabjhaaaDoor
open Go.RowKit

set_option maxRecDepth 100000 in
set_option maxHeartbeats 4000000 in
theorem walkColourMany (m : Int) (a : Option Addr) (cap : Nat) (zs : List Int) (x : Int) (r : Int) (ok : Bool) (w : World) (ha : Ints w w.heap.size a zs) (hn : zs.length ≤ 1048576)
    (hS : ∀ a cap W, Ints W W.heap.size a zs → Calls Tryd.prog 21 #[.agg #[.int .i64 m, .slice a zs.length cap], .int .i64 x] W (RetIB W r ok))
    (hT : Tab w) (hI : ∀ a cap W, Ints W W.heap.size a zs → Tab W → Calls Tryd.prog 22 #[.agg #[.int .i64 m, .slice a zs.length cap], .int .i64 x] W (RetIB W r ok)) :
    Calls Tryd.prog 5 #[.agg #[.int .i64 m, .slice a zs.length cap], .int .i64 x] w fun e w' => e = .returned (.bool true) ∧ Below w.heap.size w w' := by
  have HS := Lib.hid hS
  have HI := Lib.hid hI
  have HT := Lib.hid hT
  have S0 := AF.start w m a cap zs ha
  clear hS hI hT
  cases ok
  all_goals
    go_enter Tryd.func5, Tryd.ntmps5
    go_wp2_with fail
    refine (szFamily_any _ _ _ _ _ _ (by omega) (by omega) (by omega)).mono ?_
    rintro e w0 ⟨rfl, hb0⟩
    rw [if_neg (by omega)]
    have S1 := S0.step hb0
    clear S0 hb0
    have x0 := S1.x0
    have x1 := S1.x1
    go_wp2_with fail
    refine (toFamily_any _ _ _ zs _ S1.old hn).mono ?_
    rintro e w1 ⟨a1, c1, rfl, ho1, hb1⟩
    have S2 := S1.step hb1
    clear S1 hb1 x0 x1
    go_wp2_with fail
    refine (HS.out _ _ _ (own_ints ho1)).mono ?_
    rintro e w2 ⟨rfl, hb2⟩
    have S3 := S2.step hb2
    have x0 := S3.x0
    have x1 := S3.x1
    clear S2 hb2 ho1
    go_wp2_with fail
    refine (toFamily_any _ _ _ zs _ S3.old hn).mono ?_
    rintro e w4 ⟨a4, c4, rfl, ho4, hb4⟩
    have X5 := XB.start (m := m) ho4
    have S5 := (S3.step hb4).step (below1 w4 (.cells #[.int .i64 m, .slice a4 zs.length c4] 27))
    clear S3 hb4 ho4 x0 x1
    go_wp2_with fail
    refine (HI.out _ _ _ X5.ints (HT.out.below S5.below HT.out.lt)).mono ?_
    rintro e w6 ⟨rfl, hb6⟩
    have X8 := X5.step hb6
    have S8 := S5.step hb6
    clear S5 X5 hb6
    have x0 := S8.x0
    have x1 := S8.x1
    have y0 := X8.x0
    have y1 := X8.x1
    go_wp2_with fail
    have Sd := S8.drew
    have Xd := X8.drew
    clear S8 X8
    go_region_held3 (fun w' => w'.cell? ⟨w.heap.size, 0, none⟩ = some (.int .i64 m) ∧ w'.cell? ⟨w.heap.size, 1, none⟩ = some (.slice a zs.length cap) ∧ w'.cell? ⟨w4.heap.size, 0, none⟩ = some (.int .i64 m) ∧ w'.cell? ⟨w4.heap.size, 1, none⟩ = some (.slice a4 zs.length c4) ∧ Below w.heap.size w w')
      (first
        | exact ⟨Sd.x0, Sd.x1, Xd.x0, Xd.x1, Sd.below⟩
        | exact ⟨(Sd.step hb9).x0, (Sd.step hb9).x1, (Xd.step hb9).x0, (Xd.step hb9).x1, (Sd.step hb9).below⟩
        | exact ⟨((Sd.step hb9).step hb10).x0, ((Sd.step hb9).step hb10).x1, ((Xd.step hb9).step hb10).x0, ((Xd.step hb9).step hb10).x1, ((Sd.step hb9).step hb10).below⟩)
      (first
        | (go_at_call 12; refine (toFamily_any _ _ _ zs _ Sd.old hn).mono ?_; rintro e w9 ⟨a9, c9, rfl, ho9, hb9⟩)
        | (go_at_call 14; refine (eqFamily_any _ _ _ _ _ _ zs zs _ (Xd.step hb9).ints (own_ints ho9) hn hn).mono ?_; rintro e w10 ⟨rfl, hb10⟩; rw [sameF_self]))
    rename_i hHeld
    have HD := Lib.hid hHeld.2.2.2.2
    clear hHeld
    go_wp2
    go_ret
    exact ⟨rfl, HD.out⟩

end Go.Proofs.YtfhhfilkabjhaaaDoor

/- It is proved that what a row lists of the library's tables is what the walks ask of them; conditions: none but the row's. -/
namespace Go.Proofs.YtfhhfilkabjhaaaDoor
open Go.ChangeShapes Go.WideShapes Go.ChangeAt Go.RowKit Go.Joins

def laidL : List (String × DataW Unit) := [("math/bits.deBruijn32tab", Rows.laid_math_bits_deBruijn32tab), ("math/bits.deBruijn64tab", Rows.laid_math_bits_deBruijn64tab)]
theorem Tryd.g0 : Tryd.prog.globalNamed "math/bits.deBruijn32tab" = some 0 := by kernel_rfl
theorem Tryd.g1 : Tryd.prog.globalNamed "math/bits.deBruijn64tab" = some 1 := by kernel_rfl
theorem Tryd.tg0 : (Tryd.prog.globals[0]?).map (·.type) = some 102 := by kernel_rfl
theorem Tryd.tg1 : (Tryd.prog.globals[1]?).map (·.type) = some 103 := by kernel_rfl
theorem tab_is : (Rows.laid_math_bits_deBruijn64tab : DataW Unit) = Lib.tabData .u8 (Lib.deBruijn64tab.map fun (n : Nat) => (n : Int)) := rfl
/-- The door's own heap meets the condition: closed facts. -/
theorem door_met (os : Os) (args : Array Value) : laidMetH Tryd.prog laidL ((World.doorLaid Tryd.prog 40 os).forCall (fun _ _ => 0) ⟨#[], args, []⟩).memory :=
  laidMetH_of_parts3 (fuel := 8) (laidMet_of_run' 8 (by kernel_rfl) (by kernel_rfl)) (by kernel_rfl) (by kernel_rfl)

set_option maxRecDepth 100000 in
theorem tab_of_laid {W : World} (h : laidMetH Tryd.prog laidL W) : Tab W := by
  rw [MakeChecks.laidMetH_plain _ _ _ (by kernel_rfl)] at h
  obtain ⟨ps, ⟨g0, t0, cs0, f0, p0, q0, hg0, ht0, hv0, hd0, ⟨g1, t1, cs1, f1, p1, q1, hg1, ht1, hv1, hd1, _, _⟩, _⟩, _, _⟩ := h
  obtain rfl := Option.some.inj (Tryd.g1.symm.trans hg1)
  obtain rfl := Option.some.inj (Tryd.tg1.symm.trans ht1)
  rw [tab_is] at hd1
  have hcs := Lib.cells_of_tab (n := 64) (e := 5) Tryd.underlying103 Tryd.underlying5 (by kernel_rfl) (by kernel_rfl) hd1
  intro j hj
  have h1 := World.var?_cell hg1 hv1 j
  rw [h1, ← Array.getElem?_toList, hcs]
  simp [List.getD, hj]

end Go.Proofs.YtfhhfilkabjhaaaDoor
