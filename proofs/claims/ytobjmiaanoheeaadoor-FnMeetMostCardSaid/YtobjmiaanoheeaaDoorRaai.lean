/- It is proved how rows of ints of the call's own are read and kept; conditions: those of each statement. -/
import Derived.Test.YtobjmiaanoheeaaDoorRows
import Derived.WalkKit
import Derived.WalkSpells
import Derived.ProofKit
import Derived.OpenShut
import Derived.ShutString
import Derived.ChangeOld
import Derived.Below
import Derived.Deep.RegionHeld3
import Derived.Deep.QuietTactic
import Derived.BigQuiet
import Derived.Lib.Hide
import Derived.Lib.SmallJoins
import Derived.Outline
import Derived.Laws.MakeOwn
import Derived.Laws.OwnMore
import Derived.IntWalk
import Derived.RangeFuncNested
import Derived.RangeFuncBound
import Derived.RangeFuncCalls
import Derived.RangeFuncLeaves
import Derived.RangeFuncBox
import Derived.Shelf.Abstract
import Derived.Shelf.RegionOpen
import Derived.OwnWalkIn
import Derived.TacticsInMore
import Derived.LoopNIn
import Derived.LoopIn
import Derived.Maps.AppendAt
import Derived.Deep.AppendLies
import Derived.Test.YtobjmiaanoheeaaDoorRaaa
import Derived.Test.YtobjmiaanoheeaaDoorRaab
import Derived.Test.YtobjmiaanoheeaaDoorRaac
import Derived.RowKit
import Derived.Laws.CopyRow
import Derived.Lib.SlBuf
import Derived.RangeFuncWrites
import Derived.StillTailTactics
import Derived.Maps.OwnIn
import Derived.Maps.Ext
import Derived.DeepKeys4
import Derived.MapKept
import Derived.Lib.AppendZeros
import Derived.OwnWalk
import Derived.Lib.SlicesCompact
import Derived.Lib.OwnBridge
import Derived.OrdersIn
import Derived.TacticsIn
import Derived.Shelf.Sort.Plain
import Derived.Shelf.Slices.In.SortNone
import Derived.Shelf.Slices.CompactI
import Derived.Ground.Names2Prog
import Derived.Lib.SliceRun
import Derived.StillTail
import Derived.StillTactics
import Derived.Shelf.Spec.TrailingZeros
import Derived.Test.YtobjmiaanoheeaaDoorRaae
import Derived.Test.YtobjmiaanoheeaaDoorKa
import Derived.Test.YtobjmiaanoheeaaDoorRaah
import Derived.Test.YtobjmiaanoheeaaDoorRaad
namespace Go.Proofs.YtobjmiaanoheeaaDoor
open Go.RowKit Go.Shelf

theorem ownsRow_below {w w' : World} {B n : Nat} {v : Value} {xs : List Value} (h : w.ownsRow B 3 1 v n xs) (hb : Below w.heap.size w w') : w'.ownsRow B 3 1 v n xs :=
  World.ownsRow.kept h (only_of_below hb none) (by cases v.ownBlock <;> simp)

theorem OwnN.cap_le {w : World} {B : Nat} {a : Option Addr} {n cap : Nat} {zs : List Int} (h : OwnN w B a n cap zs) : n ≤ cap := by
  rcases h.2 with ⟨e, hn⟩ | ⟨g, c, cur, e, hb, hg, hc, _⟩
  · omega
  · injection e with e1 e2 e3
    omega

theorem OwnN.len {w : World} {B : Nat} {a : Option Addr} {n cap : Nat} {zs : List Int} (h : OwnN w B a n cap zs) : zs.length = n := by
  have := h.1; simpa using this

theorem OwnN.ints {w : World} {B : Nat} {a : Option Addr} {n cap : Nat} {zs : List Int} (h : OwnN w B a n cap zs) : Ints w w.heap.size a zs := by
  have hl := h.len
  subst hl
  exact own_ints (n := zs.length) (cap := cap) (B := B) h

theorem OwnN.base {w : World} {B B' : Nat} {a : Option Addr} {n cap : Nat} {zs : List Int} (h : OwnN w B a n cap zs) (hB : B' ≤ B) : OwnN w B' a n cap zs := ownsRow_base h hB
theorem OwnN.below {w w' : World} {B : Nat} {a : Option Addr} {n cap : Nat} {zs : List Int} (h : OwnN w B a n cap zs) (hb : Below w.heap.size w w') : OwnN w' B a n cap zs := ownsRow_below h hb
theorem OwnN.ne {w : World} {B : Nat} {a : Option Addr} {n cap : Nat} {zs : List Int} (h : OwnN w B a n cap zs) {b : Nat} (hb : b < B ∨ w.heap.size ≤ b) : (Value.slice a n cap).ownBlock ≠ some b := by
  intro e
  have := World.ownsRow.lt h b e
  omega

theorem OwnN.cell {w : World} {B g n cap : Nat} {ys : List Int} (h : OwnN w B (some ⟨g, 0, none⟩) n cap ys) {j : Nat} (hj : j < n) : w.cell? ⟨g, j, none⟩ = some (.int .i64 (ys[j]?.getD 0)) := by
  have hl := h.len
  have := World.ownsRow.cellAt h j (by omega)
  rw [this]; simp [show j < ys.length by omega]

theorem OwnN.cellz {w : World} {B g n cap : Nat} {ys : List Int} (h : OwnN w B (some ⟨g, 0, none⟩) n cap ys) {j : Nat} (hj : j < n) : w.cell? ⟨g, j, none⟩ = some (.int .i64 (ys[j]?.getD 0)) := h.cell hj
end Go.Proofs.YtobjmiaanoheeaaDoor

/- It is proved what missedBy and coveredBy return, and how a family in a captured variable grows; conditions: those of each statement. -/
namespace Go.Proofs.YtobjmiaanoheeaaDoor
open Go.RowKit Go.Shelf

attribute [local go_sem] Oper.semAt_some

/-- A family in a captured variable, its clubs in memory of the call's own. -/
def FamBox (D lo : Nat) (m : Int) (zs : List Int) (W : World) : Prop := ∃ v, HasBlk W D #[.int .i64 m, v] 25 ∧ W.ownsRow lo 3 1 v zs.length (zs.map (Value.int .i64))

theorem hasBlk_not_row {W : World} {B : Nat} {t e : TypeId} {cs : Array Value} (h : HasBlk W B cs t) (hte : t ≠ e) {base size k : Nat} {v : Value} {xs : List Value} (hr : W.ownsRow base e size v k xs) : some B ≠ v.ownBlock := by
  rcases hr.2 with ⟨rfl, _⟩ | ⟨g, cap, cur, rfl, _, hgb, _⟩
  · simp [Value.ownBlock]
  · intro e'
    obtain rfl : B = g := by simpa [Value.ownBlock] using e'
    have := (show W.heap[B]? = _ from h).symm.trans hgb
    simp at this
    exact hte this.2

theorem fam_ne : (25 : TypeId) ≠ 3 := by decide
theorem FamBox.own {β : Type} (D lo : Nat) (m : Int) (f : β → List Int) : Own (fun s W => FamBox D lo m (f s) W) := by
  rintro s X Y row ⟨v, hv, hr⟩ hg hrow
  refine ⟨v, hv.kept hg (fun e' => ?_), hr.kept hg ?_⟩
  · obtain ⟨o, ho, hc⟩ := hrow D e'
    rw [show X.heap[D]? = _ from hv] at ho; cases ho; cases hc
  · rcases hr.2 with ⟨rfl, _⟩ | ⟨g, cap, cur, rfl, _, hgb, _⟩
    · exact .inl rfl
    · refine .inr fun e' => ?_
      obtain ⟨o, ho, hc⟩ := hrow g (by simpa [Value.ownBlock] using e'.symm)
      rw [hgb] at ho; cases ho; cases hc

theorem set2_1 (m v v' : Value) : (#[m, v] : Array Value).setIfInBounds 1 v' = #[m, v'] := rfl
theorem FamBox.set {W : World} {D lo : Nat} {m : Int} {zs : List Int} {v v' : Value} (h : HasBlk W D #[.int .i64 m, v] 25) (hr : W.ownsRow lo 3 1 v' zs.length (zs.map (Value.int .i64))) : FamBox D lo m zs (W.setCell ⟨D, 1, none⟩ v') := by
  refine ⟨v', ?_, ?_⟩
  · have := heap_setCell_same W D 1 #[.int .i64 m, v] 25 v' h
    rw [set2_1] at this
    exact this
  · exact ownsRow_setCell_ne hr (by exact (hasBlk_not_row h fam_ne hr).symm) v'

/-- What a store back of a longer list leaves. -/
theorem FamBox.appended {W w1 : World} {D lo : Nat} {m : Int} {zs : List Int} {x : Int} {v v' : Value} {tmp : Obj} (hv : HasBlk W D #[.int .i64 m, v] 25) (hr : W.ownsRow lo 3 1 v zs.length (zs.map (Value.int .i64))) (hlo : lo ≤ W.heap.size) (hD : lo ≤ D)
    (hown : w1.ownsRow lo 3 1 v' (zs.length + 1) (zs.map (Value.int .i64) ++ [.int .i64 x])) (hgrow : (W.alloc tmp).grownBy w1 v.ownBlock) :
    HasBlk w1 D #[.int .i64 m, v] 25 ∧ FamBox D lo m (zs ++ [x]) (w1.setCell ⟨D, 1, none⟩ v') ∧ KeepsOthers W (w1.setCell ⟨D, 1, none⟩ v') ∧ Below lo W (w1.setCell ⟨D, 1, none⟩ v') := by
  have hv1 : HasBlk w1 D #[.int .i64 m, v] 25 := (hv.alloc tmp).kept hgrow (hasBlk_not_row hv fam_ne hr).symm
  refine ⟨hv1, FamBox.set hv1 (by rw [List.length_append, List.map_append]; exact hown), ?_, ?_⟩
  · refine ((KeepsOthers.alloc W tmp).trans (KeepsOthers.of_grownBy hgrow fun j o ej hj => ?_)).trans (KeepsOthers.setCell _ _ _)
    rcases (hr.alloc tmp).2 with ⟨rfl, _⟩ | ⟨g, cap, cur, rfl, _, hgb, _⟩
    · simp [Value.ownBlock] at ej
    · obtain rfl : g = j := by simpa [Value.ownBlock] using ej
      rw [hgb] at hj; cases hj; rfl
  · refine (((Below.refl lo W).alloc hlo tmp).grown hgrow (by simp; omega) fun j ej => ?_).setCell (p := ⟨D, 1, none⟩) hD v'
    rcases hr.2 with ⟨rfl, _⟩ | ⟨g, cap, cur, rfl, hb, _, _⟩
    · simp [Value.ownBlock] at ej
    · obtain rfl : g = j := by simpa [Value.ownBlock] using ej
      exact hb

theorem FamBox.alloc {W : World} {D lo : Nat} {m : Int} {zs : List Int} (h : FamBox D lo m zs W) (o : Obj) : FamBox D lo m zs (W.alloc o) := by
  obtain ⟨v, h1, h2⟩ := h
  exact ⟨v, h1.alloc o, h2.alloc o⟩

theorem FamBox.below {W W' : World} {D lo : Nat} {m : Int} {zs : List Int} (h : FamBox D lo m zs W) (hb : Below W.heap.size W W') : FamBox D lo m zs W' := by
  obtain ⟨v, h1, h2⟩ := h
  exact ⟨v, (hb.block _ (lt_of_some h1)).trans h1, ownsRow_below h2 hb⟩

/-- A new family in a captured variable, without clubs. -/
theorem FamBox.start (W : World) (lo : Nat) (m : Int) : FamBox W.heap.size lo m [] (W.alloc (.cells #[.int .i64 m, .slice none 0 0] 25)) :=
  ⟨_, alloc_new W _, World.ownsRow_nil _ _ _ _⟩

theorem obj_ne {cs cs' : Array Value} {t : TypeId} {z z' : Nat × Nat} (h : t ≠ 3) : Obj.cells cs t z ≠ Obj.cells cs' 3 z' := fun e => by injection e with _ e; exact h e
theorem HasBlk.butF {lo D l b : Nat} {A B : World} {cs : Array Value} {t : TypeId} (h : HasBlk A b cs t) (hb : ButF lo D l A B) (h1 : b ≠ l) (h2 : b ≠ D) (h3 : t ≠ 3) : HasBlk B b cs t := hb.keep h h1 h2 (fun _ _ _ => obj_ne h3)
theorem club_ne3 : (39 : TypeId) ≠ 3 := by decide
/-- The clubs that have no member in a set. -/
def missL (zs : List Int) (s : Nat) : List Int := zs.filter fun z => z.toNat &&& s == 0

theorem missL_snoc (zs : List Int) (z : Int) (s : Nat) : missL (zs ++ [z]) s = missL zs s ++ if z.toNat &&& s = 0 then [z] else [] := by
  rw [missL, List.filter_append]
  by_cases h : z.toNat &&& s = 0 <;> simp [missL, h]

theorem missL_len (zs : List Int) (s : Nat) : (missL zs s).length ≤ zs.length := List.length_filter_le _ _
theorem missL_cov (zs : List Int) (s : Nat) : ((missL zs s).length == 0) = covB zs s := by
  rw [Bool.eq_iff_iff, beq_iff_eq, List.length_eq_zero_iff, missL, List.filter_eq_nil_iff, covB_iff]
  simp

/-- Clubs are sets of m members, whatever their number. -/
def Sets (m : Nat) (zs : List Int) : Prop := ∀ z ∈ zs, 0 ≤ z ∧ z.toNat < 2 ^ m

def IsSet (m : Nat) (p : Nat × Int) : Prop := 0 ≤ p.2 ∧ p.2.toNat < 2 ^ m
theorem Sets.at_ {m : Nat} {zs : List Int} (h : Sets m zs) : ∀ k, k < zs.length → IsSet m (k, zs[k]?.getD 0) := fun k hk => by
  rw [List.getElem?_eq_getElem hk]
  exact h _ (List.getElem_mem hk)

theorem sets_of_fam {m : Nat} {zs : List Int} (h : famIn (m : Int) zs = true) : Sets m zs := fun z hz => by
  obtain ⟨h1, h2, -, h4⟩ := famIn_out h
  have := h4 z hz
  unfold fullI at this
  rw [Int.toNat_natCast] at this
  have e : (2 : Int) ^ m = ((2 ^ m : Nat) : Int) := by norm_cast
  omega

def sndL {m : Nat} (ys : List { p // IsSet m p }) : List Int := ys.map (·.1.2)
theorem sndL_snoc {m : Nat} (ys : List { p // IsSet m p }) (y : { p // IsSet m p }) : sndL (ys ++ [y]) = sndL ys ++ [y.1.2] := by simp [sndL]
theorem sndL_all {m : Nat} {zs : List Int} {ys : List { p // IsSet m p }} (h : ys.map (·.1) = pairs zs zs.length) : sndL ys = zs := by
  have := congrArg (List.map (·.2)) h
  rw [pairs_all, List.map_map] at this
  exact this

theorem sndL_len {m : Nat} (ys : List { p // IsSet m p }) : (sndL ys).length = ys.length := by simp [sndL]
end Go.Proofs.YtobjmiaanoheeaaDoor
