/- It is proved what missedBy and coveredBy return, and how a family in a captured variable grows; conditions: those of each statement. -/
import Derived.RowKit
import Derived.Laws.CopyRow
import Derived.Lib.SlBuf
import Derived.Deep.QuietTactic
import Derived.RangeFuncNested
import Derived.RangeFuncBound
import Derived.RangeFuncCalls
import Derived.RangeFuncLeaves
import Derived.RangeFuncBox
import Derived.RangeFuncWrites
import Derived.StillTailTactics
import Derived.Maps.OwnIn
import Derived.Maps.Ext
import Derived.DeepKeys4
import Derived.MapKept
import Derived.Test.YtgjcjllhkkkioaaDoorRows
import Derived.WalkKit
import Derived.WalkSpells
import Derived.ProofKit
import Derived.OpenShut
import Derived.ShutString
import Derived.ChangeOld
import Derived.Below
import Derived.Deep.RegionHeld3
import Derived.BigQuiet
import Derived.Lib.Hide
import Derived.Lib.SmallJoins
import Derived.Outline
import Derived.Laws.MakeOwn
import Derived.Laws.OwnMore
import Derived.IntWalk
import Derived.Lib.AppendZeros
import Derived.Maps.AppendAt
import Derived.Deep.AppendLies
import Derived.OwnWalk
import Derived.Lib.SlicesCompact
import Derived.Lib.OwnBridge
import Derived.OrdersIn
import Derived.TacticsIn
import Derived.Shelf.Sort.Plain
import Derived.Shelf.Slices.In.SortNone
import Derived.Shelf.Slices.CompactI
import Derived.Ground.Names2Prog
import Derived.Lib.SliceRun
import Derived.Shelf.Abstract
import Derived.Shelf.RegionOpen
import Derived.OwnWalkIn
import Derived.TacticsInMore
import Derived.LoopNIn
import Derived.LoopIn
import Derived.StillTail
import Derived.StillTactics
import Derived.Shelf.Spec.TrailingZeros
import Derived.Test.YtgjcjllhkkkioaaDoorRaab
import Derived.Test.YtgjcjllhkkkioaaDoorRaad
import Derived.Test.YtgjcjllhkkkioaaDoorRaaf
import Derived.Test.YtgjcjllhkkkioaaDoorKa
import Derived.Test.YtgjcjllhkkkioaaDoorRaau
import Derived.Test.YtgjcjllhkkkioaaDoorRaah
namespace Go.Proofs.YtgjcjllhkkkioaaDoor
open Go.RowKit Go.Shelf

attribute [local go_sem] Oper.semAt_some

/-- A family in a captured variable, its clubs in memory of the call's own. -/
def FamBox (D lo : Nat) (m : Int) (zs : List Int) (W : World) : Prop := ∃ v, HasBlk W D #[.int .i64 m, v] 26 ∧ W.ownsRow lo 3 1 v zs.length (zs.map (Value.int .i64))

theorem hasBlk_not_row {W : World} {B : Nat} {t e : TypeId} {cs : Array Value} (h : HasBlk W B cs t) (hte : t ≠ e) {base size k : Nat} {v : Value} {xs : List Value} (hr : W.ownsRow base e size v k xs) : some B ≠ v.ownBlock := by
  rcases hr.2 with ⟨rfl, _⟩ | ⟨g, cap, cur, rfl, _, hgb, _⟩
  · simp [Value.ownBlock]
  · intro e'
    obtain rfl : B = g := by simpa [Value.ownBlock] using e'
    have := (show W.heap[B]? = _ from h).symm.trans hgb
    simp at this
    exact hte this.2

theorem fam_ne : (26 : TypeId) ≠ 3 := by decide
theorem FamBox.own {β : Type} (D lo : Nat) (m : Int) (f : β → List Int) : Own (fun s W => FamBox D lo m (f s) W) := by
  rintro s X Y row ⟨v, hv, hr⟩ hg hrow
  refine ⟨v, hv.kept hg (fun e' => ?_), hr.kept hg ?_⟩
  · obtain ⟨o, ho, hc⟩ := hrow D e'
    rw [show X.heap[D]? = _ from hv] at ho; cases ho; cases hc
  · rcases hr.2 with ⟨rfl, _⟩ | ⟨g, cap, cur, rfl, _, hgb, _⟩
    · exact .inl rfl
    · refine .inr fun e' => ?_
      obtain ⟨o, ho, hc⟩ := hrow g (by simpa [Value.ownBlock] using e'.symm)
      rw [hgb] at ho; cases ho; cases hc

theorem set2_1 (m v v' : Value) : (#[m, v] : Array Value).setIfInBounds 1 v' = #[m, v'] := rfl
theorem FamBox.set {W : World} {D lo : Nat} {m : Int} {zs : List Int} {v v' : Value} (h : HasBlk W D #[.int .i64 m, v] 26) (hr : W.ownsRow lo 3 1 v' zs.length (zs.map (Value.int .i64))) : FamBox D lo m zs (W.setCell ⟨D, 1, none⟩ v') := by
  refine ⟨v', ?_, ?_⟩
  · have := heap_setCell_same W D 1 #[.int .i64 m, v] 26 v' h
    rw [set2_1] at this
    exact this
  · exact ownsRow_setCell_ne hr (by exact (hasBlk_not_row h fam_ne hr).symm) v'

/-- What a store back of a longer list leaves. -/
theorem FamBox.appended {W w1 : World} {D lo : Nat} {m : Int} {zs : List Int} {x : Int} {v v' : Value} {tmp : Obj} (hv : HasBlk W D #[.int .i64 m, v] 26) (hr : W.ownsRow lo 3 1 v zs.length (zs.map (Value.int .i64))) (hlo : lo ≤ W.heap.size) (hD : lo ≤ D)
    (hown : w1.ownsRow lo 3 1 v' (zs.length + 1) (zs.map (Value.int .i64) ++ [.int .i64 x])) (hgrow : (W.alloc tmp).grownBy w1 v.ownBlock) :
    HasBlk w1 D #[.int .i64 m, v] 26 ∧ FamBox D lo m (zs ++ [x]) (w1.setCell ⟨D, 1, none⟩ v') ∧ KeepsOthers W (w1.setCell ⟨D, 1, none⟩ v') ∧ Below lo W (w1.setCell ⟨D, 1, none⟩ v') := by
  have hv1 : HasBlk w1 D #[.int .i64 m, v] 26 := (hv.alloc tmp).kept hgrow (hasBlk_not_row hv fam_ne hr).symm
  refine ⟨hv1, FamBox.set hv1 (by rw [List.length_append, List.map_append]; exact hown), ?_, ?_⟩
  · refine ((KeepsOthers.alloc W tmp).trans (KeepsOthers.of_grownBy hgrow fun j o ej hj => ?_)).trans (KeepsOthers.setCell _ _ _)
    rcases (hr.alloc tmp).2 with ⟨rfl, _⟩ | ⟨g, cap, cur, rfl, _, hgb, _⟩
    · simp [Value.ownBlock] at ej
    · obtain rfl : g = j := by simpa [Value.ownBlock] using ej
      rw [hgb] at hj; cases hj; rfl
  · refine (((Below.refl lo W).alloc hlo tmp).grown hgrow (by simp; omega) fun j ej => ?_).setCell (p := ⟨D, 1, none⟩) hD v'
    rcases hr.2 with ⟨rfl, _⟩ | ⟨g, cap, cur, rfl, hb, _, _⟩
    · simp [Value.ownBlock] at ej
    · obtain rfl : g = j := by simpa [Value.ownBlock] using ej
      exact hb

theorem FamBox.alloc {W : World} {D lo : Nat} {m : Int} {zs : List Int} (h : FamBox D lo m zs W) (o : Obj) : FamBox D lo m zs (W.alloc o) := by
  obtain ⟨v, h1, h2⟩ := h
  exact ⟨v, h1.alloc o, h2.alloc o⟩

theorem FamBox.below {W W' : World} {D lo : Nat} {m : Int} {zs : List Int} (h : FamBox D lo m zs W) (hb : Below W.heap.size W W') : FamBox D lo m zs W' := by
  obtain ⟨v, h1, h2⟩ := h
  exact ⟨v, (hb.block _ (lt_of_some h1)).trans h1, ownsRow_below h2 hb⟩

/-- A new family in a captured variable, without clubs. -/
theorem FamBox.start (W : World) (lo : Nat) (m : Int) : FamBox W.heap.size lo m [] (W.alloc (.cells #[.int .i64 m, .slice none 0 0] 26)) :=
  ⟨_, alloc_new W _, World.ownsRow_nil _ _ _ _⟩

theorem obj_ne {cs cs' : Array Value} {t : TypeId} {z z' : Nat × Nat} (h : t ≠ 3) : Obj.cells cs t z ≠ Obj.cells cs' 3 z' := fun e => by injection e with _ e; exact h e
theorem HasBlk.butF {lo D l b : Nat} {A B : World} {cs : Array Value} {t : TypeId} (h : HasBlk A b cs t) (hb : ButF lo D l A B) (h1 : b ≠ l) (h2 : b ≠ D) (h3 : t ≠ 3) : HasBlk B b cs t := hb.keep h h1 h2 (fun _ _ _ => obj_ne h3)
theorem club_ne3 : (59 : TypeId) ≠ 3 := by decide
/-- The clubs that have no member in a set. -/
def missL (zs : List Int) (s : Nat) : List Int := zs.filter fun z => z.toNat &&& s == 0

theorem missL_snoc (zs : List Int) (z : Int) (s : Nat) : missL (zs ++ [z]) s = missL zs s ++ if z.toNat &&& s = 0 then [z] else [] := by
  rw [missL, List.filter_append]
  by_cases h : z.toNat &&& s = 0 <;> simp [missL, h]

theorem missL_len (zs : List Int) (s : Nat) : (missL zs s).length ≤ zs.length := List.length_filter_le _ _
theorem missL_cov (zs : List Int) (s : Nat) : ((missL zs s).length == 0) = covB zs s := by
  rw [Bool.eq_iff_iff, beq_iff_eq, List.length_eq_zero_iff, missL, List.filter_eq_nil_iff, covB_iff]
  simp

/-- Clubs are sets of m members, whatever their number. -/
def Sets (m : Nat) (zs : List Int) : Prop := ∀ z ∈ zs, 0 ≤ z ∧ z.toNat < 2 ^ m

def IsSet (m : Nat) (p : Nat × Int) : Prop := 0 ≤ p.2 ∧ p.2.toNat < 2 ^ m
theorem Sets.at_ {m : Nat} {zs : List Int} (h : Sets m zs) : ∀ k, k < zs.length → IsSet m (k, zs[k]?.getD 0) := fun k hk => by
  rw [List.getElem?_eq_getElem hk]
  exact h _ (List.getElem_mem hk)

theorem sets_of_fam {m : Nat} {zs : List Int} (h : famIn (m : Int) zs = true) : Sets m zs := fun z hz => by
  obtain ⟨h1, h2, -, h4⟩ := famIn_out h
  have := h4 z hz
  unfold fullI at this
  rw [Int.toNat_natCast] at this
  have e : (2 : Int) ^ m = ((2 ^ m : Nat) : Int) := by norm_cast
  omega

def sndL {m : Nat} (ys : List { p // IsSet m p }) : List Int := ys.map (·.1.2)
theorem sndL_snoc {m : Nat} (ys : List { p // IsSet m p }) (y : { p // IsSet m p }) : sndL (ys ++ [y]) = sndL ys ++ [y.1.2] := by simp [sndL]
theorem sndL_all {m : Nat} {zs : List Int} {ys : List { p // IsSet m p }} (h : ys.map (·.1) = pairs zs zs.length) : sndL ys = zs := by
  have := congrArg (List.map (·.2)) h
  rw [pairs_all, List.map_map] at this
  exact this

theorem sndL_len {m : Nat} (ys : List { p // IsSet m p }) : (sndL ys).length = ys.length := by simp [sndL]
end Go.Proofs.YtgjcjllhkkkioaaDoor

/- It is proved that reducing a family leads to one family only, in whatever order it is done; conditions: those of each statement. -/
namespace Go.Proofs.YtgjcjllhkkkioaaDoor
open Go.RowKit

def Bt (v : Nat) (z : Int) : Bool := z.toNat.testBit v
end Go.Proofs.YtgjcjllhkkkioaaDoor

/- It is proved what a round of reducing does to a list of sets; conditions: those of each statement. -/
namespace Go.Proofs.YtgjcjllhkkkioaaDoor
open Go.RowKit

theorem bt_lt {m v : Nat} {z : Int} (h : z.toNat < 2 ^ m) (hb : Bt v z = true) : v < m := by
  by_cases e : v < m
  · exact e
  · unfold Bt at hb
    rw [Nat.testBit_lt_two_pow (Nat.lt_of_lt_of_le h (Nat.pow_le_pow_right (by decide) (by omega)))] at hb
    cases hb

end Go.Proofs.YtgjcjllhkkkioaaDoor

/- It is proved that members that may leave first may leave later, too, so that the first choice needs no way back; conditions: those of each statement. -/
namespace Go.Proofs.YtgjcjllhkkkioaaDoor
open Go.RowKit

/-- All members of the clubs with a member. -/
def arN (v : Nat) (zs : List Int) : Nat := (zs.filter (Bt v)).foldl (fun t z => t ||| z.toNat) 0

theorem arN_snoc (v : Nat) (zs : List Int) (z : Int) : arN v (zs ++ [z]) = if Bt v z = true then arN v zs ||| z.toNat else arN v zs := by
  unfold arN
  rw [List.filter_append]
  cases h : Bt v z <;> simp [h]

theorem fold_bit (i : Nat) : ∀ (l : List Int) (t : Nat), (l.foldl (fun t z => t ||| z.toNat) t).testBit i = (t.testBit i || l.any (Bt i))
  | [], t => by simp
  | z :: l, t => by rw [List.foldl_cons, fold_bit i l, Nat.testBit_or, List.any_cons, Bool.or_assoc]; rfl

theorem arN_bit (v : Nat) (zs : List Int) (i : Nat) : (arN v zs).testBit i = true ↔ ∃ z ∈ zs, Bt v z = true ∧ Bt i z = true := by
  unfold arN
  rw [fold_bit, Nat.zero_testBit, Bool.false_or, List.any_eq_true]
  constructor
  · rintro ⟨z, hz, hb⟩
    obtain ⟨h1, h2⟩ := List.mem_filter.1 hz
    exact ⟨z, h1, h2, hb⟩
  · rintro ⟨z, h1, h2, hb⟩
    exact ⟨z, List.mem_filter.2 ⟨h1, h2⟩, hb⟩

theorem arN_lt {m v : Nat} {zs : List Int} (hS : Sets m zs) : arN v zs < 2 ^ m := by
  apply Nat.lt_pow_two_of_testBit
  intro i hi
  cases hb : (arN v zs).testBit i
  · rfl
  · obtain ⟨z, hz, _, h2⟩ := (arN_bit v zs i).1 hb
    have := bt_lt (hS z hz).2 h2
    omega

end Go.Proofs.YtgjcjllhkkkioaaDoor
